/-
  impl.isSlot, isPlace, slices.Contains, impl.ValidRing.
-/
import Derived.Test.YtbldfhfciihddaaY1
namespace Go.Proofs.Ytbldfhfciihddaa
open Go.RowKit

set_option maxHeartbeats 400000 in
theorem isSlotR_any (m x : Int) (w : World) :
    Calls Try.prog 83 #[.int .i64 m, .int .i64 x] w fun e w' => e = .returned (.bool (decide (0 ≤ x) && decide (x < m))) ∧ w = w' := by
  by_cases h1 : 0 ≤ x
  · have hd : decide (0 ≤ x) = true := by simp [h1]
    go_enter Try.func83, Try.ntmps83
    go_wp2
    go_ret
    exact ⟨ret_bool (by simp [h1]), rfl⟩
  · have hd : decide (0 ≤ x) = false := by simpa using h1
    go_enter Try.func83, Try.ntmps83
    go_wp2
    go_ret
    exact ⟨ret_bool (by simp [h1]), rfl⟩

theorem isPlace_any (x : Int) (w : World) :
    Calls Try.prog 58 #[.int .i64 x] w fun e w' => e = .returned (.bool (inR x 0 63)) ∧ w = w' := by
  have c := isSlotR_any 64 x w
  have e : (decide (0 ≤ x) && decide (x < 64)) = inR x 0 63 := by
    rw [Bool.eq_iff_iff, inR_iff, Bool.and_eq_true, decide_eq_true_eq, decide_eq_true_eq]; omega
  rw [e] at c
  obtain ⟨R, hR⟩ : ∃ R, R = inR x 0 63 := ⟨_, rfl⟩
  rw [← hR] at c ⊢
  have C := Lib.hid c
  clear c hR e
  go_enter Try.func58, Try.ntmps58
  go_wp2_with fail
  refine C.out.mono ?_
  rintro e w' ⟨rfl, rfl⟩
  go_wp2
  go_ret
  exact ⟨rfl, rfl⟩

theorem contains_take_succR {t : List Int} {k : Nat} (h : k < t.length) (x : Int) : (t.take (k + 1)).contains x = ((t.take k).contains x || (t.getD k 0 == x)) := by
  rw [List.take_succ_eq_append_getElem h, List.contains_append]
  have : t.getD k 0 = t[k] := by simp [List.getD, h]
  rw [this]
  simp only [List.contains_cons, List.contains_nil, Bool.or_false]
  congr 1
  rw [Bool.eq_iff_iff]; simp; exact eq_comm
def IdxPostR (b : Bool) (w : World) (e : Ending) (w' : World) : Prop := ∃ r : Int, e = .returned (.int .i64 r) ∧ b = decide (0 ≤ r) ∧ w = w'
set_option maxHeartbeats 400000 in
theorem indexR_any (a : Option Addr) (l : List Int) (n cap : Nat) (x : Int) (w : World) (hr : Reads w a l) (hn : l.length = n) (hl : n ≤ 1048586) :
    Calls Try.prog 84 #[.slice a n cap, .int .i64 x] w (IdxPostR (l.contains x) w) := by
  subst hn
  obtain ⟨R, hR⟩ : ∃ R, R = l.contains x := ⟨_, rfl⟩
  rw [← hR]
  have HR := Lib.hid hR
  clear hR
  go_enter Try.func84, Try.ntmps84
  go_wp2
  go_loop [8] (fun i => ∃ k : Nat, k ≤ l.length ∧ i = .int .i64 k ∧ Hid ((l.take k).contains x = false)) (fun i => l.length - (intOf i).toNat)
  case atStart => exact ⟨0, Nat.zero_le _, rfl, (by show _ = _; simp)⟩
  case round =>
    obtain ⟨k, hk, rfl, hf⟩ := hrel
    by_cases hlt : k < l.length
    · obtain ⟨b, off, y, rfl, hbb, hcell, hy⟩ := hr.get hlt
      have hs := contains_take_succR hlt x
      rw [hf.out, hy.out] at hs
      by_cases e : y = x
      · have hd : (x == y) = true := by simp [e]
        have hd0 : (y == x) = true := by simp [e]
        have ht : R = true := by
          rw [HR.out]
          rw [hd0] at hs
          have : x ∈ l.take (k + 1) := by simpa using hs
          simpa using List.mem_of_mem_take this
        have HT := Lib.hid ht
        clear ht hs e hd0
        go_wp2
        go_ret
        exact ⟨_, rfl, by rw [HT.out]; simp, rfl⟩
      · have hd : (x == y) = false := by simp; omega
        have hd0 : (y == x) = false := by simpa using e
        rw [hd0] at hs
        have hs2 : (l.take (k + 1)).contains x = false := by rw [hs]; rfl
        have HS := Lib.hid hs2
        clear hs hs2 e hd0
        go_wp2
        go_round
        case rel => exact ⟨k + 1, by omega, by go_num, HS⟩
        case measure => simp [intOf]; omega
    · obtain rfl : k = l.length := by omega
      have ht : R = false := by rw [HR.out]; have := hf.out; rwa [List.take_length] at this
      have HT := Lib.hid ht
      clear ht
      go_wp2
      go_ret
      exact ⟨_, rfl, by rw [HT.out]; rfl, rfl⟩
theorem containsR_any (a : Option Addr) (l : List Int) (n cap : Nat) (x : Int) (w : World) (hr : Reads w a l) (hn : l.length = n) (hl : n ≤ 1048586) :
    Calls Try.prog 59 #[.slice a n cap, .int .i64 x] w fun e w' => e = .returned (.bool (l.contains x)) ∧ w = w' := by
  obtain ⟨R, hR⟩ : ∃ R, R = l.contains x := ⟨_, rfl⟩
  have c := indexR_any a l n cap x w hr hn hl
  rw [← hR] at c ⊢
  clear hR
  go_enter Try.func59, Try.ntmps59
  go_wp2_with fail
  refine c.mono ?_
  rintro e w' ⟨r, rfl, hb, rfl⟩
  have HB := Lib.hid hb
  clear hb c
  go_wp2
  go_ret
  exact ⟨ret_bool HB.out.symm, rfl⟩


set_option maxHeartbeats 2000000 in
theorem implValidRing_any (a : Option Addr) (l : List Int) (cap : Nat) (w : World) (hr : Reads w a l) (_hi : ∀ n ∈ l, In64 n) (hl : l.length ≤ 1048586) (hcap : l.length ≤ cap) :
    Calls Try.prog 20 #[.slice a l.length cap] w fun e w' => e = .returned (.bool (VR l)) ∧ Below w.heap.size w w' := by
  by_cases h1 : l.length < 1
  · have hv : VR l = false := VR_false fun h => by have := h.1; omega
    have h0 : l.length = 0 := by omega
    rw [hv, h0]
    go_enter Try.func20, Try.ntmps20
    go_wp2
    go_ret
    exact ⟨rfl, Below.refl _ _⟩
  · by_cases h6 : 6 < l.length
    · have hv : VR l = false := VR_false fun h => by have := h.2.1; omega
      have HV := Lib.hid hv
      clear hv
      have g1 : ¬ (l.length : Int) < 1 := by omega
      have g2 : (6 : Int) < (l.length : Int) := by omega
      go_enter Try.func20, Try.ntmps20
      go_wp2
      go_ret
      exact ⟨ret_bool HV.out.symm, Below.refl _ _⟩
    · have g1 : ¬ (l.length : Int) < 1 := by omega
      have g2 : ¬ (6 : Int) < (l.length : Int) := by omega
      have HL := Lib.hid (show 1 ≤ l.length ∧ l.length ≤ 6 from by omega)
      go_enter Try.func20, Try.ntmps20
      go_wp2
      go_loop [15] (fun i => ∃ k : Nat, k ≤ l.length ∧ i = .int .i64 k ∧ Hid (FitV l k)) (fun i => l.length - (intOf i).toNat)
      case atStart => exact ⟨0, Nat.zero_le _, rfl, FitV.zero l⟩
      case round =>
        obtain ⟨k, hk, rfl, hf⟩ := hrel
        by_cases hlt : k < l.length
        · obtain ⟨b, off, y, rfl, hbb, hcell, hy⟩ := hr.get hlt
          have hk2 : (k : Int) < (l.length : Int) := by omega
          have hk3 : (k : Int) ≤ (cap : Int) := by omega
          have hkl : (l.take k).length = k := by rw [List.length_take]; omega
          have cP := fun wx => isPlace_any y wx
          have cC := fun wx h => containsR_any (some ⟨b, off, none⟩) (l.take k) k cap y wx h hkl (by omega)
          by_cases g3 : inR y 0 63 = true
          · rw [g3] at cP
            have CP := Lib.hid cP
            have r1 := inR_iff.1 g3
            clear cP g3
            by_cases g4 : (l.take k).contains y = true
            · rw [g4] at cC
              have CC := Lib.hid cC
              have hv : VR l = false := VR_bad2 hlt (by rw [hy.out]; simpa using g4)
              have HV := Lib.hid hv
              clear cC g4 hv hy
              go_wp2_with fail
              refine (CP.out _).mono ?_
              rintro e w' ⟨rfl, rfl⟩
              go_wp2_with fail
              refine (CC.out _ (hr.take' k)).mono ?_
              rintro e w' ⟨rfl, rfl⟩
              go_wp2
              go_ret
              exact ⟨ret_bool HV.out.symm, Below.refl _ _⟩
            · have hn := hf.out.succ (by rw [hy.out]; exact r1.1) (by rw [hy.out]; exact r1.2) (by rw [hy.out]; simpa using g4)
              rw [show (l.take k).contains y = false from by simpa using g4] at cC
              have CC := Lib.hid cC
              have HN := Lib.hid hn
              clear cC g4 hn hy
              go_wp2_with fail
              refine (CP.out _).mono ?_
              rintro e w' ⟨rfl, rfl⟩
              go_wp2_with fail
              refine (CC.out _ (hr.take' k)).mono ?_
              rintro e w' ⟨rfl, rfl⟩
              go_wp2
              go_round
              case rel => exact ⟨k + 1, by omega, by go_num, HN⟩
              case measure => simp [intOf]; omega
          · rw [show inR y 0 63 = false from by simpa using g3] at cP
            have CP := Lib.hid cP
            have hv : VR l = false := VR_bad1 hlt (by rw [hy.out]; exact fun h => g3 (inR_iff.2 h))
            have HV := Lib.hid hv
            clear cP g3 hv hy cC
            go_wp2_with fail
            refine (CP.out _).mono ?_
            rintro e w' ⟨rfl, rfl⟩
            go_wp2
            go_ret
            exact ⟨ret_bool HV.out.symm, Below.refl _ _⟩
        · obtain rfl : k = l.length := by omega
          have hv : VR l = true := VR_iff.2 ⟨HL.out.1, HL.out.2, hf.out⟩
          have HV := Lib.hid hv
          clear hv
          go_wp2
          go_ret
          exact ⟨ret_bool HV.out.symm, Below.refl _ _⟩
end Go.Proofs.Ytbldfhfciihddaa
