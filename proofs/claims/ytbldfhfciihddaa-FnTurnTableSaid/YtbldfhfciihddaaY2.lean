/-
  spec.ValidRing, OwnerOf, SharesOf.
-/
import Derived.Deep.OwnRows
import Derived.Test.YtbldfhfciihddaaY1
namespace Go.Proofs.Ytbldfhfciihddaa
open Go.RowKit

theorem specValidRing_any (a : Option Addr) (l : List Int) (cap : Nat) (w : World) (hr : Reads w a l) (_hi : ∀ n ∈ l, In64 n) (hl : l.length ≤ 1048586) (hcap : l.length ≤ cap) :
    Calls Try.prog 21 #[.slice a l.length cap] w fun e w' => e = .returned (.bool (VR l)) ∧ Below w.heap.size w w' := by
  go_enter Try.func21, Try.ntmps21
  go_wp2_with (go_at_call 60; refine (specvalidRing_any a l cap _ hr hl hcap).mono ?_; rintro e w' ⟨rfl, n, rfl⟩)
  go_ret
  exact ⟨rfl, below_drewN (Below.refl _ _) n⟩

set_option maxHeartbeats 2000000 in
theorem specOwnerOf_any (a : Option Addr) (l : List Int) (cap : Nat) (k : Int) (w : World) (hr : Reads w a l) (_hi : ∀ n ∈ l, In64 n) (hl : l.length ≤ 1048586) (hcap : l.length ≤ cap) (_hk : In64 k) :
    Calls Try.prog 24 #[.slice a l.length cap, .int .i64 k] w fun e w' => e = .returned (.int .i64 (OW l k)) ∧ Below w.heap.size w w' := by
  have cV := specvalidRing_any a l cap w hr hl hcap
  obtain ⟨R, hR⟩ : ∃ R, R = OW l k := ⟨_, rfl⟩
  rw [← hR]
  have HR := Lib.hid hR
  clear hR
  by_cases hv : VR l = true
  · rw [hv] at cV
    have CV := Lib.hid cV
    clear cV
    by_cases g2 : inR k 0 63 = true
    · obtain ⟨k0, k1⟩ := inR_iff.1 g2
      have e := OW_yes hv k0 k1
      rw [← HR.out] at e
      have cI := fun wx => inRange_any k 0 63 wx
      rw [g2] at cI
      have CI := Lib.hid cI
      have CO := Lib.hid (fun n => specowner_any a l cap k (w.drewN n) hr hv k0 k1)
      have E := Lib.hid e
      clear cI e g2 hv
      go_enter Try.func24, Try.ntmps24
      go_wp2_with fail
      refine CV.out.mono ?_
      rintro e w' ⟨rfl, n, rfl⟩
      go_wp2_with fail
      refine (CI.out _).mono ?_
      rintro e w2 ⟨rfl, rfl⟩
      go_wp2_with fail
      refine (CO.out n).mono ?_
      rintro e w2 ⟨rfl, n2, rfl⟩
      rw [← E.out]
      go_wp2
      go_ret
      exact ⟨rfl, below_drewN (Below.refl _ _) _⟩
    · have e : R = -1 := by rw [HR.out]; exact OW_no fun h => g2 (inR_iff.2 h.2)
      subst e
      have cI := fun wx => inRange_any k 0 63 wx
      rw [show inR k 0 63 = false from by simpa using g2] at cI
      have CI := Lib.hid cI
      clear cI g2 hv
      go_enter Try.func24, Try.ntmps24
      go_wp2_with fail
      refine CV.out.mono ?_
      rintro e w' ⟨rfl, n, rfl⟩
      go_wp2_with fail
      refine (CI.out _).mono ?_
      rintro e w2 ⟨rfl, rfl⟩
      go_wp2
      go_ret
      exact ⟨rfl, below_drewN (Below.refl _ _) n⟩
  · have e : R = -1 := by rw [HR.out]; exact OW_no fun h => hv h.1
    subst e
    rw [show VR l = false from by simpa using hv] at cV
    have CV := Lib.hid cV
    clear cV hv
    go_enter Try.func24, Try.ntmps24
    go_wp2_with fail
    refine CV.out.mono ?_
    rintro e w' ⟨rfl, n, rfl⟩
    go_wp2
    go_ret
    exact ⟨rfl, below_drewN (Below.refl _ _) n⟩

theorem made_tabR (w : World) (base n : Nat) (hb : base ≤ w.heap.size) (hn : n ≤ 100) : Tab (w.alloc (.cells (madeCells #[.int .i64 0] n) 3)) base w.heap.size n n (List.replicate n 0) := by
  have e := toList_madeCells_one (Value.int .i64 0) n
  have := World.ownsRow_lit (e := 3) (size := 1) (base := base) w (madeCells #[.int .i64 0] n) n hb (by unfold maxLen; omega) (by rw [← Array.length_toList, e]; simp)
  rw [e] at this
  unfold Tab
  rw [List.map_replicate]
  exact this

set_option maxHeartbeats 4000000 in
theorem specSharesOf_any (a : Option Addr) (l : List Int) (cap : Nat) (w : World) (hr : Reads w a l) (_hi : ∀ n ∈ l, In64 n) (hl : l.length ≤ 1048586) (hcap : l.length ≤ cap) :
    Calls Try.prog 29 #[.slice a l.length cap] w fun e w' => ∃ v, e = .returned v ∧ Own w' w.heap.size v (SH l) ∧ Below w.heap.size w w' := by
  have cV := specvalidRing_any a l cap w hr hl hcap
  obtain ⟨R, hR⟩ : ∃ R, R = SH l := ⟨_, rfl⟩
  rw [← hR]
  have HR := Lib.hid hR
  clear hR
  by_cases hv : VR l = true
  · rw [hv] at cV
    have CV := Lib.hid cV
    have hl1 := (VR_iff.1 hv).1
    have hl6 := (VR_iff.1 hv).2.1
    have e : R = shr l 64 := by rw [HR.out]; unfold SH; rw [if_pos hv]
    have E := Lib.hid e
    have CO := Lib.hid (fun wx h k h1 h2 => specowner_any a l cap k wx h hv h1 h2)
    have HV := Lib.hid hv
    clear cV e hv
    obtain ⟨N, hN⟩ : ∃ N, N = l.length := ⟨_, rfl⟩
    have hmk := run_make_row' (P := Try.prog) 23 3 (.int .i64 0) 8 Try.underlying23 infoInt rfl .i64 .i64 l.length (by omega) (by omega)
    have xA := fun n => made_tabR (w.drewN n) w.heap.size l.length (Nat.le_refl _) (by omega)
    obtain ⟨BB, hBB⟩ : ∃ BB, BB = madeCells #[.int .i64 0] l.length := ⟨_, rfl⟩
    rw [← hBB] at hmk xA
    have XA := Lib.hid xA
    clear hBB xA
    go_enter Try.func29, Try.ntmps29
    go_wp2_with fail
    refine CV.out.mono ?_
    rintro e w' ⟨rfl, n, rfl⟩
    have bA := (below_drewN (Below.refl w.heap.size w) n).alloc (Nat.le_refl _) (.cells BB 3)
    go_wp2_with fail
    go_loopw [4] (fun iv wr => ∃ j : Nat, j ≤ 64 ∧ iv = .int .i64 j ∧ Tab wr w.heap.size w.heap.size l.length l.length (shr l j) ∧ Below w.heap.size w wr) (fun iv _ => 64 - (intOf iv).toNat)
    case atStart => exact ⟨0, by omega, rfl, XA.out n, bA⟩
    case round =>
      clear bA hmk
      obtain ⟨j, hj, rfl, hT, hB⟩ := hrel
      by_cases hj6 : j < 64
      · have hj1 : (j : Int) < 64 := by omega
        have ho := own_lt (k := (j : Int)) HV.out
        have hnn := shr_nn HV.out j _ ho
        have hsh : shr l (j + 1) = (shr l j).set (own l j) ((shr l j).getD (own l j) 0 + 1) := rfl
        have cO := CO.out wr (hr.below hB) (j : Int) (by omega) (by omega)
        have cO2 := fun n => CO.out (wr.drewN n) (hr.below (below_drewN hB n)) (j : Int) (by omega) (by omega)
        obtain ⟨s, hs⟩ : ∃ s, s = own l (j : Int) := ⟨_, rfl⟩
        rw [← hs] at ho hnn hsh cO
        have cO2' : ∀ n, Calls Try.prog 65 #[.slice a l.length cap, .int .i64 (j : Int)] (wr.drewN n) fun e w' => e = .returned (.int .i64 (s : Int)) ∧ ∃ m, w' = (wr.drewN n).drewN m := fun n => by have := cO2 n; rwa [← hs] at this
        have C1 := Lib.hid cO
        have C2 := Lib.hid cO2'
        obtain ⟨y, hcy, hy⟩ := hT.get (k := s) ho
        have hfz := hT.frozen s
        rw [hy.out] at hsh hnn
        have hyw : IntKind.i64.wrap (y + 1) = y + 1 := IntWalk.i64_in _ (by omega)
        have hst := fun n => (hT.below (below_drewN (Below.refl _ wr) n)).store s (y + 1)
        have hs1 : (s : Int) < (l.length : Int) := by omega
        have HSH := Lib.hid hsh
        have HST := Lib.hid hst
        clear hs hsh cO cO2 cO2' hst hy
        go_wp2_with fail
        refine C1.out.mono ?_
        rintro e w2 ⟨rfl, n1, rfl⟩
        go_wp2_with fail
        refine (C2.out n1).mono ?_
        rintro e w2 ⟨rfl, n2, rfl⟩
        go_wp2
        go_roundw
        case rel => exact ⟨j + 1, by omega, by go_num, by rw [HSH.out]; exact HST.out _, (below_drewN hB _).setCell (p := ⟨w.heap.size, s, none⟩) (Nat.le_refl _) _⟩
        case measure => simp [intOf]; omega
      · obtain rfl : j = 64 := by omega
        have ho := hT.own
        rw [← E.out] at ho
        have hlR : R.length = l.length := by rw [E.out, shr_len]
        go_wp2
        go_ret
        exact ⟨_, rfl, ho, hB⟩
  · have e : R = [] := by rw [HR.out]; unfold SH; rw [if_neg hv]
    subst e
    rw [show VR l = false from by simpa using hv] at cV
    have CV := Lib.hid cV
    clear cV hv
    go_enter Try.func29, Try.ntmps29
    go_wp2_with fail
    refine CV.out.mono ?_
    rintro e w' ⟨rfl, n, rfl⟩
    go_wp2
    go_ret
    exact ⟨_, rfl, Own.nil _ _, below_drewN (Below.refl _ _) n⟩
end Go.Proofs.Ytbldfhfciihddaa
