
import Derived.Test.YtoaiaindcmihjaaGreatDoorMvd
import Derived.Deep.OwnRows
import Derived.Test.YtoaiaindcmihjaaGreatDoorMva
import Derived.Test.YtoaiaindcmihjaaGreatDoorMve
import Derived.Laws.EntriesVeiled
import Derived.Deep.LoopGhost
import Derived.Deep.DeepCutAuto
import Derived.Deep.RegionHeld3
/-
  impl.isSlot, isPlace, slices.Contains, impl.ValidRing.
-/
namespace Go.Proofs.YtoaiaindcmihjaaGreatDoor
open Go.RowKit

set_option maxHeartbeats 400000 in
theorem isSlotR_any (m x : Int) (w : World) :
    Calls Tryz.prog 177 #[.int .i64 m, .int .i64 x] w fun e w' => e = .returned (.bool (decide (0 ≤ x) && decide (x < m))) ∧ w = w' := by
  by_cases h1 : 0 ≤ x
  · have hd : decide (0 ≤ x) = true := by simp [h1]
    go_enter Tryz.func177, Tryz.ntmps177
    go_wp2
    go_ret
    exact ⟨ret_bool (by simp [h1]), rfl⟩
  · have hd : decide (0 ≤ x) = false := by simpa using h1
    go_enter Tryz.func177, Tryz.ntmps177
    go_wp2
    go_ret
    exact ⟨ret_bool (by simp [h1]), rfl⟩

theorem isPlace_any (x : Int) (w : World) :
    Calls Tryz.prog 158 #[.int .i64 x] w fun e w' => e = .returned (.bool (inR x 0 63)) ∧ w = w' := by
  have c := isSlotR_any 64 x w
  have e : (decide (0 ≤ x) && decide (x < 64)) = inR x 0 63 := by
    rw [Bool.eq_iff_iff, inR_iff, Bool.and_eq_true, decide_eq_true_eq, decide_eq_true_eq]; omega
  rw [e] at c
  obtain ⟨R, hR⟩ : ∃ R, R = inR x 0 63 := ⟨_, rfl⟩
  rw [← hR] at c ⊢
  have C := Lib.hid c
  clear c hR e
  go_enter Tryz.func158, Tryz.ntmps158
  go_wp2_with fail
  refine C.out.mono ?_
  rintro e w' ⟨rfl, rfl⟩
  go_wp2
  go_ret
  exact ⟨rfl, rfl⟩

theorem contains_take_succR {t : List Int} {k : Nat} (h : k < t.length) (x : Int) : (t.take (k + 1)).contains x = ((t.take k).contains x || (t.getD k 0 == x)) := by
  rw [List.take_succ_eq_append_getElem h, List.contains_append]
  have : t.getD k 0 = t[k] := by simp [List.getD, h]
  rw [this]
  simp only [List.contains_cons, List.contains_nil, Bool.or_false]
  congr 1
  rw [Bool.eq_iff_iff]; simp; exact eq_comm
def IdxPostR (b : Bool) (w : World) (e : Ending) (w' : World) : Prop := ∃ r : Int, e = .returned (.int .i64 r) ∧ b = decide (0 ≤ r) ∧ w = w'
set_option maxHeartbeats 400000 in
theorem indexR_any (a : Option Addr) (l : List Int) (n cap : Nat) (x : Int) (w : World) (hr : Reads w a l) (hn : l.length = n) (hl : n ≤ 1048586) :
    Calls Tryz.prog 178 #[.slice a n cap, .int .i64 x] w (IdxPostR (l.contains x) w) := by
  subst hn
  obtain ⟨R, hR⟩ : ∃ R, R = l.contains x := ⟨_, rfl⟩
  rw [← hR]
  have HR := Lib.hid hR
  clear hR
  go_enter Tryz.func178, Tryz.ntmps178
  go_wp2
  go_loop [8] (fun i => ∃ k : Nat, k ≤ l.length ∧ i = .int .i64 k ∧ Hid ((l.take k).contains x = false)) (fun i => l.length - (intOf i).toNat)
  case atStart => exact ⟨0, Nat.zero_le _, rfl, (by show _ = _; simp)⟩
  case round =>
    obtain ⟨k, hk, rfl, hf⟩ := hrel
    by_cases hlt : k < l.length
    · obtain ⟨b, off, y, rfl, hbb, hcell, hy⟩ := hr.get hlt
      have hs := contains_take_succR hlt x
      rw [hf.out, hy.out] at hs
      by_cases e : y = x
      · have hd : (x == y) = true := by simp [e]
        have hd0 : (y == x) = true := by simp [e]
        have ht : R = true := by
          rw [HR.out]
          rw [hd0] at hs
          have : x ∈ l.take (k + 1) := by simpa using hs
          simpa using List.mem_of_mem_take this
        have HT := Lib.hid ht
        clear ht hs e hd0
        go_wp2
        go_ret
        exact ⟨_, rfl, by rw [HT.out]; simp, rfl⟩
      · have hd : (x == y) = false := by simp; omega
        have hd0 : (y == x) = false := by simpa using e
        rw [hd0] at hs
        have hs2 : (l.take (k + 1)).contains x = false := by rw [hs]; rfl
        have HS := Lib.hid hs2
        clear hs hs2 e hd0
        go_wp2
        go_round
        case rel => exact ⟨k + 1, by omega, by go_num, HS⟩
        case measure => simp [intOf]; omega
    · obtain rfl : k = l.length := by omega
      have ht : R = false := by rw [HR.out]; have := hf.out; rwa [List.take_length] at this
      have HT := Lib.hid ht
      clear ht
      go_wp2
      go_ret
      exact ⟨_, rfl, by rw [HT.out]; rfl, rfl⟩
theorem containsR_any (a : Option Addr) (l : List Int) (n cap : Nat) (x : Int) (w : World) (hr : Reads w a l) (hn : l.length = n) (hl : n ≤ 1048586) :
    Calls Tryz.prog 159 #[.slice a n cap, .int .i64 x] w fun e w' => e = .returned (.bool (l.contains x)) ∧ w = w' := by
  obtain ⟨R, hR⟩ : ∃ R, R = l.contains x := ⟨_, rfl⟩
  have c := indexR_any a l n cap x w hr hn hl
  rw [← hR] at c ⊢
  clear hR
  go_enter Tryz.func159, Tryz.ntmps159
  go_wp2_with fail
  refine c.mono ?_
  rintro e w' ⟨r, rfl, hb, rfl⟩
  have HB := Lib.hid hb
  clear hb c
  go_wp2
  go_ret
  exact ⟨ret_bool HB.out.symm, rfl⟩


set_option maxHeartbeats 2000000 in
theorem implValidRing_any (a : Option Addr) (l : List Int) (cap : Nat) (w : World) (hr : Reads w a l) (_hi : ∀ n ∈ l, In64 n) (hl : l.length ≤ 1048586) (hcap : l.length ≤ cap) :
    Calls Tryz.prog 130 #[.slice a l.length cap] w fun e w' => e = .returned (.bool (VR l)) ∧ Below w.heap.size w w' := by
  by_cases h1 : l.length < 1
  · have hv : VR l = false := VR_false fun h => by have := h.1; omega
    have h0 : l.length = 0 := by omega
    rw [hv, h0]
    go_enter Tryz.func130, Tryz.ntmps130
    go_wp2
    go_ret
    exact ⟨rfl, Below.refl _ _⟩
  · by_cases h6 : 6 < l.length
    · have hv : VR l = false := VR_false fun h => by have := h.2.1; omega
      have HV := Lib.hid hv
      clear hv
      have g1 : ¬ (l.length : Int) < 1 := by omega
      have g2 : (6 : Int) < (l.length : Int) := by omega
      go_enter Tryz.func130, Tryz.ntmps130
      go_wp2
      go_ret
      exact ⟨ret_bool HV.out.symm, Below.refl _ _⟩
    · have g1 : ¬ (l.length : Int) < 1 := by omega
      have g2 : ¬ (6 : Int) < (l.length : Int) := by omega
      have HL := Lib.hid (show 1 ≤ l.length ∧ l.length ≤ 6 from by omega)
      go_enter Tryz.func130, Tryz.ntmps130
      go_wp2
      go_loop [15] (fun i => ∃ k : Nat, k ≤ l.length ∧ i = .int .i64 k ∧ Hid (FitV l k)) (fun i => l.length - (intOf i).toNat)
      case atStart => exact ⟨0, Nat.zero_le _, rfl, FitV.zero l⟩
      case round =>
        obtain ⟨k, hk, rfl, hf⟩ := hrel
        by_cases hlt : k < l.length
        · obtain ⟨b, off, y, rfl, hbb, hcell, hy⟩ := hr.get hlt
          have hk2 : (k : Int) < (l.length : Int) := by omega
          have hk3 : (k : Int) ≤ (cap : Int) := by omega
          have hkl : (l.take k).length = k := by rw [List.length_take]; omega
          have cP := fun wx => isPlace_any y wx
          have cC := fun wx h => containsR_any (some ⟨b, off, none⟩) (l.take k) k cap y wx h hkl (by omega)
          by_cases g3 : inR y 0 63 = true
          · rw [g3] at cP
            have CP := Lib.hid cP
            have r1 := inR_iff.1 g3
            clear cP g3
            by_cases g4 : (l.take k).contains y = true
            · rw [g4] at cC
              have CC := Lib.hid cC
              have hv : VR l = false := VR_bad2 hlt (by rw [hy.out]; simpa using g4)
              have HV := Lib.hid hv
              clear cC g4 hv hy
              go_wp2_with fail
              refine (CP.out _).mono ?_
              rintro e w' ⟨rfl, rfl⟩
              go_wp2_with fail
              refine (CC.out _ (hr.take' k)).mono ?_
              rintro e w' ⟨rfl, rfl⟩
              go_wp2
              go_ret
              exact ⟨ret_bool HV.out.symm, Below.refl _ _⟩
            · have hn := hf.out.succ (by rw [hy.out]; exact r1.1) (by rw [hy.out]; exact r1.2) (by rw [hy.out]; simpa using g4)
              rw [show (l.take k).contains y = false from by simpa using g4] at cC
              have CC := Lib.hid cC
              have HN := Lib.hid hn
              clear cC g4 hn hy
              go_wp2_with fail
              refine (CP.out _).mono ?_
              rintro e w' ⟨rfl, rfl⟩
              go_wp2_with fail
              refine (CC.out _ (hr.take' k)).mono ?_
              rintro e w' ⟨rfl, rfl⟩
              go_wp2
              go_round
              case rel => exact ⟨k + 1, by omega, by go_num, HN⟩
              case measure => simp [intOf]; omega
          · rw [show inR y 0 63 = false from by simpa using g3] at cP
            have CP := Lib.hid cP
            have hv : VR l = false := VR_bad1 hlt (by rw [hy.out]; exact fun h => g3 (inR_iff.2 h))
            have HV := Lib.hid hv
            clear cP g3 hv hy cC
            go_wp2_with fail
            refine (CP.out _).mono ?_
            rintro e w' ⟨rfl, rfl⟩
            go_wp2
            go_ret
            exact ⟨ret_bool HV.out.symm, Below.refl _ _⟩
        · obtain rfl : k = l.length := by omega
          have hv : VR l = true := VR_iff.2 ⟨HL.out.1, HL.out.2, hf.out⟩
          have HV := Lib.hid hv
          clear hv
          go_wp2
          go_ret
          exact ⟨ret_bool HV.out.symm, Below.refl _ _⟩
end Go.Proofs.YtoaiaindcmihjaaGreatDoor
/-
  impl.stepsTo, cmp.Compare, the comparison of ring.from.
-/
namespace Go.Proofs.YtoaiaindcmihjaaGreatDoor
open Go.RowKit

/-- Numbers as ints. -/
def nts (l : List Nat) : List Int := l.map fun x : Nat => (x : Int)
theorem nts_len (l : List Nat) : (nts l).length = l.length := by simp [nts]
theorem nts_get {l : List Nat} {i : Nat} (h : i < l.length) : (nts l).getD i 0 = ((l.getD i 0 : Nat) : Int) := by simp [nts, List.getD, h]
theorem nts_set (L : List Nat) (s x : Nat) : (nts L).set s (x : Int) = nts (L.set s x) := by simp [nts, List.map_set]

theorem stepsR_any (h p : Int) (h0 : 0 ≤ h) (h1 : h ≤ 63) (p0 : 0 ≤ p) (p1 : p ≤ 63) (w : World) :
    Calls Tryz.prog 157 #[.int .i64 64, .int .i64 h, .int .i64 p] w fun e w' => e = .returned (.int .i64 (offI 64 h p)) ∧ w = w' := by
  go_enter Tryz.func157, Tryz.ntmps157
  go_wp2
  go_ret
  exact ⟨rfl, rfl⟩

/-- cmp.Compare. -/
def cpi (x y : Int) : Int := if x < y then -1 else if y < x then 1 else 0
theorem cpi_lt {x y : Int} : cpi x y < 0 ↔ x < y := by
  unfold cpi; split
  · omega
  · split <;> omega
theorem cpi_gt {x y : Int} : 0 < cpi x y ↔ y < x := by
  unfold cpi; split
  · omega
  · split <;> omega
theorem isNaN_any (x : Int) (w : World) : Calls Tryz.prog 141 #[.int .i64 x] w fun e w' => e = .returned (.bool false) ∧ w = w' := by
  have hne : (x != x) = false := by simp
  go_enter Tryz.func141, Tryz.ntmps141
  go_wp2
  go_ret
  exact ⟨rfl, rfl⟩
theorem compare_any (x y : Int) (w : World) : Calls Tryz.prog 181 #[.int .i64 x, .int .i64 y] w fun e w' => e = .returned (.int .i64 (cpi x y)) ∧ w = w' := by
  have C := Lib.hid (fun z => isNaN_any z w)
  by_cases h1 : x < y
  · have e : cpi x y = -1 := by unfold cpi; rw [if_pos h1]
    rw [e]
    go_enter Tryz.func181, Tryz.ntmps181
    go_wp2_with fail
    refine (C.out _).mono ?_
    rintro e w2 ⟨rfl, rfl⟩
    go_wp2_with fail
    refine (C.out _).mono ?_
    rintro e w2 ⟨rfl, rfl⟩
    go_wp2
    go_ret
    exact ⟨rfl, rfl⟩
  · by_cases h2 : y < x
    · have e : cpi x y = 1 := by unfold cpi; rw [if_neg h1, if_pos h2]
      rw [e]
      go_enter Tryz.func181, Tryz.ntmps181
      go_wp2_with fail
      refine (C.out _).mono ?_
      rintro e w2 ⟨rfl, rfl⟩
      go_wp2_with fail
      refine (C.out _).mono ?_
      rintro e w2 ⟨rfl, rfl⟩
      go_wp2
      go_ret
      exact ⟨rfl, rfl⟩
    · have e : cpi x y = 0 := by unfold cpi; rw [if_neg h1, if_neg h2]
      rw [e]
      go_enter Tryz.func181, Tryz.ntmps181
      go_wp2_with fail
      refine (C.out _).mono ?_
      rintro e w2 ⟨rfl, rfl⟩
      go_wp2_with fail
      refine (C.out _).mono ?_
      rintro e w2 ⟨rfl, rfl⟩
      go_wp2
      go_ret
      exact ⟨rfl, rfl⟩

theorem quiet_l0 {P : Program} {f : FuncId} {args : Array Value} {w : World} {n : Nat} {v : Value}
    (h : Calls P f args (w.drewN n) fun e w' => e = .returned v ∧ w.drewN n = w') :
    Calls P f args (w.drewN n) fun e w'' => e = .returned v ∧ ∃ m, w'' = w.drewN m :=
  h.mono fun _ _ ⟨he, hm⟩ => ⟨he, n, hm.symm⟩

set_option maxHeartbeats 2000000 in
theorem from1_any (Bk Bp : Nat) (a : Option Addr) (l : List Int) (cap : Nat) (k : Int) (s1 s2 : Nat) (w : World) (hr : Reads w a l) (hk : w.cell? ⟨Bk, 0, none⟩ = some (.int .i64 k)) (hp : w.cell? ⟨Bp, 0, none⟩ = some (.slice a l.length cap))
    (hv : VR l = true) (k0 : 0 ≤ k) (k1 : k ≤ 63) (hs1 : s1 < l.length) (hs2 : s2 < l.length) :
    Calls Tryz.prog 180 #[.int .i64 (s1 : Int), .int .i64 (s2 : Int), .pointer (some ⟨Bk, 0, none⟩), .pointer (some ⟨Bp, 0, none⟩)] w fun e w' => e = .returned (.int .i64 (cpi (st l k s1) (st l k s2))) ∧ ∃ n, w' = w.drewN n := by
  obtain ⟨b, off, y1, rfl, hb, hc1, hy1⟩ := hr.get hs1
  obtain ⟨y2, hc2, hy2⟩ := hr.at_ hs2
  have r1 := VR_rng hv hs1
  have r2 := VR_rng hv hs2
  have e1 : st l k s1 = offI 64 k y1 := by unfold st; rw [hy1.out]
  have e2 : st l k s2 = offI 64 k y2 := by unfold st; rw [hy2.out]
  rw [hy1.out] at r1
  rw [hy2.out] at r2
  have c1 := fun wx => stepsR_any k y1 k0 k1 r1.1 r1.2 wx
  have c2 := fun wx => stepsR_any k y2 k0 k1 r2.1 r2.2 wx
  have c3 := fun wx => compare_any (offI 64 k y1) (offI 64 k y2) wx
  rw [e1, e2]
  obtain ⟨T1, hT1⟩ : ∃ T, T = offI 64 k y1 := ⟨_, rfl⟩
  obtain ⟨T2, hT2⟩ : ∃ T, T = offI 64 k y2 := ⟨_, rfl⟩
  obtain ⟨R, hR⟩ : ∃ R, R = cpi T1 T2 := ⟨_, rfl⟩
  rw [← hT1] at c1 c3 ⊢
  rw [← hT2] at c2 c3 ⊢
  rw [← hR] at c3 ⊢
  have D1 := Lib.hid (fun n => c1 (w.drewN n))
  have D2 := Lib.hid (fun n => c2 (w.drewN n))
  have D3 := Lib.hid (fun n => c3 (w.drewN n))
  have i1 : (s1 : Int) < (l.length : Int) := by omega
  have i2 : (s2 : Int) < (l.length : Int) := by omega
  clear c1 c2 c3 hT1 hT2 hR e1 e2 r1 r2 hv hy1 hy2
  go_enter Tryz.func180, Tryz.ntmps180
  go_wp2_with fail
  go_quiet ((with_reducible first | (go_at_call 181; exact quiet_l0 (D3.out _)) | (go_at_call 157; exact quiet_l0 (D1.out _)) | (go_at_call 157; exact quiet_l0 (D2.out _))))
  all_goals
    go_wp2
    go_ret
    exact ⟨rfl, _, rfl⟩
end Go.Proofs.YtoaiaindcmihjaaGreatDoor
/-
  slices.SortFunc of servers, as ring.from calls it.
-/
namespace Go.Proofs.YtoaiaindcmihjaaGreatDoor
open Go.RowKit

/-- All blocks but g keep their cells. -/
def KeptB (g : Nat) (W W' : World) : Prop := ∀ b o v, b ≠ g → W.cell? ⟨b, o, none⟩ = some v → W'.cell? ⟨b, o, none⟩ = some v
theorem KeptB.refl (g : Nat) (W : World) : KeptB g W W := fun _ _ _ _ h => h
theorem KeptB.trans {g : Nat} {A B C : World} (h : KeptB g A B) (k : KeptB g B C) : KeptB g A C := fun b o v hb hv => k b o v hb (h b o v hb hv)
theorem KeptB.store (g s : Nat) (W : World) (v : Value) : KeptB g W (W.setCell ⟨g, s, none⟩ v) := fun b o x hb hx =>
  (World.cell?_setCell_other (w := W) (a := ⟨g, s, none⟩) (b := ⟨b, o, none⟩) (v := v) (by intro e; exact hb (by cases e; rfl))).trans hx
theorem KeptB.draw (g : Nat) (W : World) (n : Nat) : KeptB g W (W.drewN n) := fun _ _ _ _ h => h
theorem Reads.keptB {w w' : World} {g : Nat} {a : Option Addr} {l : List Int} (h : Reads w a l) (k : KeptB g w w') (hne : ∀ b off, a = some ⟨b, off, none⟩ → b ≠ g) : Reads w' a l := by
  rcases h with rfl | ⟨b, off, e, hb, hc⟩
  · exact .inl rfl
  · by_cases h0 : l.length = 0
    · exact .inl (List.eq_nil_of_length_eq_zero h0)
    · have c : CellsAt w' b off l := fun i hi => k b _ _ (hne b off e) (hc i hi)
      exact .inr ⟨b, off, e, World.block_lt_of_cell? w' ⟨b, off + 0, none⟩ (c 0 (by omega)), c⟩
theorem quiet_x {P : Program} {f : FuncId} {args : Array Value} {w : World} {n : Nat} {v : Value}
    (h : Calls P f args (w.drewN n) fun e w' => e = .returned v ∧ ∃ m, w' = (w.drewN n).drewN m) :
    Calls P f args (w.drewN n) fun e w'' => e = .returned v ∧ ∃ m, w'' = w.drewN m :=
  h.mono fun _ _ ⟨he, m, hm⟩ => ⟨he, n + m, by rw [hm, World.drewN_drewN]⟩
abbrev FromF (Bk Bp : Nat) : Value := .func (.func 180) #[] #[.pointer (some ⟨Bk, 0, none⟩), .pointer (some ⟨Bp, 0, none⟩)]

set_option maxHeartbeats 4000000 in
theorem isort_any (Bk Bp g base B n cap0 : Nat) (a : Option Addr) (l : List Int) (capl : Nat) (k : Int) (w : World) (hl : l.length = n) (hr : Reads w a l) (hag : ∀ b off, a = some ⟨b, off, none⟩ → b ≠ g)
    (hk : w.cell? ⟨Bk, 0, none⟩ = some (.int .i64 k)) (hp : w.cell? ⟨Bp, 0, none⟩ = some (.slice a l.length capl)) (hBk : Bk ≠ g) (hBp : Bp ≠ g)
    (hv : VR l = true) (k0 : 0 ≤ k) (k1 : k ≤ 63) (hT : Tab w base g n cap0 (nts (List.range n))) (hBg : B ≤ g) :
    Calls Tryz.prog 198 #[.slice (some ⟨g, 0, none⟩) n cap0, .int .i64 0, .int .i64 (n : Int), FromF Bk Bp] w fun e w' => e = .returned (.tuple #[]) ∧ ∃ R, SO (st l k) n R n ∧ Tab w' base g n cap0 (nts R) ∧ KeptB g w w' ∧ Below B w w' := by
  have hn := VR_iff.1 hv
  have hn1 := hn.1
  have hn6 := hn.2.1
  have HV := Lib.hid hv
  have HAG := Lib.hid hag
  have HL := Lib.hid hl
  obtain ⟨f, hf⟩ : ∃ f, f = st l k := ⟨_, rfl⟩
  have HF := Lib.hid hf
  rw [← hf]
  have CF := Lib.hid (fun (wx : World) h1 h2 h3 s1 s2 hs1 hs2 => from1_any Bk Bp a l capl k s1 s2 wx h1 h2 h3 hv k0 k1 hs1 hs2)
  clear hn hag hv hf
  rw [hl] at hn1 hn6
  clear hl
  go_enter Tryz.func198, Tryz.ntmps198
  go_wp2
  go_loopw [8] (fun iv wr => ∃ (i : Nat) (R : List Nat), i ≤ n ∧ iv = .int .i64 i ∧ Hid (1 ≤ i ∧ SO f n R i) ∧ Tab wr base g n cap0 (nts R) ∧ KeptB g w wr ∧ Below B w wr) (fun iv _ => n - (intOf iv).toNat)
  case atStart => exact ⟨1, List.range n, by omega, rfl, Lib.hid ⟨Nat.le_refl _, SO.zero f n⟩, hT, KeptB.refl _ _, Below.refl _ _⟩
  case round =>
    clear hT
    obtain ⟨i, R, hi, rfl, hS, hT, hK, hB⟩ := hrel
    by_cases hlt : i < n
    · have hi1 : (i : Int) < (n : Int) := by omega
      go_wp2
      go_loopw [9] (fun jv wq => ∃ (j : Nat) (Q : List Nat), jv = .int .i64 j ∧ Hid (IS f n Q i j) ∧ Tab wq base g n cap0 (nts Q) ∧ KeptB g w wq ∧ Below B w wq) (fun jv _ => (intOf jv).toNat)
      case atStart => exact ⟨i, R, rfl, Lib.hid hS.out.2.ins, hT, hK, hB⟩
      case round =>
        clear hT hK hB
        obtain ⟨j, Q, rfl, hI, hT, hK, hB⟩ := hrel
        have hjn : j < n := by have := hI.out.2.1; omega
        by_cases hjz : j = 0
        · subst hjz
          have hfin := hI.out.fin (.inl rfl)
          have HFIN := Lib.hid hfin
          clear hfin
          go_wp2_with fail
          go_quiet (fail)
          go_wp2
          go_roundw
          case rel => exact ⟨i + 1, Q, by omega, by go_num, Lib.hid ⟨by omega, HFIN.out⟩, hT.below (Go.below_drewN (Below.refl _ _) _), hK.trans (KeptB.draw _ _ _), Go.below_drewN hB _⟩
          case measure => simp [intOf]; omega
        · obtain ⟨jm, hjc⟩ : ∃ jm, j = jm + 1 := ⟨j - 1, by omega⟩
          have hql := hI.out.len
          have hs1 : Q.getD j 0 < n := hI.out.1.mem_iff.1 (by simp [List.getD, show j < Q.length from by omega]) |> List.mem_range.1
          have hs2 : Q.getD jm 0 < n := hI.out.1.mem_iff.1 (by simp [List.getD, show jm < Q.length from by omega]) |> List.mem_range.1
          obtain ⟨x1, hc1, hx1⟩ := hT.get (k := j) hjn
          obtain ⟨x2, hc2, hx2⟩ := hT.get (k := jm) (by omega)
          have q1 := hx1.out
          have q2 := hx2.out
          rw [nts_get (by omega)] at q1 q2
          subst q1 q2
          have hfz1 := hT.frozen j
          have hfz2 := hT.frozen jm
          obtain ⟨s1, hse1⟩ : ∃ s, s = Q.getD j 0 := ⟨_, rfl⟩
          obtain ⟨s2, hse2⟩ : ∃ s, s = Q.getD jm 0 := ⟨_, rfl⟩
          rw [← hse1] at hs1 hc1
          rw [← hse2] at hs2 hc2
          have HS1 := Lib.hid hse1
          have HS2 := Lib.hid hse2
          have hkq := hK _ _ _ hBk hk
          have hpq := hK _ _ _ hBp hp
          have cF := fun (m : Nat) => CF.out (wr.drewN m) ((hr.keptB hK HAG.out).below (Go.below_drewN (Below.refl _ _) m)) hkq hpq s1 s2 (by rw [HL.out]; exact hs1) (by rw [HL.out]; exact hs2)
          rw [← HF.out] at cF
          have hc := cpi_lt (x := f s1) (y := f s2)
          obtain ⟨c, hce⟩ : ∃ c, c = cpi (f s1) (f s2) := ⟨_, rfl⟩
          rw [← hce] at cF hc
          have CC := Lib.hid cF
          have hjw : IntKind.i64.wrap ((j : Int) - 1) = (jm : Int) := by rw [IntWalk.i64_in _ (by omega)]; omega
          have hj0 : 0 < j := by omega
          have hj1 : (j : Int) < (n : Int) := by omega
          have hjm1 : (jm : Int) < (n : Int) := by omega
          have hne : ¬ j = jm := by omega
          have HJ := Lib.hid hjc
          clear hjz hce cF hse1 hse2 hx1 hx2 hkq hpq hjc hql
          by_cases hlt2 : c < 0
          · have hst := hI.out
            rw [HJ.out] at hst
            have hnew := hst.step hlt (by rw [← HJ.out, ← HS1.out, ← HS2.out]; exact hc.1 hlt2)
            have HN := Lib.hid hnew
            have hTT := fun m => ((hT.below (Go.below_drewN (Below.refl _ wr) m)).store j (s2 : Int)).store jm (s1 : Int)
            have hset : ((nts Q).set j (s2 : Int)).set jm (s1 : Int) = nts (sw Q jm) := by
              rw [nts_set, nts_set]; unfold sw
              rw [← HJ.out, ← HS1.out, ← HS2.out]
            rw [hset] at hTT
            have HTT := Lib.hid hTT
            clear hst hnew hTT hset hc hT
            go_wp2_with fail
            go_quiet ((with_reducible first | (go_at_call 180; exact quiet_x (CC.out _))))
            all_goals
              go_wp2_with fail
              go_region
              all_goals
                go_wp2
                refine ⟨⟨jm, sw Q jm, rfl, HN, HTT.out _, hK.trans ((KeptB.draw _ _ _).trans ((KeptB.store _ _ _ _).trans (KeptB.store _ _ _ _))), ((Go.below_drewN hB _).setCell (p := ⟨g, j, none⟩) hBg _).setCell (p := ⟨g, jm, none⟩) hBg _⟩, ?_⟩
                have := HJ.out
                simp [intOf]; omega
          · have hfin := hI.out.fin (.inr (by
              rw [show j - 1 = jm from by have := HJ.out; omega, ← HS1.out, ← HS2.out]
              exact fun h => hlt2 (hc.2 h)))
            have HFIN := Lib.hid hfin
            clear hfin hc
            go_wp2_with fail
            go_quiet ((with_reducible first | (go_at_call 180; exact quiet_x (CC.out _))))
            all_goals
              go_wp2
              go_roundw
              case rel => exact ⟨i + 1, Q, by omega, by go_num, Lib.hid ⟨by omega, HFIN.out⟩, hT.below (Go.below_drewN (Below.refl _ _) _), hK.trans (KeptB.draw _ _ _), Go.below_drewN hB _⟩
              case measure => simp [intOf]; omega
    · obtain rfl : i = n := by omega
      go_wp2
      go_end0
      exact ⟨rfl, R, hS.out.2, hT, hK, hB⟩

end Go.Proofs.YtoaiaindcmihjaaGreatDoor
/-
  slices.SortFunc of few servers: the length in bits, the sort's first steps.
-/
namespace Go.Proofs.YtoaiaindcmihjaaGreatDoor
open Go.RowKit

set_option maxRecDepth 100000 in
set_option maxHeartbeats 2000000 in
theorem len64_any (n : Nat) (h1 : 1 ≤ n) (h6 : n ≤ 6) (w : World) : Calls Tryz.prog 118 #[.int .u64 (n : Int)] w fun e w' => (∃ L : Int, e = .returned (.int .i64 L)) ∧ w = w' := by
  have : n = 1 ∨ n = 2 ∨ n = 3 ∨ n = 4 ∨ n = 5 ∨ n = 6 := by omega
  rcases this with rfl | rfl | rfl | rfl | rfl | rfl
  all_goals
    go_enter Tryz.func118, Tryz.ntmps118
    go_wp2
    go_ret
    exact ⟨⟨_, rfl⟩, rfl⟩
theorem bitsLen_any (n : Nat) (h1 : 1 ≤ n) (h6 : n ≤ 6) (w : World) : Calls Tryz.prog 85 #[.int .u64 (n : Int)] w fun e w' => (∃ L : Int, e = .returned (.int .i64 L)) ∧ w = w' := by
  have C := Lib.hid (len64_any n h1 h6 w)
  go_enter Tryz.func85, Tryz.ntmps85
  go_wp2_with fail
  refine C.out.mono ?_
  rintro e w' ⟨⟨L, rfl⟩, rfl⟩
  go_wp2
  go_ret
  exact ⟨⟨_, rfl⟩, rfl⟩
/-- What the sort leaves. -/
def SrtPost (f : Nat → Int) (n base g cap0 B : Nat) (w : World) (e : Ending) (w' : World) : Prop := e = .returned (.tuple #[]) ∧ ∃ R, SO f n R n ∧ Tab w' base g n cap0 (nts R) ∧ KeptB g w w' ∧ Below B w w'
set_option maxRecDepth 100000 in
set_option maxHeartbeats 2000000 in
theorem pdq_any (f : Nat → Int) (Bk Bp g base B n cap0 : Nat) (L : Int) (w : World) (h6 : n ≤ 6)
    (h : Calls Tryz.prog 198 #[.slice (some ⟨g, 0, none⟩) n cap0, .int .i64 0, .int .i64 (n : Int), FromF Bk Bp] w (SrtPost f n base g cap0 B w)) :
    Calls Tryz.prog 194 #[.slice (some ⟨g, 0, none⟩) n cap0, .int .i64 0, .int .i64 (n : Int), .int .i64 L, FromF Bk Bp] w (SrtPost f n base g cap0 B w) := by
  have H := Lib.hid h
  have h12 : (n : Int) ≤ 12 := by omega
  clear h
  go_enter Tryz.func194, Tryz.ntmps194
  go_wp2
  go_loopw [1, 2] (fun av bv wr => av = .int .i64 0 ∧ bv = .int .i64 (n : Int) ∧ wr = w) (fun _ _ _ => 0)
  case atStart => exact ⟨rfl, rfl, rfl⟩
  case round =>
    obtain ⟨rfl, rfl, rfl⟩ := hrel
    go_wp2_with fail
    refine H.out.mono ?_
    rintro e w' ⟨rfl, R, h1, h2, h3, h4⟩
    go_wp2
    go_end0
    exact ⟨rfl, R, h1, h2, h3, h4⟩
theorem sortFunc_any (Bk Bp g base B n cap0 : Nat) (a : Option Addr) (l : List Int) (capl : Nat) (k : Int) (w : World) (hl : l.length = n) (hr : Reads w a l) (hag : ∀ b off, a = some ⟨b, off, none⟩ → b ≠ g)
    (hk : w.cell? ⟨Bk, 0, none⟩ = some (.int .i64 k)) (hp : w.cell? ⟨Bp, 0, none⟩ = some (.slice a l.length capl)) (hBk : Bk ≠ g) (hBp : Bp ≠ g)
    (hv : VR l = true) (k0 : 0 ≤ k) (k1 : k ≤ 63) (hT : Tab w base g n cap0 (nts (List.range n))) (hBg : B ≤ g) :
    Calls Tryz.prog 179 #[.slice (some ⟨g, 0, none⟩) n cap0, FromF Bk Bp] w (SrtPost (st l k) n base g cap0 B w) := by
  have hn := VR_iff.1 hv
  have c1 := isort_any Bk Bp g base B n cap0 a l capl k w hl hr hag hk hp hBk hBp hv k0 k1 hT hBg
  have c2 := fun L => pdq_any (st l k) Bk Bp g base B n cap0 L w (by omega) c1
  have C2 := Lib.hid c2
  have C1 := Lib.hid (bitsLen_any n (by omega) (by omega) w)
  have hw : IntKind.u64.wrap (n : Int) = (n : Int) := IntWalk.u64_in (n : Int) (by omega)
  clear c1 c2 hn hk hp hr hT hv
  go_enter Tryz.func179, Tryz.ntmps179
  go_wp2_with fail
  refine C1.out.mono ?_
  rintro e w' ⟨⟨L, rfl⟩, rfl⟩
  go_wp2_with fail
  refine (C2.out L).mono ?_
  rintro e w' ⟨rfl, R, h1, h2, h3, h4⟩
  go_wp2
  go_end0
  exact ⟨rfl, R, h1, h2, h3, h4⟩
end Go.Proofs.YtoaiaindcmihjaaGreatDoor
/-
  ring.from, ring.ownerOf.
-/
namespace Go.Proofs.YtoaiaindcmihjaaGreatDoor
open Go.RowKit

/-- The first i servers laid. -/
def fr (n i : Nat) : List Int := (List.range n).map fun j : Nat => if j < i then (j : Int) else 0
theorem fr_len (n i : Nat) : (fr n i).length = n := by simp [fr]
theorem fr_zero (n : Nat) : fr n 0 = List.replicate n 0 := by
  apply List.ext_getElem
  · simp [fr]
  · intro i h1 h2; simp [fr]
theorem fr_all (n : Nat) : fr n n = nts (List.range n) := by
  apply List.ext_getElem
  · simp [fr, nts]
  · intro i h1 h2
    have : i < n := by simpa [fr] using h1
    simp [fr, nts, this]
theorem fr_succ {n i : Nat} (h : i < n) : (fr n i).set i (i : Int) = fr n (i + 1) := by
  apply List.ext_getElem
  · simp [fr]
  · intro j h1 h2
    rw [List.getElem_set]
    have hj : j < n := by simpa [fr] using h2
    by_cases e : i = j
    · subst e; simp [fr]
    · rw [if_neg e]
      by_cases e2 : j < i
      · have : j < i + 1 := by omega
        simp [fr, e2, this]
      · have : ¬ j < i + 1 := by omega
        simp [fr, e2, this]

set_option maxHeartbeats 4000000 in
theorem from_any (a : Option Addr) (l : List Int) (cap : Nat) (k : Int) (w : World) (hr : Reads w a l) (hv : VR l = true) (k0 : 0 ≤ k) (k1 : k ≤ 63) :
    Calls Tryz.prog 160 #[.slice a l.length cap, .int .i64 k] w fun e w' => ∃ v R, e = .returned v ∧ SO (st l k) l.length R l.length ∧ Own w' w.heap.size v (nts R) ∧ Below w.heap.size w w' := by
  have hl1 := (VR_iff.1 hv).1
  have hl6 := (VR_iff.1 hv).2.1
  have bA := ((Below.refl w.heap.size w).alloc (Nat.le_refl _) (.cells #[.slice a l.length cap] 161)).alloc (by simp) (.cells #[.int .i64 k] 3)
  have hmk := run_make_row' (P := Tryz.prog) 23 3 (.int .i64 0) 8 Tryz.underlying23 infoInt rfl .i64 .i64 l.length (by omega) (by omega)
  have xA := made_tabR ((w.alloc (.cells #[.slice a l.length cap] 161)).alloc (.cells #[.int .i64 k] 3)) w.heap.size l.length (by rw [World.size_alloc, World.size_alloc]; omega) (by omega)
  obtain ⟨BB, hBB⟩ : ∃ BB, BB = madeCells #[.int .i64 0] l.length := ⟨_, rfl⟩
  rw [← hBB] at hmk xA
  have bB := bA.alloc (by rw [World.size_alloc, World.size_alloc]; omega) (.cells BB 3)
  rw [← fr_zero] at xA
  simp only [World.size_alloc] at xA
  have hcp : (((w.alloc (.cells #[.slice a l.length cap] 161)).alloc (.cells #[.int .i64 k] 3)).alloc (.cells BB 3)).cell? ⟨w.heap.size, 0, none⟩ = some (.slice a l.length cap) := by
    rw [World.cell?_alloc_lt _ _ _ (by simp; omega), World.cell?_alloc_lt _ _ _ (by simp)]; simp
  have hck : (((w.alloc (.cells #[.slice a l.length cap] 161)).alloc (.cells #[.int .i64 k] 3)).alloc (.cells BB 3)).cell? ⟨w.heap.size + 1, 0, none⟩ = some (.int .i64 k) := by
    rw [World.cell?_alloc_lt _ _ _ (by simp)]
    have : w.heap.size + 1 = (w.alloc (.cells #[.slice a l.length cap] 161)).heap.size := (World.size_alloc _ _).symm
    rw [this]; simp
  obtain ⟨wm, hwm⟩ : ∃ wm, wm = (((w.alloc (.cells #[.slice a l.length cap] 161)).alloc (.cells #[.int .i64 k] 3)).alloc (.cells BB 3)) := ⟨_, rfl⟩
  rw [← hwm] at hcp hck xA bB
  have HV := Lib.hid hv
  have HBB := Lib.hid hBB
  have hrm := hr.below bB
  have hag : ∀ b off, a = some ⟨b, off, none⟩ → b ≠ w.heap.size + 1 + 1 := by
    intro b off e
    rcases hr with h | ⟨b', off', e', hb', _⟩
    · rw [h] at hl1; simp at hl1
    · rw [e] at e'; cases e'; omega
  have HAG := Lib.hid hag
  have HWM := Lib.hid hwm
  clear hBB hv bA hwm hag
  go_enter Tryz.func160, Tryz.ntmps160
  go_wp2_with fail
  rw [← HWM.out]
  go_loopw [12] (fun iv wr => ∃ i : Nat, i ≤ l.length ∧ iv = .int .i64 i ∧ Tab wr w.heap.size (w.heap.size + 1 + 1) l.length l.length (fr l.length i) ∧ KeptB (w.heap.size + 1 + 1) wm wr ∧ Below w.heap.size w wr) (fun iv _ => l.length - (intOf iv).toNat)
  case atStart => exact ⟨0, by omega, rfl, xA, KeptB.refl _ _, bB⟩
  case round =>
    clear xA bB hmk
    obtain ⟨i, hi, rfl, hT, hK, hB⟩ := hrel
    by_cases hlt : i < l.length
    · have hi1 : (i : Int) < (l.length : Int) := by omega
      obtain ⟨y, hcy, hy⟩ := hT.get (k := i) hlt
      have hfz := hT.frozen i
      have hst := hT.store i (i : Int)
      rw [fr_succ hlt] at hst
      have hB2 := hB.setCell (p := ⟨w.heap.size + 1 + 1, i, none⟩) (by show w.heap.size ≤ w.heap.size + 1 + 1; omega) (.int .i64 (i : Int))
      have hK2 := hK.trans (KeptB.store (w.heap.size + 1 + 1) i wr (.int .i64 (i : Int)))
      clear hT hB hK hy
      go_wp2
      go_roundw
      case rel => exact ⟨i + 1, by omega, by go_num, hst, hK2, hB2⟩
      case measure => simp [intOf]; omega
    · obtain rfl : i = l.length := by omega
      rw [fr_all] at hT
      have hck' := hK _ _ _ (by omega) hck
      have hcp' := hK _ _ _ (by omega) hcp
      have cS := sortFunc_any (w.heap.size + 1) w.heap.size (w.heap.size + 1 + 1) w.heap.size w.heap.size l.length l.length a l cap k wr rfl (hrm.keptB hK HAG.out) HAG.out hck' hcp' (by omega) (by omega) HV.out k0 k1 hT (by omega)
      have CS := Lib.hid cS
      clear cS hT hck hcp
      go_wp2_with fail
      refine CS.out.mono ?_
      rintro e w' ⟨rfl, R, h1, h2, h3, h4⟩
      have hB' := hB.trans h4
      have ho := h2.own
      clear h3 h4 hck' hcp'
      go_wp2
      go_ret
      exact ⟨_, R, rfl, h1, ho, hB'⟩

set_option maxHeartbeats 1000000 in
theorem ringOwner_any (a : Option Addr) (l : List Int) (cap : Nat) (k : Int) (w : World) (hr : Reads w a l) (hv : VR l = true) (k0 : 0 ≤ k) (k1 : k ≤ 63) :
    Calls Tryz.prog 131 #[.slice a l.length cap, .int .i64 k] w fun e w' => e = .returned (.int .i64 (own l k : Nat)) ∧ Below w.heap.size w w' := by
  have hl1 := (VR_iff.1 hv).1
  have C := Lib.hid (from_any a l cap k w hr hv k0 k1)
  have HV := Lib.hid hv
  clear hv
  go_enter Tryz.func131, Tryz.ntmps131
  go_wp2_with fail
  refine C.out.mono ?_
  rintro e w' ⟨v, R, rfl, hS, hO, hB⟩
  have hh := hS.head HV.out
  have hRl := hS.len
  obtain ⟨g, c, rfl, hT⟩ := hO.tab (by rw [nts_len]; omega)
  rw [nts_len, hRl] at hT ⊢
  obtain ⟨y, hcy, hy⟩ := hT.get (k := 0) (by omega)
  have hy' := hy.out
  rw [nts_get (by omega), hh] at hy'
  have HY := Lib.hid hy'
  have h0 : 0 < l.length := by omega
  clear hy hy' hh hT hO
  go_wp2
  go_ret
  exact ⟨ret_int HY.out.symm, hB⟩
end Go.Proofs.YtoaiaindcmihjaaGreatDoor
/-
  impl.SharesOf.
-/
namespace Go.Proofs.YtoaiaindcmihjaaGreatDoor
open Go.RowKit

set_option maxHeartbeats 4000000 in
theorem implSharesOf_any (a : Option Addr) (l : List Int) (cap : Nat) (w : World) (hr : Reads w a l) (hi : ∀ n ∈ l, In64 n) (hl : l.length ≤ 1048586) (hcap : l.length ≤ cap) :
    Calls Tryz.prog 100 #[.slice a l.length cap] w fun e w' => ∃ v, e = .returned v ∧ Own w' w.heap.size v (SH l) ∧ Below w.heap.size w w' := by
  have cV := implValidRing_any a l cap w hr hi hl hcap
  obtain ⟨R, hR⟩ : ∃ R, R = SH l := ⟨_, rfl⟩
  rw [← hR]
  have HR := Lib.hid hR
  clear hR hi
  by_cases hv : VR l = true
  · rw [hv] at cV
    have CV := Lib.hid cV
    have hl1 := (VR_iff.1 hv).1
    have hl6 := (VR_iff.1 hv).2.1
    have e : R = shr l 64 := by rw [HR.out]; unfold SH; rw [if_pos hv]
    have E := Lib.hid e
    have CO := Lib.hid (fun wx h k h1 h2 => ringOwner_any a l cap k wx h hv h1 h2)
    have HV := Lib.hid hv
    clear cV e hv
    go_enter Tryz.func100, Tryz.ntmps100
    go_wp2_with fail
    refine CV.out.mono ?_
    rintro e w1 ⟨rfl, b1⟩
    have hmk := run_make_row' (P := Tryz.prog) 23 3 (.int .i64 0) 8 Tryz.underlying23 infoInt rfl .i64 .i64 l.length (by omega) (by omega)
    have xA := made_tabR w1 w.heap.size l.length b1.size (by omega)
    have bA := b1.alloc b1.size (.cells (madeCells #[.int .i64 0] l.length) 3)
    obtain ⟨BB, hBB⟩ : ∃ BB, BB = madeCells #[.int .i64 0] l.length := ⟨_, rfl⟩
    rw [← hBB] at hmk xA bA
    have xA1 := xA.below (Go.below_drewN (Below.refl _ _) 1)
    have bA1 := Go.below_drewN bA 1
    have hsz := b1.size
    clear hBB xA bA CV
    go_wp2_with fail
    go_region
    all_goals
      go_wp2_with fail
      go_loopw [14] (fun iv wr => ∃ j : Nat, j ≤ 64 ∧ iv = .int .i64 j ∧ Tab wr w.heap.size w1.heap.size l.length l.length (shr l j) ∧ Below w.heap.size w wr) (fun iv _ => 64 - (intOf iv).toNat)
      case atStart => exact ⟨0, by omega, rfl, xA1, bA1⟩
      case round =>
        clear bA1 hmk xA1
        obtain ⟨j, hj, rfl, hT, hB⟩ := hrel
        by_cases hj6 : j < 64
        · have hj1 : (j : Int) < 64 := by omega
          have ho := own_lt (k := (j : Int)) HV.out
          have hnn := shr_nn HV.out j _ ho
          have hsh : shr l (j + 1) = (shr l j).set (own l j) ((shr l j).getD (own l j) 0 + 1) := rfl
          have cO := CO.out wr (hr.below hB) (j : Int) (by omega) (by omega)
          obtain ⟨s, hs⟩ : ∃ s, s = own l (j : Int) := ⟨_, rfl⟩
          rw [← hs] at ho hnn hsh cO
          have C1 := Lib.hid cO
          have HSH := Lib.hid hsh
          clear hs hsh cO
          go_wp2_with fail
          refine C1.out.mono ?_
          rintro e w2 ⟨rfl, b2⟩
          have hT2 := hT.below b2
          have hB2 := hB.trans (b2.mono hB.size)
          obtain ⟨y, hcy, hy⟩ := hT2.get (k := s) ho
          have hfz := hT2.frozen s
          rw [hy.out] at hnn
          have hyw : IntKind.i64.wrap (y + 1) = y + 1 := IntWalk.i64_in _ (by omega)
          have hst := hT2.store s (y + 1)
          have hnew : (shr l j).set s (y + 1) = shr l (j + 1) := by rw [HSH.out, hy.out]
          rw [hnew] at hst
          have hs1 : (s : Int) < (l.length : Int) := by omega
          have hB3 := hB2.setCell (p := ⟨w1.heap.size, s, none⟩) hsz (.int .i64 (y + 1))
          clear hnew hy hT hB hT2 hB2 b2
          go_wp2
          go_roundw
          case rel => exact ⟨j + 1, by omega, by go_num, hst, hB3⟩
          case measure => simp [intOf]; omega
        · obtain rfl : j = 64 := by omega
          have ho := hT.own
          rw [← E.out] at ho
          go_wp2
          go_ret
          exact ⟨_, rfl, ho, hB⟩
  · have e : R = [] := by rw [HR.out]; unfold SH; rw [if_neg hv]
    subst e
    rw [show VR l = false from by simpa using hv] at cV
    have CV := Lib.hid cV
    clear cV hv
    go_enter Tryz.func100, Tryz.ntmps100
    go_wp2_with fail
    refine CV.out.mono ?_
    rintro e w1 ⟨rfl, b1⟩
    go_wp2
    go_ret
    exact ⟨_, rfl, Own.nil _ _, b1⟩
end Go.Proofs.YtoaiaindcmihjaaGreatDoor
/-
  impl.isRest, isSize, validFunction, functionOf, its function, HashOf.
-/
namespace Go.Proofs.YtoaiaindcmihjaaGreatDoor
open Go.RowKit

set_option maxHeartbeats 400000 in
theorem isRest_any (n : Int) (w : World) : Calls Tryz.prog 195 #[.int .i64 n] w fun e w' => e = .returned (.bool (KR n)) ∧ w = w' := by
  by_cases h1 : 0 ≤ n
  · by_cases h2 : n < 31
    · go_enter Tryz.func195, Tryz.ntmps195
      go_wp2
      go_ret
      exact ⟨ret_bool (KR_iff.2 (by omega)).symm, rfl⟩
    · have hv : KR n = false := by rw [← Bool.not_eq_true, KR_iff]; omega
      go_enter Tryz.func195, Tryz.ntmps195
      go_wp2
      go_ret
      exact ⟨ret_bool (by first | exact hv.symm | rfl), rfl⟩
  · have hv : KR n = false := by rw [← Bool.not_eq_true, KR_iff]; omega
    go_enter Tryz.func195, Tryz.ntmps195
    go_wp2
    go_ret
    exact ⟨ret_bool (by first | exact hv.symm | rfl), rfl⟩
set_option maxHeartbeats 400000 in
theorem isSize_any (n : Int) (w : World) : Calls Tryz.prog 182 #[.int .i64 n] w fun e w' => e = .returned (.bool (SZ n)) ∧ w = w' := by
  by_cases h1 : 1 ≤ n
  · by_cases h2 : n ≤ 31
    · go_enter Tryz.func182, Tryz.ntmps182
      go_wp2
      go_ret
      exact ⟨ret_bool (SZ_iff.2 (by omega)).symm, rfl⟩
    · have hv : SZ n = false := by rw [← Bool.not_eq_true, SZ_iff]; omega
      go_enter Tryz.func182, Tryz.ntmps182
      go_wp2
      go_ret
      exact ⟨ret_bool (by first | exact hv.symm | rfl), rfl⟩
  · have hv : SZ n = false := by rw [← Bool.not_eq_true, SZ_iff]; omega
    go_enter Tryz.func182, Tryz.ntmps182
    go_wp2
    go_ret
    exact ⟨ret_bool (by first | exact hv.symm | rfl), rfl⟩

theorem VF_eq2 (a b m : Int) : VF a b m = (KR a && decide (0 < a) && KR b && SZ m) := by
  rw [Bool.eq_iff_iff]; simp only [VF_iff, Bool.and_eq_true, KR_iff, SZ_iff, decide_eq_true_eq]; omega

/-- The function's value: what it captures lies in three variables. -/
abbrev FnV (A B M : Nat) : Value := .func (.func 206) #[] #[.pointer (some ⟨A, 0, none⟩), .pointer (some ⟨B, 0, none⟩), .pointer (some ⟨M, 0, none⟩)]
/-- The three variables hold a, b and m. -/
structure FunAt (w : World) (A B M : Nat) (a b m : Int) : Prop where
  ca : w.cell? ⟨A, 0, none⟩ = some (.int .i64 a)
  cb : w.cell? ⟨B, 0, none⟩ = some (.int .i64 b)
  cm : w.cell? ⟨M, 0, none⟩ = some (.int .i64 m)
theorem FunAt.lt {w : World} {A B M : Nat} {a b m : Int} (h : FunAt w A B M a b m) : A < w.heap.size ∧ B < w.heap.size ∧ M < w.heap.size :=
  ⟨World.block_lt_of_cell? w _ h.ca, World.block_lt_of_cell? w _ h.cb, World.block_lt_of_cell? w _ h.cm⟩
theorem FunAt.below {w w' : World} {A B M : Nat} {a b m : Int} (hb : Below w.heap.size w w') (h : FunAt w A B M a b m) : FunAt w' A B M a b m := by
  obtain ⟨h1, h2, h3⟩ := h.lt
  exact ⟨(hb.cell (p := ⟨A, 0, none⟩) h1).trans h.ca, (hb.cell (p := ⟨B, 0, none⟩) h2).trans h.cb, (hb.cell (p := ⟨M, 0, none⟩) h3).trans h.cm⟩

set_option maxHeartbeats 1000000 in
theorem functionOf_any (a b m : Int) (w : World) :
    Calls Tryz.prog 197 #[.int .i64 a, .int .i64 b, .int .i64 m] w fun e w' => ∃ A B M, e = .returned (.agg #[.int .i64 a, .int .i64 b, FnV A B M]) ∧ FunAt w' A B M a b m ∧ Below w.heap.size w w' := by
  go_enter Tryz.func197, Tryz.ntmps197
  go_wp2
  refine bodyPost_ret (v := .agg #[.int .i64 a, .int .i64 b, FnV w.heap.size (w.heap.size + 1) (w.heap.size + 2)]) (by simp [results, Tryz.results197, go_sem]) rfl ⟨_, _, _, rfl, ?_, ?_⟩
  · exact ⟨by simp [go_sem, World.cell?_alloc_past], by simp [go_sem, World.cell?_alloc_past], by simp [go_sem, World.cell?_alloc_past]⟩
  · exact ((((Below.refl _ _).alloc (Nat.le_refl _) _).alloc (by simp) _).alloc (by simp; omega) _).alloc (by simp; omega) _

set_option maxHeartbeats 1000000 in
theorem slot_any (A B M : Nat) (a b m k : Int) (w : World) (hF : FunAt w A B M a b m) (ha : 0 ≤ a) (ha' : a ≤ 30) (hb : 0 ≤ b) (hb' : b ≤ 30) (hm : 1 ≤ m) (hm' : m ≤ 31) (hk : 0 ≤ k) (hk' : k ≤ 30) :
    Calls Tryz.prog 206 #[.int .i64 k, .pointer (some ⟨A, 0, none⟩), .pointer (some ⟨B, 0, none⟩), .pointer (some ⟨M, 0, none⟩)] w fun e w' => e = .returned (.int .i64 (hs a b m k)) ∧ w = w' := by
  have h0 : 0 ≤ a * k := Int.mul_nonneg ha hk
  have h1 : a * k ≤ 30 * 30 := Int.mul_le_mul ha' hk' hk (by omega)
  have hne : (m == 0) = false := by simp; omega
  obtain ⟨c1, c2, c3⟩ := hF
  go_enter Tryz.func206, Tryz.ntmps206
  go_wp2
  go_ret
  exact ⟨rfl, rfl⟩

set_option maxRecDepth 100000 in
theorem field2 (x y v : Value) (A B M : Nat) (hv : v = FnV A B M) (w : World) : (Instr.field 200 (.agg #[x, y, v]) 2).run Tryz.prog w = .ok v w := by
  subst hv
  rfl

end Go.Proofs.YtoaiaindcmihjaaGreatDoor
/-
  impl.validKeys, countsOf, meetings, levels, MeetingsOf, TwoLevels.
-/
namespace Go.Proofs.YtoaiaindcmihjaaGreatDoor
open Go.RowKit

theorem arr_zero31 : arr (List.replicate 31 0) = #[.int .i64 0, .int .i64 0, .int .i64 0, .int .i64 0, .int .i64 0, .int .i64 0, .int .i64 0, .int .i64 0, .int .i64 0, .int .i64 0, .int .i64 0, .int .i64 0, .int .i64 0, .int .i64 0, .int .i64 0, .int .i64 0, .int .i64 0, .int .i64 0, .int .i64 0, .int .i64 0, .int .i64 0, .int .i64 0, .int .i64 0, .int .i64 0, .int .i64 0, .int .i64 0, .int .i64 0, .int .i64 0, .int .i64 0, .int .i64 0, .int .i64 0] := rfl
theorem barr_zero31 : ((List.replicate 31 false).map Value.bool).toArray = #[.bool false, .bool false, .bool false, .bool false, .bool false, .bool false, .bool false, .bool false, .bool false, .bool false, .bool false, .bool false, .bool false, .bool false, .bool false, .bool false, .bool false, .bool false, .bool false, .bool false, .bool false, .bool false, .bool false, .bool false, .bool false, .bool false, .bool false, .bool false, .bool false, .bool false, .bool false] := rfl
theorem und_31 : Tryz.prog.underlying 213 = some (.array 31 3) := by kernel_rfl
theorem inf_31 : (Tryz.prog.info? 213).map (·.size) = some 31 := by kernel_rfl
theorem agg_int' (w : World) : (isAgg 3).run Tryz.prog w = .ok false w := by kernel_rfl
theorem size_int' (w : World) : (sizeOf 3).run Tryz.prog w = .ok 1 w := by kernel_rfl
/-- 'arr[i]' of an array of 31 that is a value. -/
theorem index_31 (l : List Int) (hl : l.length = 31) (i : Nat) (hi : i < 31) (x : Int) (hx : l.getD i 0 = x) (w : World) :
    (Instr.index 213 (.agg (arr l)) (.int .i64 (i : Int))).run Tryz.prog w = .ok (.int .i64 x) w := by
  have e : (arr l)[i]? = some (.int .i64 x) := by rw [← hx]; simp [arr, List.getD, hl, hi]
  have h1 : (0 : Int) ≤ i ∧ (i : Int) < (31 : Nat) := ⟨by omega, by omega⟩
  simp [Instr.index, run_underlying und_31, asIntOf, h1, part, Sem.run_bind, size_int', agg_int', e]
  exact fun h => absurd h (by omega)

/-- Which numbers have been seen. -/
def sk (l : List Int) (k : Nat) : List Bool := (List.range 31).map fun s : Nat => decide ((s : Int) ∈ l.take k)
theorem sk_len (l : List Int) (k : Nat) : (sk l k).length = 31 := by simp [sk]
theorem sk_zero (l : List Int) : sk l 0 = List.replicate 31 false := by simp [sk]; decide
theorem sk_get (l : List Int) (k : Nat) {s : Nat} (h : s < 31) : (sk l k).getD s false = decide ((s : Int) ∈ l.take k) := by simp [sk, List.getD, h]
theorem sk_succ {l : List Int} {k X : Nat} (hk : k < l.length) (hX : l.getD k 0 = X) (h31 : X < 31) : (sk l k).set X true = sk l (k + 1) := by
  refine List.ext_getElem (by simp [sk]) fun i h1 h2 => ?_
  have hi : i < 31 := by simpa [sk] using h2
  rw [List.getElem_set]
  simp only [sk, List.getElem_map, List.getElem_range, take_snoc hk, hX]
  by_cases e : X = i
  · subst e; simp
  · have : ¬ (i : Int) = (X : Int) := by omega
    simp [e, this]

set_option maxHeartbeats 4000000 in
theorem implvalidKeys_any (a : Option Addr) (l : List Int) (cap : Nat) (w : World) (hr : Reads w a l) (hl : l.length ≤ 1048586) :
    Calls Tryz.prog 183 #[.slice a l.length cap] w fun e w' => e = .returned (.bool (VK l)) ∧ Below w.heap.size w w' := by
  by_cases h8 : 8 < l.length
  · have hv : VK l = false := by rw [← Bool.not_eq_true, VK_iff]; omega
    go_enter Tryz.func183, Tryz.ntmps183
    go_wp2
    go_ret
    exact ⟨ret_bool (by first | exact hv.symm | rfl), Below.refl _ _⟩
  · have h0 : BArr (w.alloc (.cells ((List.replicate 31 false).map Value.bool).toArray 212)) 212 w.heap.size (List.replicate 31 false) := BArr.new w _ _
    rw [barr_zero31, ← sk_zero l] at h0
    have B0 := (Below.refl w.heap.size w).alloc (Nat.le_refl _) (.cells #[.bool false, .bool false, .bool false, .bool false, .bool false, .bool false, .bool false, .bool false, .bool false, .bool false, .bool false, .bool false, .bool false, .bool false, .bool false, .bool false, .bool false, .bool false, .bool false, .bool false, .bool false, .bool false, .bool false, .bool false, .bool false, .bool false, .bool false, .bool false, .bool false, .bool false, .bool false] 212)
    go_enter Tryz.func183, Tryz.ntmps183
    go_wp2
    go_loopw [11] (fun i wr => ∃ k : Nat, k ≤ l.length ∧ i = .int .i64 k ∧ Hid (VKp l k) ∧ BArr wr 212 w.heap.size (sk l k) ∧ Below w.heap.size w wr) (fun i _ => l.length - (intOf i).toNat)
    case atStart => exact ⟨0, Nat.zero_le _, rfl, fun j hj => by omega, h0, B0⟩
    case round =>
      clear h0 B0
      obtain ⟨k, hk, rfl, hf, hS, hB⟩ := hrel
      by_cases hlt : k < l.length
      · obtain ⟨b, off, y, rfl, hbb, hcell, hy⟩ := hr.get hlt
        have hc1 : wr.cell? ⟨b, off + k, none⟩ = some (.int .i64 y) := (hB.cell (by exact hbb)).trans hcell
        have hk1 : (k : Int) < (l.length : Int) := by omega
        by_cases g1 : KR y = true
        · obtain ⟨y0, y1⟩ := KR_iff.1 g1
          obtain ⟨Y, rfl⟩ := Int.eq_ofNat_of_zero_le y0
          obtain ⟨s, hcs, hs⟩ := hS.get (k := Y) (by rw [sk_len]; omega)
          have hs2 := hs.out
          rw [sk_get _ _ (by omega)] at hs2
          have hfz := hS.frozen Y
          by_cases g2 : (Y : Int) ∈ l.take k
          · have : s = true := by rw [← hs2]; exact decide_eq_true g2
            subst this
            have HB := Lib.hid (VK_bad2 hlt (by rw [hy.out]; exact g2))
            clear g2 hs2
            go_wp2_with (first | (go_at_call 195; refine (isRest_any _ _).mono ?_; rintro e w' ⟨rfl, rfl⟩))
            go_ret
            exact ⟨ret_bool HB.out.symm, hB⟩
          · have : s = false := by rw [← hs2]; exact decide_eq_false g2
            subst this
            have HB := Lib.hid (hf.out.succ (by rw [hy.out]; omega) (by rw [hy.out]; exact g2))
            have hst := hS.store Y true
            rw [sk_succ hlt hy.out (by omega)] at hst
            have hB2 := hB.setCell (p := ⟨w.heap.size, Y, none⟩) (Nat.le_refl _) (.bool true)
            clear g2 hs2
            go_wp2_with (first | (go_at_call 195; refine (isRest_any _ _).mono ?_; rintro e w' ⟨rfl, rfl⟩))
            go_roundw
            case rel => exact ⟨k + 1, by omega, by go_num, HB, hst, hB2⟩
            case measure => simp [intOf]; omega
        · have g1' : KR y = false := by simpa using g1
          have HB := Lib.hid (VK_bad1 hlt (by rw [hy.out]; exact fun h => g1 (KR_iff.2 h)))
          go_wp2_with (first | (go_at_call 195; refine (isRest_any _ _).mono ?_; rintro e w' ⟨rfl, rfl⟩))
          go_ret
          exact ⟨ret_bool HB.out.symm, hB⟩
      · obtain rfl : k = l.length := by omega
        have HB := Lib.hid (VK_end hf.out)
        go_wp2
        go_ret
        exact ⟨ret_bool (by rw [HB.out]; simp; omega), hB⟩

/-- A function's struct in a variable. -/
def FBox (w : World) (g : Nat) (a b : Int) (v : Value) : Prop := w.heap[g]? = some (.cells #[.int .i64 a, .int .i64 b, v] 200 (0, 0))
section
variable {w : World} {g : Nat} {a b : Int} {v : Value}
theorem FBox.lt (h : FBox w g a b v) : g < w.heap.size := (Array.getElem?_eq_some_iff.1 h).1
theorem FBox.c0 (h : FBox w g a b v) : w.cell? ⟨g, 0, none⟩ = some (.int .i64 a) := by rw [cell_of_row w g 0 _ _ _ h]; rfl
theorem FBox.c1 (h : FBox w g a b v) : w.cell? ⟨g, 1, none⟩ = some (.int .i64 b) := by rw [cell_of_row w g 1 _ _ _ h]; rfl
theorem FBox.c2 (h : FBox w g a b v) : w.cell? ⟨g, 2, none⟩ = some v := by rw [cell_of_row w g 2 _ _ _ h]; rfl
theorem FBox.other {g' : Nat} (h : FBox w g a b v) (hne : g ≠ g') (k : Nat) (x : Value) : FBox (w.setCell ⟨g', k, none⟩ x) g a b v := by
  unfold FBox
  rw [heap_setCell_other w ⟨g', k, none⟩ g x hne]; exact h
theorem FBox.alloc (h : FBox w g a b v) (o : Obj) : FBox (w.alloc o) g a b v := (Below.heap_alloc w o g h.lt).trans h
theorem FBox.belowAll {w' : World} (hb : Below w.heap.size w w') (h : FBox w g a b v) : FBox w' g a b v := (hb.block g h.lt).trans h
theorem FBox.kept {w' : World} {row : Option Nat} (h : FBox w g a b v) (hg : w.grownBy w' row) (hne : some g ≠ row) : FBox w' g a b v := (hg.block g h.lt hne).trans h
end
theorem FBox.new (w : World) (a b : Int) (v : Value) : FBox (w.alloc (.cells #[.int .i64 a, .int .i64 b, v] 200)) w.heap.size a b v := heap_alloc_new w _

set_option maxHeartbeats 4000000 in
theorem countsOf_any (A B M : Nat) (a b m : Int) (al : Option Addr) (l : List Int) (cap : Nat) (w : World) (hF : FunAt w A B M a b m) (hr : Reads w al l) (ha : 1 ≤ a) (ha' : a ≤ 30) (hb : 0 ≤ b) (hb' : b ≤ 30) (hm : 1 ≤ m) (hm' : m ≤ 31) (hv : VK l = true) :
    Calls Tryz.prog 196 #[.agg #[.int .i64 a, .int .i64 b, FnV A B M], .slice al l.length cap] w fun e w' => e = .returned (.agg (arr (cs (l.map (hs a b m))))) ∧ Below w.heap.size w w' := by
  obtain ⟨hl, hfit, _⟩ := VK_iff.1 hv
  obtain ⟨H, hH⟩ : ∃ H, H = l.map (hs a b m) := ⟨_, rfl⟩
  have hHl : H.length = l.length := by rw [hH, List.length_map]
  have hHg : ∀ i, i < l.length → H.getD i 0 = hs a b m (l.getD i 0) := fun i hi => by rw [hH]; exact map_getD hi
  rw [← hH]
  have HG := Lib.hid hHg
  have HL := Lib.hid hHl
  have HF := Lib.hid hfit
  clear hH hHg hHl hfit hv
  have x0 := FBox.new w a b (FnV A B M)
  obtain ⟨w1, e1⟩ : ∃ w1, w1 = w.alloc (.cells #[.int .i64 a, .int .i64 b, FnV A B M] 200) := ⟨_, rfl⟩
  have z1 : w1.heap.size = w.heap.size + 1 := by rw [e1]; simp
  have b1 : Below w.heap.size w w1 := by rw [e1]; exact (Below.refl _ _).alloc (Nat.le_refl _) _
  rw [← e1] at x0
  have x1 : Arr (w1.alloc (.cells (arr (List.replicate 31 0)) 213)) 213 w1.heap.size (List.replicate 31 0) := Arr.new _ _ _
  rw [z1] at x1
  have x0' := x0.alloc (.cells (arr (List.replicate 31 0)) 213)
  have b2 := b1.alloc (by omega) (.cells (arr (List.replicate 31 0)) 213)
  obtain ⟨w2, e2⟩ : ∃ w2, w2 = w1.alloc (.cells (arr (List.replicate 31 0)) 213) := ⟨_, rfl⟩
  have z2 : w2.heap.size = w.heap.size + 2 := by rw [e2]; simp; omega
  rw [← e2] at x1 x0' b2
  have x2 : Arr (w2.alloc (.cells (arr (List.replicate 31 0)) 213)) 213 w2.heap.size (List.replicate 31 0) := Arr.new _ _ _
  rw [z2] at x2
  have x1' := x1.alloc (.cells (arr (List.replicate 31 0)) 213)
  have x0'' := x0'.alloc (.cells (arr (List.replicate 31 0)) 213)
  have b3 := b2.alloc (by omega) (.cells (arr (List.replicate 31 0)) 213)
  obtain ⟨w3, e3⟩ : ∃ w3, w3 = w2.alloc (.cells (arr (List.replicate 31 0)) 213) := ⟨_, rfl⟩
  rw [← e3] at x1' x0'' b3 x2
  have E3 : Hid (w3 = ((w.alloc (.cells #[.int .i64 a, .int .i64 b, FnV A B M] 200)).alloc (.cells #[.int .i64 0, .int .i64 0, .int .i64 0, .int .i64 0, .int .i64 0, .int .i64 0, .int .i64 0, .int .i64 0, .int .i64 0, .int .i64 0, .int .i64 0, .int .i64 0, .int .i64 0, .int .i64 0, .int .i64 0, .int .i64 0, .int .i64 0, .int .i64 0, .int .i64 0, .int .i64 0, .int .i64 0, .int .i64 0, .int .i64 0, .int .i64 0, .int .i64 0, .int .i64 0, .int .i64 0, .int .i64 0, .int .i64 0, .int .i64 0, .int .i64 0] 213)).alloc (.cells #[.int .i64 0, .int .i64 0, .int .i64 0, .int .i64 0, .int .i64 0, .int .i64 0, .int .i64 0, .int .i64 0, .int .i64 0, .int .i64 0, .int .i64 0, .int .i64 0, .int .i64 0, .int .i64 0, .int .i64 0, .int .i64 0, .int .i64 0, .int .i64 0, .int .i64 0, .int .i64 0, .int .i64 0, .int .i64 0, .int .i64 0, .int .i64 0, .int .i64 0, .int .i64 0, .int .i64 0, .int .i64 0, .int .i64 0, .int .i64 0, .int .i64 0] 213)) := by
    show w3 = _; rw [e3, e2, e1, arr_zero31]
  clear e1 e2 e3 z1 z2 x0 x0' x1 b1 b2
  go_enter Tryz.func196, Tryz.ntmps196
  go_wp2_with fail
  rw [← E3.out]
  go_loopw [10] (fun i wr => ∃ k : Nat, k ≤ l.length ∧ i = .int .i64 k ∧ FBox wr w.heap.size a b (FnV A B M) ∧ Arr wr 213 (w.heap.size + 1) (List.replicate 31 0) ∧ Arr wr 213 (w.heap.size + 2) (cs (H.take k)) ∧ Below w.heap.size w wr) (fun i _ => l.length - (intOf i).toNat)
  case atStart => exact ⟨0, Nat.zero_le _, rfl, x0'', x1', by rw [List.take_zero, cs_nil]; exact x2, b3⟩
  case round =>
    clear x0'' x1' x2 b3 E3
    obtain ⟨k, hk, rfl, hX, hR, hC, hB⟩ := hrel
    by_cases hlt : k < l.length
    · obtain ⟨bb, off, y, rfl, hbb, hcell, hy⟩ := hr.get hlt
      have hc1 : wr.cell? ⟨bb, off + k, none⟩ = some (.int .i64 y) := (hB.cell (by exact hbb)).trans hcell
      have hyf := HF.out y (by rw [← hy.out]; exact getD_mem hlt)
      have hk1 : (k : Int) < (l.length : Int) := by omega
      have hF2 := hF.below hB
      obtain ⟨s0, s1⟩ := hs_range (a := a) (b := b) (m := m) (k := y) hm
      have s31 := hs_31 (a := a) (b := b) (m := m) (k := y) hm
      have hcall := slot_any A B M a b m y wr hF2 (by omega) ha' hb hb' hm hm' hyf.1 hyf.2
      obtain ⟨S, hS⟩ := Int.eq_ofNat_of_zero_le s0
      rw [hS] at hcall s31
      have hSl : H.getD k 0 = (S : Int) := by rw [HG.out k hlt, hy.out, hS]
      obtain ⟨c, hcc, hce⟩ := hC.get (k := S) (by rw [cs_len]; omega)
      have hce2 := hce.out
      rw [cs_get _ (by omega)] at hce2
      have hcl : (H.take k).count (S : Int) ≤ (H.take k).length := List.count_le_length
      rw [List.length_take] at hcl
      have c0 : 0 ≤ c ∧ c ≤ 8 := by omega
      have hfz := hC.frozen S
      have hst := hC.store S (c + 1)
      rw [← hce2, cs_snoc (by omega), ← hSl, ← take_snoc (by rw [HL.out]; exact hlt), hSl, hce2] at hst
      have hX2 := hX.other (g' := w.heap.size + 2) (by omega) S (.int .i64 (c + 1))
      have hR2 := hR.other (g' := w.heap.size + 2) (by omega) S (.int .i64 (c + 1))
      have hB2 := hB.setCell (p := ⟨w.heap.size + 2, S, none⟩) (by show w.heap.size ≤ w.heap.size + 2; omega) (.int .i64 (c + 1))
      have hx2 := hX.c2
      have HC := Lib.hid hcall
      clear hcall hcell hS s0 s1 hSl hce2 hcl hF2 hX hR hC hB
      go_wp2_with fail
      refine HC.out.mono ?_
      rintro e w' ⟨rfl, rfl⟩
      go_wp2
      go_roundw
      case rel => exact ⟨k + 1, by omega, by go_num, hX2, hR2, hst, hB2⟩
      case measure => simp [intOf]; omega
    · obtain rfl : k = l.length := by omega
      rw [← HL.out, List.take_length] at hC
      go_wp2_with (first | (refine load_arr rfl _ _ rfl _ rfl _ _ _ _ hC und_31 inf_31 (cs_len _) ?_) | (refine store_arr rfl _ _ _ rfl _ rfl _ _ rfl _ _ hR inf_31 (cs_len _) rfl ?_))
      intro w4 h4 hg4
      have hB4 := hB.grown hg4 hB.size (fun q hq => by cases hq; exact Nat.le_succ _)
      go_wp2
      exact ret_arr rfl rfl _ rfl _ _ 31 _ h4 und_31 inf_31 (cs_len _) ⟨rfl, hB4⟩

theorem eight {c : Nat} (h : c ≤ 8) : c = 0 ∨ c = 1 ∨ c = 2 ∨ c = 3 ∨ c = 4 ∨ c = 5 ∨ c = 6 ∨ c = 7 ∨ c = 8 := by omega
theorem tri_bound {c : Nat} (h : c ≤ 8) : 0 ≤ (c : Int) * ((c : Int) - 1) ∧ (c : Int) * ((c : Int) - 1) ≤ 64 ∧ ((c : Int) * ((c : Int) - 1)).tdiv 2 = (tri c : Nat) ∧ ((c : Int) * ((c : Int) - 1)) / 2 = (tri c : Nat) ∧ tri c ≤ 32 := by
  rcases eight h with rfl | rfl | rfl | rfl | rfl | rfl | rfl | rfl | rfl <;> decide
theorem sq_bound {c : Nat} (h : c ≤ 8) : 0 ≤ (c : Int) * (c : Int) ∧ (c : Int) * (c : Int) ≤ 64 := by
  rcases eight h with rfl | rfl | rfl | rfl | rfl | rfl | rfl | rfl | rfl <;> decide
theorem sumR_bound {f : Nat → Nat} {n c : Nat} (h : ∀ i, i < n → f i ≤ c) : sumR f n ≤ n * c := by
  induction n with
  | zero => simp [sumR]
  | succ n ih =>
    have h1 := ih (fun i hi => h i (by omega))
    have h2 := h n (by omega)
    rw [sumR, Nat.add_mul, Nat.one_mul]; omega
theorem map_range {l : List Int} {a b m : Int} (hm : 1 ≤ m) : ∀ x ∈ l.map (hs a b m), 0 ≤ x ∧ x < 31 := by
  intro x hx
  obtain ⟨y, _, rfl⟩ := List.mem_map.1 hx
  exact ⟨(hs_range hm).1, hs_31 hm⟩

set_option maxHeartbeats 4000000 in
set_option maxRecDepth 100000 in
theorem funMeetings_any (A B M : Nat) (a b m : Int) (al : Option Addr) (l : List Int) (cap : Nat) (w : World) (hF : FunAt w A B M a b m) (hr : Reads w al l) (ha : 1 ≤ a) (ha' : a ≤ 30) (hb : 0 ≤ b) (hb' : b ≤ 30) (hm : 1 ≤ m) (hm' : m ≤ 31) (hv : VK l = true) :
    Calls Tryz.prog 185 #[.agg #[.int .i64 a, .int .i64 b, FnV A B M], .slice al l.length cap] w fun e w' => e = .returned (.int .i64 (mt a b m l : Nat)) ∧ Below w.heap.size w w' := by
  have hl := (VK_iff.1 hv).1
  have b1 : Below w.heap.size w (w.alloc (.cells #[.int .i64 a, .int .i64 b, FnV A B M] 200)) := (Below.refl _ _).alloc (Nat.le_refl _) _
  have hcall := countsOf_any A B M a b m al l cap _ (hF.below b1) (hr.below b1) ha ha' hb hb' hm hm' hv
  have hmr := map_range (l := l) (a := a) (b := b) hm
  obtain ⟨H, hH⟩ : ∃ H, H = l.map (hs a b m) := ⟨_, rfl⟩
  have hmt : mt a b m l = pr H := by rw [hH]; rfl
  have hHl : H.length ≤ 8 := by rw [hH, List.length_map]; exact hl
  rw [← hH] at hcall hmr
  have hsum := sum_tri hmr
  have HC := Lib.hid hcall
  have HM := Lib.hid hmt
  have HS := Lib.hid hsum
  clear hcall hmt hsum hH hmr hv
  go_enter Tryz.func185, Tryz.ntmps185
  go_wp2_with fail
  refine HC.out.mono ?_
  rintro e w2 ⟨rfl, b2⟩
  have b3 := b1.trans (b2.mono b1.size)
  clear HC b2 b1 hF hr
  go_wp2
  go_loopw [5, 11] (fun p i wr => ∃ s : Nat, s ≤ 31 ∧ i = .int .i64 s ∧ p = .int .i64 (sumR (fun s => tri (H.count (s : Int))) s : Nat) ∧ wr = w2) (fun _ i _ => 31 - (intOf i).toNat)
  case atStart => exact ⟨0, by omega, rfl, rfl, rfl⟩
  case round =>
    obtain ⟨s, hs', rfl, rfl, rfl⟩ := hrel
    by_cases hlt : s < 31
    · have hc8 : H.count (s : Int) ≤ 8 := Nat.le_trans List.count_le_length hHl
      have hb31 := sumR_bound (f := fun s : Nat => tri (H.count (s : Int))) (n := s) (c := 32) (fun i _ => (tri_bound (Nat.le_trans List.count_le_length hHl)).2.2.2.2)
      have hidx := index_31 (cs H) (cs_len H) s hlt (H.count (s : Int) : Nat) (cs_get H hlt) wr
      have hsu : sumR (fun s : Nat => tri (H.count (s : Int))) (s + 1) = sumR (fun s : Nat => tri (H.count (s : Int))) s + tri (H.count (s : Int)) := rfl
      obtain ⟨c, hc⟩ : ∃ c, c = H.count (s : Int) := ⟨_, rfl⟩
      rw [← hc] at hc8 hidx hsu
      obtain ⟨t0, t1, t2, t3, t4⟩ := tri_bound hc8
      obtain ⟨Z, hZ⟩ : ∃ Z, Z = sumR (fun s : Nat => tri (H.count (s : Int))) s := ⟨_, rfl⟩
      rw [← hZ] at hsu hb31 ⊢
      have HSU := Lib.hid hsu
      have T3 := Lib.hid t3
      have T2 := Lib.hid t2
      clear hsu hZ hc t2 t3
      go_wp2
      go_roundw
      case rel =>
        refine ⟨s + 1, by omega, by go_num, ?_, (by first | rfl | trivial)⟩
        rw [HSU.out]
        have := T2.out
        have := T3.out
        go_num
      case measure => simp [intOf]; omega
    · obtain rfl : s = 31 := by omega
      go_wp2
      go_ret
      exact ⟨ret_int (by rw [HS.out, ← HM.out]), b3⟩

end Go.Proofs.YtoaiaindcmihjaaGreatDoor
/-
  impl.familyOf: a slice of functions that grows; PairCount.
-/
namespace Go.Proofs.YtoaiaindcmihjaaGreatDoor
open Go.RowKit

theorem infoFun : (Tryz.prog.info? 200).map (fun i => (i.zero, i.size, i.bytes)) = some (some (.agg #[.int .i64 0, .int .i64 0, .nilFunc]), 3, 24) := by kernel_rfl

/-- The three variables that a function captures, by their blocks. -/
structure FunHeap (w : World) (A B M : Nat) (a b m : Int) : Prop where
  ha : w.heap[A]? = some (.cells #[.int .i64 a] 3 (0, 0))
  hb : w.heap[B]? = some (.cells #[.int .i64 b] 3 (0, 0))
  hm : w.heap[M]? = some (.cells #[.int .i64 m] 3 (0, 0))
section
variable {w w' : World} {A B M : Nat} {a b m : Int}
theorem FunHeap.at_ (h : FunHeap w A B M a b m) : FunAt w A B M a b m :=
  ⟨by rw [cell_of_row w A 0 _ _ _ h.ha]; rfl, by rw [cell_of_row w B 0 _ _ _ h.hb]; rfl, by rw [cell_of_row w M 0 _ _ _ h.hm]; rfl⟩
theorem FunHeap.lt (h : FunHeap w A B M a b m) : A < w.heap.size ∧ B < w.heap.size ∧ M < w.heap.size :=
  ⟨(Array.getElem?_eq_some_iff.1 h.ha).1, (Array.getElem?_eq_some_iff.1 h.hb).1, (Array.getElem?_eq_some_iff.1 h.hm).1⟩
theorem FunHeap.below (hb : Below w.heap.size w w') (h : FunHeap w A B M a b m) : FunHeap w' A B M a b m := by
  obtain ⟨h1, h2, h3⟩ := h.lt
  exact ⟨(hb.block _ h1).trans h.ha, (hb.block _ h2).trans h.hb, (hb.block _ h3).trans h.hm⟩
theorem FunHeap.kept (h : FunHeap w A B M a b m) {row : Option Nat} (hg : w.grownBy w' row) (h1 : some A ≠ row) (h2 : some B ≠ row) (h3 : some M ≠ row) : FunHeap w' A B M a b m :=
  ⟨(hg.block _ h.lt.1 h1).trans h.ha, (hg.block _ h.lt.2.1 h2).trans h.hb, (hg.block _ h.lt.2.2 h3).trans h.hm⟩
end

set_option maxHeartbeats 1000000 in
theorem functionOf_heap (a b m : Int) (w : World) :
    Calls Tryz.prog 197 #[.int .i64 a, .int .i64 b, .int .i64 m] w fun e w' => ∃ A B M, e = .returned (.agg #[.int .i64 a, .int .i64 b, FnV A B M]) ∧ FunHeap w' A B M a b m ∧ Below w.heap.size w w' := by
  have a0 := heap_alloc_new w (.cells #[.int .i64 a] 3)
  obtain ⟨w1, e1⟩ : ∃ w1, w1 = w.alloc (.cells #[.int .i64 a] 3) := ⟨_, rfl⟩
  have z1 : w1.heap.size = w.heap.size + 1 := by rw [e1]; simp
  have q1 : Below w.heap.size w w1 := by rw [e1]; exact (Below.refl _ _).alloc (Nat.le_refl _) _
  rw [← e1] at a0
  have b0 := heap_alloc_new w1 (.cells #[.int .i64 b] 3)
  have a1 := (Below.heap_alloc w1 (.cells #[.int .i64 b] 3) w.heap.size (by omega)).trans a0
  have q2 := q1.alloc (by omega) (.cells #[.int .i64 b] 3)
  obtain ⟨w2, e2⟩ : ∃ w2, w2 = w1.alloc (.cells #[.int .i64 b] 3) := ⟨_, rfl⟩
  have z2 : w2.heap.size = w.heap.size + 2 := by rw [e2]; simp; omega
  rw [← e2] at a1 b0 q2
  have c0 := heap_alloc_new w2 (.cells #[.int .i64 m] 3)
  have a2 := (Below.heap_alloc w2 (.cells #[.int .i64 m] 3) w.heap.size (by omega)).trans a1
  have b1 := (Below.heap_alloc w2 (.cells #[.int .i64 m] 3) w1.heap.size (by omega)).trans b0
  have q3 := q2.alloc (by omega) (.cells #[.int .i64 m] 3)
  obtain ⟨w3, e3⟩ : ∃ w3, w3 = w2.alloc (.cells #[.int .i64 m] 3) := ⟨_, rfl⟩
  have z3 : w3.heap.size = w.heap.size + 3 := by rw [e3]; simp; omega
  rw [← e3] at a2 b1 c0 q3
  have E3 : Hid (w3 = ((w.alloc (.cells #[.int .i64 a] 3)).alloc (.cells #[.int .i64 b] 3)).alloc (.cells #[.int .i64 m] 3)) := by show w3 = _; rw [e3, e2, e1]
  rw [z1] at b1
  rw [z2] at c0
  have hF : FunHeap w3 w.heap.size (w.heap.size + 1) (w.heap.size + 2) a b m := ⟨a2, b1, c0⟩
  have HF := Lib.hid (fun (w4 : World) (h : Below w3.heap.size w3 w4) => hF.below h)
  have Q3 := Lib.hid q3
  have Z3 := Lib.hid z3
  clear a0 a1 a2 b0 b1 c0 q1 q2 q3 e1 e2 e3 z1 z2 z3 hF
  go_enter Tryz.func197, Tryz.ntmps197
  go_wp2
  refine bodyPost_ret (v := .agg #[.int .i64 a, .int .i64 b, FnV w.heap.size (w.heap.size + 1) (w.heap.size + 2)]) (by simp [results, Tryz.results197, go_sem]) rfl ⟨_, _, _, rfl, ?_, ?_⟩
  · rw [← E3.out]
    exact HF.out _ ((Below.refl _ _).alloc (Nat.le_refl _) _)
  · rw [← E3.out]
    exact Q3.out.alloc (by have := Z3.out; omega) _

/-- A slice of functions of the call's own: the first k of the family. -/
def OwnF (w : World) (base : Nat) (v : Value) (m : Int) (k : Nat) : Prop :=
  ∃ vs : List Value, w.ownsRow base 200 3 v k vs ∧ ∀ i, i < k → ∃ A B M, vs[i * 3]? = some (.int .i64 (fA i : Nat)) ∧ vs[i * 3 + 1]? = some (.int .i64 (fB i : Nat)) ∧ vs[i * 3 + 2]? = some (FnV A B M) ∧ FunHeap w A B M (fA i : Nat) (fB i : Nat) m
section
variable {w w' : World} {base : Nat} {v : Value} {m : Int} {k : Nat}
theorem OwnF.lt (h : OwnF w base v m k) : ∀ q, v.ownBlock = some q → base ≤ q ∧ q < w.heap.size := by
  obtain ⟨vs, h1, _⟩ := h
  exact World.ownsRow.lt h1
theorem OwnF.ne_int (h : OwnF w base v m k) {G : Nat} {c : Array Value} (hG : w.heap[G]? = some (.cells c 3 (0, 0))) : some G ≠ v.ownBlock := by
  obtain ⟨vs, h1, _⟩ := h
  rcases h1.2 with ⟨rfl, _⟩ | ⟨g, cap, cur, rfl, _, hg, _⟩
  · simp [Value.ownBlock]
  · intro e
    have : G = g := by simpa [Value.ownBlock] using e
    subst this
    rw [hg] at hG
    injection hG with hG
    injection hG with _ h3
    exact absurd h3 (by decide)
theorem OwnF.below (hb : Below w.heap.size w w') (h : OwnF w base v m k) : OwnF w' base v m k := by
  obtain ⟨vs, h1, h2⟩ := h
  refine ⟨vs, ⟨h1.1, ?_⟩, fun i hi => ?_⟩
  · rcases h1.2 with hn | ⟨g, cap, cur, hv, hbg, hg, r⟩
    · exact .inl hn
    · exact .inr ⟨g, cap, cur, hv, hbg, (hb.block g (Array.getElem?_eq_some_iff.1 hg).1).trans hg, r⟩
  · obtain ⟨A, B, M, e1, e2, e3, hF⟩ := h2 i hi
    exact ⟨A, B, M, e1, e2, e3, hF.below hb⟩
end

/-- 'append(s, f)' of one function. -/
theorem push_fun {wr : World} {ops : Array Oper} {rest : List Oper} {o : Oper} {act : Act} {Q : Exit → Act → World → Prop} (hgd : o.guard = none) (s x : Operand)
    (ho : o.op = .call { callee := .builtin .append, args := #[s, x], argTypes := #[202, 202] })
    (base : Nat) (v : Value) (m : Int) (k : Nat) (a b : Int) (ha : a = (fA k : Nat)) (hb : b = (fB k : Nat)) (A B M : Nat) (hs : act.eval s = v) (hown : OwnF wr base v m k) (hF : FunHeap wr A B M a b m) (H : Nat) (hx : act.eval x = .slice (some ⟨H, 0, none⟩) 1 1) (hH : wr.heap.size = H)
    (hl : k < 1000000) (hbase : base ≤ wr.heap.size)
    (h : ∀ v' w', OwnF w' base v' m (k + 1) → wr.grownBy w' v.ownBlock → wpList Tryz.prog ops Q rest (act.put o.dst v') w') :
    wpList Tryz.prog ops Q (o :: rest) act (wr.alloc (.cells #[.int .i64 a, .int .i64 b, FnV A B M] 200)) := by
  subst hH
  subst ha
  subst hb
  have hne : ∀ (A B M : Nat) (a b m : Int), FunHeap wr A B M a b m → some A ≠ v.ownBlock ∧ some B ≠ v.ownBlock ∧ some M ≠ v.ownBlock := fun A B M a b m h => ⟨hown.ne_int h.ha, hown.ne_int h.hb, hown.ne_int h.hm⟩
  obtain ⟨vs, h1, h2⟩ := hown
  obtain ⟨i0, hi, hz0, hz1, hz2⟩ := info_parts infoFun
  have hnews : ∀ j u, ([Value.int .i64 (fA k : Nat), Value.int .i64 (fB k : Nat), FnV A B M])[j]? = some u → (wr.alloc (.cells #[.int .i64 (fA k : Nat), .int .i64 (fB k : Nat), FnV A B M] 200)).cell? ((⟨wr.heap.size, 0, none⟩ : Addr).add j) = some u := by
    intro j u hu
    have hj : j < 3 := by simpa using (List.getElem?_eq_some_iff.1 hu).1
    rw [Addr.add_lit, cell_of_row _ _ _ _ _ _ (heap_alloc_new _ _)]
    match j, hj, hu with
    | 0, _, hu => simpa using hu
    | 1, _, hu => simpa using hu
    | 2, _, hu => simpa using hu
  refine wpList_append_own _ hgd s x 202 ho base 200 i0 (.agg #[.int .i64 0, .int .i64 0, .nilFunc]) 3 24 Tryz.underlying202 hi hz0 hz1 hz2 rfl (by decide) v k vs hs (World.ownsRow.alloc h1 _) ⟨wr.heap.size, 0, none⟩ 1 1 [.int .i64 (fA k : Nat), .int .i64 (fB k : Nat), FnV A B M] hx rfl hnews (fun u hu => by simp at hu; rcases hu with rfl | rfl | rfl <;> rfl) (by unfold maxLen; omega) (by omega) (by simp; omega) fun v' w' g1 g2 _ => ?_
  have hgb : wr.grownBy w' v.ownBlock := by
    refine ⟨g2.os, g2.tape, g2.output, Nat.le_trans (by simp) g2.size, fun k hk hne => ?_⟩
    rw [g2.block k (by simp; omega) hne]; exact Below.heap_alloc _ _ _ hk
  have hvl : vs.length = k * 3 := h1.1
  refine h v' w' ⟨vs ++ [.int .i64 (fA k : Nat), .int .i64 (fB k : Nat), FnV A B M], g1, fun r hr => ?_⟩ hgb
  by_cases e : r < k
  · obtain ⟨A', B', M', e1, e2, e3, hF'⟩ := h2 r e
    obtain ⟨n1, n2, n3⟩ := hne _ _ _ _ _ _ hF'
    exact ⟨A', B', M', by rw [List.getElem?_append_left (by omega)]; exact e1, by rw [List.getElem?_append_left (by omega)]; exact e2, by rw [List.getElem?_append_left (by omega)]; exact e3, hF'.kept hgb n1 n2 n3⟩
  · obtain rfl : r = k := by omega
    obtain ⟨n1, n2, n3⟩ := hne _ _ _ _ _ _ hF
    refine ⟨A, B, M, ?_, ?_, ?_, hF.kept hgb n1 n2 n3⟩
    · rw [List.getElem?_append_right (by omega), hvl]; simp
    · rw [List.getElem?_append_right (by omega), hvl, show r * 3 + 1 - r * 3 = 1 by omega]; rfl
    · rw [List.getElem?_append_right (by omega), hvl, show r * 3 + 2 - r * 3 = 2 by omega]; rfl

/-- The whole family in block G. -/
structure Fam (w : World) (G : Nat) (m : Int) : Prop where
  lt : G < w.heap.size
  el : ∀ t, t < 930 → ∃ A B M, w.cell? ⟨G, t * 3, none⟩ = some (.int .i64 (fA t : Nat)) ∧ w.cell? ⟨G, t * 3 + 1, none⟩ = some (.int .i64 (fB t : Nat)) ∧ w.cell? ⟨G, t * 3 + 2, none⟩ = some (FnV A B M) ∧ FunAt w A B M (fA t : Nat) (fB t : Nat) m
theorem Fam.below {w w' : World} {G : Nat} {m : Int} (hb : Below w.heap.size w w') (h : Fam w G m) : Fam w' G m := by
  refine ⟨Nat.lt_of_lt_of_le h.lt hb.size, fun t ht => ?_⟩
  obtain ⟨A, B, M, e1, e2, e3, hF⟩ := h.el t ht
  exact ⟨A, B, M, (hb.cell (p := ⟨G, t * 3, none⟩) h.lt).trans e1, (hb.cell (p := ⟨G, t * 3 + 1, none⟩) h.lt).trans e2, (hb.cell (p := ⟨G, t * 3 + 2, none⟩) h.lt).trans e3, hF.below hb⟩
theorem OwnF.fam {w : World} {base : Nat} {v : Value} {m : Int} (h : OwnF w base v m 930) : ∃ G cap, v = .slice (some ⟨G, 0, none⟩) 930 cap ∧ 930 ≤ cap ∧ cap ≤ maxLen ∧ Fam w G m := by
  obtain ⟨vs, h1, h2⟩ := h
  have hc := h1
  rcases h1.2 with ⟨_, h0⟩ | ⟨g, cap, cur, rfl, hb, hg, hn, hm, _⟩
  · omega
  · refine ⟨g, cap, rfl, hn, hm, (Array.getElem?_eq_some_iff.1 hg).1, fun t ht => ?_⟩
    obtain ⟨A, B, M, e1, e2, e3, hF⟩ := h2 t ht
    exact ⟨A, B, M, by rw [World.ownsRow.cellAt hc _ (by omega)]; exact e1, by rw [World.ownsRow.cellAt hc _ (by omega)]; exact e2, by rw [World.ownsRow.cellAt hc _ (by omega)]; exact e3, hF.at_⟩
theorem below_ownF {a b c : World} {B base : Nat} {v : Value} {m : Int} {k : Nat} (h : Below B a b) (ho : OwnF b base v m k) (hB : B ≤ b.heap.size) (hb : B ≤ base) (g : b.grownBy c v.ownBlock) : Below B a c :=
  h.grown g hB fun k hk => Nat.le_trans hb (ho.lt k hk).1

set_option maxHeartbeats 4000000 in
theorem familyOf_any (m : Int) (w : World) :
    Calls Tryz.prog 186 #[.int .i64 m] w fun e w' => ∃ G cap, e = .returned (.slice (some ⟨G, 0, none⟩) 930 cap) ∧ 930 ≤ cap ∧ cap ≤ maxLen ∧ Fam w' G m ∧ Below w.heap.size w w' := by
  obtain ⟨i0, hi, hz0, hz1, hz2⟩ := info_parts infoFun
  go_enter Tryz.func186, Tryz.ntmps186
  go_wp2_with (refine wpList_make_own _ rfl _ _ 202 rfl w.heap.size 200 i0 (.agg #[.int .i64 0, .int .i64 0, .nilFunc]) 3 Tryz.underlying202 hi hz0 hz1 .i64 .i64 _ 930 rfl rfl rfl ?c1 ?c2 ?c3 ?_)
  case c1 => rw [hz2]; omega
  case c2 => unfold maxLen; omega
  case c3 => exact Nat.le_refl _
  intro w1 hown hgrow
  have hb1 : Below w.heap.size w w1 := (Below.refl _ _).grown hgrow (Nat.le_refl _) (fun k h => by cases h)
  have ho1 : OwnF w1 w.heap.size (.slice (some ⟨w.heap.size, 0, none⟩) 0 930) m 0 := ⟨[], hown, fun i hi => by omega⟩
  clear hown hgrow hi hz0 hz1 hz2
  go_wp2
  go_loopw [3, 4] (fun v i wr => ∃ a : Nat, 1 ≤ a ∧ a ≤ 31 ∧ i = .int .i64 a ∧ OwnF wr w.heap.size v m ((a - 1) * 31) ∧ Below w.heap.size w wr) (fun _ i _ => 31 - (intOf i).toNat)
  case atStart => exact ⟨1, by omega, by omega, rfl, ho1, hb1⟩
  case round =>
    clear ho1 hb1
    obtain ⟨a, ha, ha', rfl, ho, hb⟩ := hrel
    by_cases hlt : a < 31
    · have da : decide ((a : Int) < 31) = true := by simp; omega
      go_wp2
      go_loopw [3, 11] (fun v i wq => ∃ b : Nat, b ≤ 31 ∧ i = .int .i64 b ∧ OwnF wq w.heap.size v m ((a - 1) * 31 + b) ∧ Below w.heap.size w wq) (fun _ i _ => 31 - (intOf i).toNat)
      case atStart => exact ⟨0, by omega, rfl, ho, hb⟩
      case round =>
        clear ho hb
        obtain ⟨b, hb', rfl, ho, hb⟩ := hrel
        by_cases hlt2 : b < 31
        · have db : decide ((b : Int) < 31) = true := by simp; omega
          go_wp2_with fail
          refine (functionOf_heap (a : Int) (b : Int) m wr).mono ?_
          rintro e w2 ⟨A, B, M, rfl, hF, b2⟩
          have ho2 := ho.below b2
          have hb2 := hb.trans (b2.mono hb.size)
          have z2 := hb2.size
          have eA := fA_at a b hlt2 ha
          have eB := fB_at a b hlt2
          have KA : Hid ((a : Int) = (fA ((a - 1) * 31 + b) : Nat)) := by show (a : Int) = _; rw [eA]
          have KB : Hid ((b : Int) = (fB ((a - 1) * 31 + b) : Nat)) := by show (b : Int) = _; rw [eB]
          clear ho hb b2 eA eB
          go_wp2_with (at_builtin; refine push_fun rfl (.tmp 14) (.tmp 19) rfl w.heap.size _ m _ (a : Int) (b : Int) KA.out KB.out A B M rfl ho2 hF _ rfl rfl (by omega) z2 ?_)
          intro v' we oe ge
          have hbe := below_ownF hb2 ho2 z2 (Nat.le_refl _) ge
          clear ge ho2 hb2 hF
          go_wp2
          go_roundw
          case rel => exact ⟨b + 1, by omega, by go_num, oe, hbe⟩
          case measure => simp [intOf]; omega
        · obtain rfl : b = 31 := by omega
          go_wp2
          go_roundw
          case rel => exact ⟨a + 1, by omega, by omega, by go_num, by rw [show (a + 1 - 1) * 31 = (a - 1) * 31 + 31 by omega]; exact ho, hb⟩
          case measure => simp [intOf]; omega
    · obtain rfl : a = 31 := by omega
      obtain ⟨G, cap, rfl, c1, c2, hFam⟩ := OwnF.fam ho
      go_wp2
      go_ret
      exact ⟨_, _, rfl, c1, c2, hFam, hb⟩
end Go.Proofs.YtoaiaindcmihjaaGreatDoor
/-
  impl.PairCount.
-/
namespace Go.Proofs.YtoaiaindcmihjaaGreatDoor
open Go.RowKit

theorem VX_eq2 (m x y : Int) : VX m x y = (SZ m && KR x && KR y && !decide (x = y)) := by
  rw [Bool.eq_iff_iff]; simp only [VX_iff, Bool.and_eq_true, KR_iff, SZ_iff, Bool.not_eq_true', decide_eq_false_iff_not]; omega
theorem quiet_lF {P : Program} {f : FuncId} {args : Array Value} {w : World} {n : Nat} {v : Value}
    (h : Calls P f args (w.drewN n) fun e w' => e = .returned v ∧ w.drewN n = w') : Calls P f args (w.drewN n) fun e w'' => e = .returned v ∧ ∃ m, w'' = w.drewN m :=
  h.mono fun _ _ ⟨he, hm⟩ => ⟨he, n, hm.symm⟩
theorem FunAt.q {w : World} {A B M : Nat} {a b m : Int} (h : FunAt w A B M a b m) (n : Nat) : FunAt (w.drewN n) A B M a b m := ⟨h.ca, h.cb, h.cm⟩

end Go.Proofs.YtoaiaindcmihjaaGreatDoor
/-
  impl.bestOf with the costs of impl.ApartBy and impl.BestLevels; ApartBy, LeastApart, BestLevels.
-/
namespace Go.Proofs.YtoaiaindcmihjaaGreatDoor
open Go.RowKit

set_option maxHeartbeats 1000000 in
theorem apCost_any (A B M : Nat) (a b m : Int) (al : Option Addr) (l : List Int) (cap kb : Nat) (w : World) (hF : FunAt w A B M a b m) (hk : w.cell? ⟨kb, 0, none⟩ = some (.slice al l.length cap)) (hr : Reads w al l) (ha : 1 ≤ a) (ha' : a ≤ 30) (hb : 0 ≤ b) (hb' : b ≤ 30) (hm : 1 ≤ m) (hm' : m ≤ 31) (hv : VK l = true) :
    Calls Tryz.prog 184 #[.agg #[.int .i64 a, .int .i64 b, FnV A B M], .pointer (some ⟨kb, 0, none⟩)] w fun e w' => e = .returned (.int .i64 (mt a b m l : Nat)) ∧ Below w.heap.size w w' := by
  have b1 : Below w.heap.size w (w.alloc (.cells #[.int .i64 a, .int .i64 b, FnV A B M] 200)) := (Below.refl _ _).alloc (Nat.le_refl _) _
  have hc := funMeetings_any A B M a b m al l cap _ (hF.below b1) (hr.below b1) ha ha' hb hb' hm hm' hv
  have HC := Lib.hid hc
  have hk2 := (b1.cell (p := ⟨kb, 0, none⟩) (World.block_lt_of_cell? w _ hk)).trans hk
  clear hc
  go_enter Tryz.func184, Tryz.ntmps184
  go_wp2_with fail
  refine HC.out.mono ?_
  rintro e w2 ⟨rfl, b2⟩
  go_wp2
  go_ret
  exact ⟨rfl, b1.trans (b2.mono b1.size)⟩

theorem FBox.put {w : World} {g : Nat} {a b a' b' : Int} {v v' : Value} (h : FBox w g a b v) : FBox (((w.setCell ⟨g, 0, none⟩ (.int .i64 a')).setCell ⟨g, 1, none⟩ (.int .i64 b')).setCell ⟨g, 2, none⟩ v') g a' b' v' := by
  unfold FBox at h ⊢
  have h1 := heap_setCell_same w g 0 _ _ (.int .i64 a') h
  have h2 := heap_setCell_same _ g 1 _ _ (.int .i64 b') h1
  rw [heap_setCell_same _ g 2 _ _ v' h2]
  rfl
theorem inf_fun : (Tryz.prog.info? 200).map (·.size) = some 3 := by kernel_rfl
/-- Two results: a function's struct in a variable, and a value. -/
theorem ret_fun2 {fn : Func} {R : Ending → World → Prop} {ac : Act} {w : World} {p q : Tmp} (hf : fn.results = #[.cell p 200, .tmp q]) (hd : ac.defers = [])
    (g : Nat) (hp : ac.tmps.getD p undef = .pointer (some ⟨g, 0, none⟩)) (a b : Int) (v : Value) (hg : FBox w g a b v) (u : Value) (hq : ac.tmps.getD q undef = u) (hR : R (.returned (.tuple #[.agg #[.int .i64 a, .int .i64 b, v], u])) w) : bodyPost Tryz.prog fn R .ret ac w := by
  refine bodyPost_ret (v := .tuple #[.agg #[.int .i64 a, .int .i64 b, v], u]) ?_ hd hR
  have hp' : ac.tmps[p]?.getD undef = .pointer (some ⟨g, 0, none⟩) := by simpa using hp
  have hq' : ac.tmps[q]?.getD undef = u := by simpa using hq
  have hl' := run_loadVar_row (P := Tryz.prog) w g 200 200 #[.int .i64 a, .int .i64 b, v] (0, 0) _ hg Tryz.underlying200 rfl inf_fun
  simp [results, hf, hp', hq', asAddr, hl']
theorem FBox.fz {w : World} {g : Nat} {a b : Int} {v : Value} (h : FBox w g a b v) (k : Nat) : w.frozen? ⟨g, k, none⟩ = false := frozen_of_row w g k _ _ h
theorem below_put3 {B : Nat} {w w' : World} (h : Below B w w') {g : Nat} (hg : B ≤ g) (x y z : Value) : Below B w (((w'.setCell ⟨g, 0, none⟩ x).setCell ⟨g, 1, none⟩ y).setCell ⟨g, 2, none⟩ z) :=
  ((h.setCell (p := ⟨g, 0, none⟩) hg x).setCell (p := ⟨g, 1, none⟩) hg y).setCell (p := ⟨g, 2, none⟩) hg z

set_option maxHeartbeats 8000000 in
set_option maxRecDepth 100000 in
theorem bestOfA_any (m : Int) (al : Option Addr) (l : List Int) (capl kb : Nat) (G cap A0 B0 M0 : Nat) (w : World) (f : Nat → Nat) (hf : f = mtt m l) (hfb : ∀ t, f t ≤ 1000) (hFam : Fam w G m) (hcap : 929 ≤ cap) (hF0 : FunAt w A0 B0 M0 (fA 0 : Nat) (fB 0 : Nat) m)
    (hk : w.cell? ⟨kb, 0, none⟩ = some (.slice al l.length capl)) (hr : Reads w al l) (hm : 1 ≤ m) (hm' : m ≤ 31) (hv : VK l = true) :
    Calls Tryz.prog 187 #[.func (.func 184) #[] #[.pointer (some ⟨kb, 0, none⟩)], .agg #[.int .i64 (fA 0 : Nat), .int .i64 (fB 0 : Nat), FnV A0 B0 M0], .slice (some ⟨G, 3, none⟩) 929 cap] w fun e w' => ∃ A B M, e = .returned (.tuple #[.agg #[.int .i64 (fA (am f 929) : Nat), .int .i64 (fB (am f 929) : Nat), FnV A B M], .int .i64 (mn f 929 : Nat)]) ∧ Below w.heap.size w w' := by
  have hkb := World.block_lt_of_cell? w _ hk
  have hcost : ∀ wx, Below w.heap.size w wx → ∀ t, t < 930 → ∀ A B M, FunAt wx A B M (fA t : Nat) (fB t : Nat) m →
      Calls Tryz.prog 184 #[.agg #[.int .i64 (fA t : Nat), .int .i64 (fB t : Nat), FnV A B M], .pointer (some ⟨kb, 0, none⟩)] wx fun e w' => e = .returned (.int .i64 (f t : Nat)) ∧ Below wx.heap.size wx w' := by
    intro wx hb t ht A B M hF
    have h1 := fA_le ht
    have h2 := fB_le t
    have := apCost_any A B M (fA t : Nat) (fB t : Nat) m al l capl kb wx hF ((hb.cell (p := ⟨kb, 0, none⟩) hkb).trans hk) (hr.below hb) (by omega) (by omega) (by omega) (by omega) hm hm' hv
    rw [hf]
    exact this
  have HCOST := Lib.hid hcost
  clear hf
  have x0 := FBox.new w (fA 0 : Nat) (fB 0 : Nat) (FnV A0 B0 M0)
  obtain ⟨w1, e1⟩ : ∃ w1, w1 = w.alloc (.cells #[.int .i64 (fA 0 : Nat), .int .i64 (fB 0 : Nat), FnV A0 B0 M0] 200) := ⟨_, rfl⟩
  have z1 : w1.heap.size = w.heap.size + 1 := by rw [e1]; simp
  have b1 : Below w.heap.size w w1 := by rw [e1]; exact (Below.refl _ _).alloc (Nat.le_refl _) _
  rw [← e1] at x0
  have y0 := FBox.new w1 0 0 .nilFunc
  have x1 := x0.alloc (.cells #[.int .i64 0, .int .i64 0, .nilFunc] 200)
  have b2 := b1.alloc (by omega) (.cells #[.int .i64 0, .int .i64 0, .nilFunc] 200)
  rw [z1] at y0
  obtain ⟨w2, e2⟩ : ∃ w2, w2 = w1.alloc (.cells #[.int .i64 0, .int .i64 0, .nilFunc] 200) := ⟨_, rfl⟩
  have z2 : w2.heap.size = w.heap.size + 2 := by rw [e2]; simp; omega
  rw [← e2] at y0 x1 b2
  have E2 : Hid (w2 = (w.alloc (.cells #[.int .i64 (fA 0 : Nat), .int .i64 (fB 0 : Nat), FnV A0 B0 M0] 200)).alloc (.cells #[.int .i64 0, .int .i64 0, .nilFunc] 200)) := by show w2 = _; rw [e2, e1]
  have q0 := x1.c0
  have q1 := x1.c1
  have q2 := x1.c2
  have x4 := FBox.new w2 0 0 .nilFunc
  have b4 := b2.alloc (by omega) (.cells #[.int .i64 0, .int .i64 0, .nilFunc] 200)
  rw [z2] at x4
  have x5 := FBox.new w2 (fA 0 : Nat) (fB 0 : Nat) (FnV A0 B0 M0)
  rw [z2] at x5
  have en0 := World.new_ne w2 _ q0
  have en1 := World.new_ne w2 _ q1
  have en2 := World.new_ne w2 _ q2
  have bd0 : Below w2.heap.size w2 w2.drew := (Below.refl _ _).drew
  have bd1 : Below w2.heap.size w2 (w2.alloc (.cells #[.int .i64 0, .int .i64 0, .nilFunc] 200)).drew := ((Below.refl _ _).alloc (Nat.le_refl _) _).drew
  have bd1v : Below w2.heap.size w2 (w2.alloc (.cells #[.int .i64 (fA 0 : Nat), .int .i64 (fB 0 : Nat), FnV A0 B0 M0] 200)).drew := ((Below.refl _ _).alloc (Nat.le_refl _) _).drew
  have hc2 : ∀ wx, Below w2.heap.size w2 wx → Calls Tryz.prog 184 #[.agg #[.int .i64 (fA 0 : Nat), .int .i64 (fB 0 : Nat), FnV A0 B0 M0], .pointer (some ⟨kb, 0, none⟩)] wx fun e w' => e = .returned (.int .i64 (f 0 : Nat)) ∧ Below wx.heap.size wx w' ∧
      w'.cell? ⟨w.heap.size, 0, none⟩ = some (.int .i64 (fA 0 : Nat)) ∧ w'.cell? ⟨w.heap.size, 1, none⟩ = some (.int .i64 (fB 0 : Nat)) ∧ w'.cell? ⟨w.heap.size, 2, none⟩ = some (FnV A0 B0 M0) := by
    intro wx hb
    have hbw : Below w.heap.size w wx := b2.trans (hb.mono b2.size)
    refine (hcost wx hbw 0 (by omega) A0 B0 M0 (hF0.below hbw)).mono ?_
    rintro e w' ⟨rfl, b3⟩
    have x3 : FBox w' w.heap.size _ _ _ := FBox.belowAll b3 (FBox.belowAll hb x1)
    exact ⟨rfl, b3, x3.c0, x3.c1, x3.c2⟩
  have HC2 := Lib.hid hc2
  clear e1 e2 x0 hcost b1 z1 hc2
  go_enter Tryz.func187, Tryz.ntmps187
  go_upto_region 13 with fail
  rw [← E2.out]
  go_cut [8, 9] (fun s8 s9 wx => ∃ gb : Nat, s8 = .pointer (some ⟨gb, 0, none⟩) ∧ s9 = .int .i64 (f 0 : Nat) ∧ w.heap.size + 2 ≤ gb ∧ FBox wx gb (fA 0 : Nat) (fB 0 : Nat) (FnV A0 B0 M0) ∧ FBox wx (w.heap.size + 1) 0 0 .nilFunc ∧ Below w.heap.size w wx)
  case first =>
    go_region_held3 (fun w' => w'.cell? ⟨w.heap.size, 0, none⟩ = some (.int .i64 (fA 0 : Nat)) ∧ w'.cell? ⟨w.heap.size, 1, none⟩ = some (.int .i64 (fB 0 : Nat)) ∧ w'.cell? ⟨w.heap.size, 2, none⟩ = some (FnV A0 B0 M0)) (first | exact ⟨s0, s1, s2⟩ | go_keep)
      (first | (go_at_call 184; refine (HC2.out _ ?_).mono ?_; (first | exact bd0 | exact bd0.alloc (Nat.le_refl _) _ | exact bd1 | exact bd1v ); rintro e w3 ⟨rfl, b3, s0, s1, s2⟩; try (have y3 : FBox w3 (w.heap.size + 2) _ _ _ := FBox.belowAll b3 x4; have r0 := y3.c0; have r1 := y3.c1; have r2 := y3.c2; have r3 := y3.fz 0; have r4 := y3.fz 1; have r5 := y3.fz 2); try (have y4 : FBox w3 (w.heap.size + 2) _ _ _ := FBox.belowAll b3 x5)))
    all_goals
      have hb2 : Below w.heap.size w w2.drew := b2.drew
      have y0' : FBox w2.drew (w.heap.size + 1) 0 0 .nilFunc := y0
    · have hb3 : Below w2.heap.size w2 w3 := bd0.trans (b3.mono bd0.size)
      have hz3 := hb3.size
      go_wp2_with fail
      go_meet
      exact ⟨_, rfl, rfl, by omega, FBox.new w3 _ _ _, (FBox.belowAll hb3 y0).alloc _, (b2.trans (hb3.mono b2.size)).alloc (by omega) _⟩
    · have hb3 : Below w2.heap.size w2 w3 := bd1.trans (b3.mono bd1.size)
      go_wp2_with fail
      go_meet
      exact ⟨_, rfl, rfl, Nat.le_refl _, y3.put, ((((FBox.belowAll hb3 y0).other (by omega) _ _).other (by omega) _ _).other (by omega) _ _), below_put3 (b2.trans (hb3.mono b2.size)) (by omega) _ _ _⟩
  case rest =>
    have hFam2 : Fam w G m := hFam
    clear q0 q1 q2 x1 y0 x4 x5 b4 b2 E2 en0 en1 en2 bd0 bd1 bd1v HC2 z2
    obtain ⟨gb, rfl, rfl, hgb, hX, hR, hB⟩ := hcut
    go_wp2_with fail
    go_loopw [9, 19] (fun s9 s19 wr => ∃ (t A B M : Nat), t ≤ 929 ∧ s19 = .int .i64 t ∧ s9 = .int .i64 (mn f t : Nat) ∧ FBox wr gb (fA (am f t) : Nat) (fB (am f t) : Nat) (FnV A B M) ∧ FBox wr (w.heap.size + 1) 0 0 .nilFunc ∧ Below w.heap.size w wr) (fun _ i _ => 929 - (intOf i).toNat)
    case atStart => exact ⟨0, A0, B0, M0, by omega, rfl, rfl, hX, hR, hB⟩
    case round =>
      clear hX hR hB
      obtain ⟨t, A, B, M, ht, rfl, rfl, hX, hR, hB⟩ := hrel
      have hc0 := hX.c0
      have hc1 := hX.c1
      have hc2 := hX.c2
      by_cases hlt : t < 929
      · obtain ⟨A', B', M', e1, e2, e3, hF⟩ := (hFam2.below hB).el (t + 1) (by omega)
        have p0 : wr.cell? ⟨G, 3 + t * 3, none⟩ = some (.int .i64 (fA (t + 1) : Nat)) := by rw [show 3 + t * 3 = (t + 1) * 3 by omega]; exact e1
        have p1 : wr.cell? ⟨G, 3 + t * 3 + 1, none⟩ = some (.int .i64 (fB (t + 1) : Nat)) := by rw [show 3 + t * 3 + 1 = (t + 1) * 3 + 1 by omega]; exact e2
        have p2 : wr.cell? ⟨G, 3 + t * 3 + 2, none⟩ = some (FnV A' B' M') := by rw [show 3 + t * 3 + 2 = (t + 1) * 3 + 2 by omega]; exact e3
        have hmn : mn f (t + 1) = if f (t + 1) < mn f t then f (t + 1) else mn f t := rfl
        have ham : am f (t + 1) = if f (t + 1) < mn f t then t + 1 else am f t := by rw [am, am_mn f t]
        have x5 := FBox.new wr (fA (t + 1) : Nat) (fB (t + 1) : Nat) (FnV A' B' M')
        have bA : Below wr.heap.size wr (wr.alloc (.cells #[.int .i64 (fA (t + 1) : Nat), .int .i64 (fB (t + 1) : Nat), FnV A' B' M'] 200)) := (Below.refl _ _).alloc (Nat.le_refl _) _
        have hbA := hB.trans (bA.mono hB.size)
        have hcall := HCOST.out _ hbA (t + 1) (by omega) A' B' M' (hF.below bA)
        have hX2 := hX.alloc (.cells #[.int .i64 (fA (t + 1) : Nat), .int .i64 (fB (t + 1) : Nat), FnV A' B' M'] 200)
        have hR2 := hR.alloc (.cells #[.int .i64 (fA (t + 1) : Nat), .int .i64 (fB (t + 1) : Nat), FnV A' B' M'] 200)
        obtain ⟨w4, e4⟩ : ∃ w4, w4 = wr.alloc (.cells #[.int .i64 (fA (t + 1) : Nat), .int .i64 (fB (t + 1) : Nat), FnV A' B' M'] 200) := ⟨_, rfl⟩
        rw [← e4] at x5 hbA hcall hX2 hR2
        have E4 := Lib.hid e4
        have hfb1 := hfb (t + 1)
        obtain ⟨a', ha'⟩ : ∃ a', a' = fA (t + 1) := ⟨_, rfl⟩
        obtain ⟨b', hb'⟩ : ∃ b', b' = fB (t + 1) := ⟨_, rfl⟩
        obtain ⟨X, hX0⟩ : ∃ X, X = f (t + 1) := ⟨_, rfl⟩
        obtain ⟨Y, hY0⟩ : ∃ Y, Y = mn f t := ⟨_, rfl⟩
        rw [← ha', ← hb', ← hX0] at hcall
        rw [← ha'] at p0 x5 E4
        rw [← hb'] at p1 x5 E4
        rw [← hX0, ← hY0] at hmn ham
        rw [← hY0]
        have HC := Lib.hid hcall
        have HM := Lib.hid hmn
        have HA := Lib.hid ham
        have HA' := Lib.hid ha'
        have HB' := Lib.hid hb'
        have k0 := x5.c0
        have k1 := x5.c1
        have k2 := x5.c2
        have hw4 : w4.heap.size = wr.heap.size + 1 := by rw [e4]; simp
        clear e1 e2 e3 e4 hF hcall hmn ham hX0 hY0 ha' hb' hX hR hc0 hc1 hc2 bA hfb1
        go_wp2_with fail
        rw [← E4.out]
        refine HC.out.mono ?_
        rintro e w5 ⟨rfl, b5⟩
        have x6 := FBox.belowAll b5 x5
        have hX3 := FBox.belowAll b5 hX2
        have hR3 := FBox.belowAll b5 hR2
        have hB3 := hbA.trans (b5.mono hbA.size)
        have j0 := x6.c0
        have j1 := x6.c1
        have j2 := x6.c2
        have i0 := hX3.c0
        have i1 := hX3.c1
        have i2 := hX3.c2
        have f0 := hX3.fz 0
        have f1 := hX3.fz 1
        have f2 := hX3.fz 2
        clear k0 k1 k2 p0 p1 p2 hX2 hR2 hbA x5 HC b5 hB
        by_cases hXY : X < Y
        · have hd : decide ((X : Int) < (Y : Int)) = true := by simp; omega
          have hm1 : mn f (t + 1) = X := by rw [HM.out, if_pos hXY]
          have ha1 : am f (t + 1) = t + 1 := by rw [HA.out, if_pos hXY]
          have HM1 := Lib.hid hm1
          have HA1 := Lib.hid ha1
          have hX4 : FBox _ gb a' b' (FnV A' B' M') := hX3.put (a' := (a' : Int)) (b' := (b' : Int)) (v' := FnV A' B' M')
          have hR4 : FBox _ (w.heap.size + 1) 0 0 .nilFunc := ((hR3.other (g' := gb) (by omega) 0 (.int .i64 a')).other (g' := gb) (by omega) 1 (.int .i64 b')).other (g' := gb) (by omega) 2 (FnV A' B' M')
          have hB4 := below_put3 hB3 (g := gb) (by omega) (.int .i64 a') (.int .i64 b') (FnV A' B' M')
          clear hm1 ha1 hX3 hR3 hB3 hd
          go_wp2
          go_roundw
          case rel => exact ⟨t + 1, A', B', M', by omega, by go_num, by rw [HM1.out], by rw [HA1.out, ← HA'.out, ← HB'.out]; exact hX4, hR4, hB4⟩
          case measure => simp [intOf]; omega
        · have hd : decide ((X : Int) < (Y : Int)) = false := by simp; omega
          have hm1 : mn f (t + 1) = Y := by rw [HM.out, if_neg hXY]
          have ha1 : am f (t + 1) = am f t := by rw [HA.out, if_neg hXY]
          have HM1 := Lib.hid hm1
          have HA1 := Lib.hid ha1
          clear hm1 ha1 hd
          go_wp2
          go_roundw
          case rel => exact ⟨t + 1, A, B, M, by omega, by go_num, by rw [HM1.out], by rw [HA1.out]; exact hX3, hR3, hB3⟩
          case measure => simp [intOf]; omega
      · obtain rfl : t = 929 := by omega
        have h0 := hR.c0
        have h1 := hR.c1
        have h2 := hR.c2
        have f0 := hR.fz 0
        have f1 := hR.fz 1
        have f2 := hR.fz 2
        have hR4 : FBox _ (w.heap.size + 1) (fA (am f 929) : Nat) (fB (am f 929) : Nat) (FnV A B M) := hR.put
        have hB4 := below_put3 hB (g := w.heap.size + 1) (by omega) (.int .i64 (fA (am f 929) : Nat)) (.int .i64 (fB (am f 929) : Nat)) (FnV A B M)
        clear hX hR hB
        go_wp2
        exact ret_fun2 rfl rfl _ rfl _ _ _ hR4 _ rfl ⟨A, B, M, rfl, hB4⟩

end Go.Proofs.YtoaiaindcmihjaaGreatDoor
