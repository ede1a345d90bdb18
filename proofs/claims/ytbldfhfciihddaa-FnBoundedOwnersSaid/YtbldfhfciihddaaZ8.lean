/-
  slices.SortFunc of servers, as ring.from calls it.
-/
import Derived.Deep.OwnRows
import Derived.Test.YtbldfhfciihddaaZ2
namespace Go.Proofs.Ytbldfhfciihddaa
open Go.RowKit

/-- All blocks but g keep their cells. -/
def KeptB (g : Nat) (W W' : World) : Prop := ∀ b o v, b ≠ g → W.cell? ⟨b, o, none⟩ = some v → W'.cell? ⟨b, o, none⟩ = some v
theorem KeptB.refl (g : Nat) (W : World) : KeptB g W W := fun _ _ _ _ h => h
theorem KeptB.trans {g : Nat} {A B C : World} (h : KeptB g A B) (k : KeptB g B C) : KeptB g A C := fun b o v hb hv => k b o v hb (h b o v hb hv)
theorem KeptB.store (g s : Nat) (W : World) (v : Value) : KeptB g W (W.setCell ⟨g, s, none⟩ v) := fun b o x hb hx =>
  (World.cell?_setCell_other (w := W) (a := ⟨g, s, none⟩) (b := ⟨b, o, none⟩) (v := v) (by intro e; exact hb (by cases e; rfl))).trans hx
theorem KeptB.draw (g : Nat) (W : World) (n : Nat) : KeptB g W (W.drewN n) := fun _ _ _ _ h => h
theorem Reads.keptB {w w' : World} {g : Nat} {a : Option Addr} {l : List Int} (h : Reads w a l) (k : KeptB g w w') (hne : ∀ b off, a = some ⟨b, off, none⟩ → b ≠ g) : Reads w' a l := by
  rcases h with rfl | ⟨b, off, e, hb, hc⟩
  · exact .inl rfl
  · by_cases h0 : l.length = 0
    · exact .inl (List.eq_nil_of_length_eq_zero h0)
    · have c : CellsAt w' b off l := fun i hi => k b _ _ (hne b off e) (hc i hi)
      exact .inr ⟨b, off, e, World.block_lt_of_cell? w' ⟨b, off + 0, none⟩ (c 0 (by omega)), c⟩
theorem quiet_x {P : Program} {f : FuncId} {args : Array Value} {w : World} {n : Nat} {v : Value}
    (h : Calls P f args (w.drewN n) fun e w' => e = .returned v ∧ ∃ m, w' = (w.drewN n).drewN m) :
    Calls P f args (w.drewN n) fun e w'' => e = .returned v ∧ ∃ m, w'' = w.drewN m :=
  h.mono fun _ _ ⟨he, m, hm⟩ => ⟨he, n + m, by rw [hm, World.drewN_drewN]⟩
abbrev FromF (Bk Bp : Nat) : Value := .func (.func 91) #[] #[.pointer (some ⟨Bk, 0, none⟩), .pointer (some ⟨Bp, 0, none⟩)]

set_option maxHeartbeats 4000000 in
theorem isort_any (Bk Bp g base B n cap0 : Nat) (a : Option Addr) (l : List Int) (capl : Nat) (k : Int) (w : World) (hl : l.length = n) (hr : Reads w a l) (hag : ∀ b off, a = some ⟨b, off, none⟩ → b ≠ g)
    (hk : w.cell? ⟨Bk, 0, none⟩ = some (.int .i64 k)) (hp : w.cell? ⟨Bp, 0, none⟩ = some (.slice a l.length capl)) (hBk : Bk ≠ g) (hBp : Bp ≠ g)
    (hv : VR l = true) (k0 : 0 ≤ k) (k1 : k ≤ 63) (hT : Tab w base g n cap0 (nts (List.range n))) (hBg : B ≤ g) :
    Calls Try.prog 100 #[.slice (some ⟨g, 0, none⟩) n cap0, .int .i64 0, .int .i64 (n : Int), FromF Bk Bp] w fun e w' => e = .returned (.tuple #[]) ∧ ∃ R, SO (st l k) n R n ∧ Tab w' base g n cap0 (nts R) ∧ KeptB g w w' ∧ Below B w w' := by
  have hn := VR_iff.1 hv
  have hn1 := hn.1
  have hn6 := hn.2.1
  have HV := Lib.hid hv
  have HAG := Lib.hid hag
  have HL := Lib.hid hl
  obtain ⟨f, hf⟩ : ∃ f, f = st l k := ⟨_, rfl⟩
  have HF := Lib.hid hf
  rw [← hf]
  have CF := Lib.hid (fun (wx : World) h1 h2 h3 s1 s2 hs1 hs2 => from1_any Bk Bp a l capl k s1 s2 wx h1 h2 h3 hv k0 k1 hs1 hs2)
  clear hn hag hv hf
  rw [hl] at hn1 hn6
  clear hl
  go_enter Try.func100, Try.ntmps100
  go_wp2
  go_loopw [8] (fun iv wr => ∃ (i : Nat) (R : List Nat), i ≤ n ∧ iv = .int .i64 i ∧ Hid (1 ≤ i ∧ SO f n R i) ∧ Tab wr base g n cap0 (nts R) ∧ KeptB g w wr ∧ Below B w wr) (fun iv _ => n - (intOf iv).toNat)
  case atStart => exact ⟨1, List.range n, by omega, rfl, Lib.hid ⟨Nat.le_refl _, SO.zero f n⟩, hT, KeptB.refl _ _, Below.refl _ _⟩
  case round =>
    clear hT
    obtain ⟨i, R, hi, rfl, hS, hT, hK, hB⟩ := hrel
    by_cases hlt : i < n
    · have hi1 : (i : Int) < (n : Int) := by omega
      go_wp2
      go_loopw [9] (fun jv wq => ∃ (j : Nat) (Q : List Nat), jv = .int .i64 j ∧ Hid (IS f n Q i j) ∧ Tab wq base g n cap0 (nts Q) ∧ KeptB g w wq ∧ Below B w wq) (fun jv _ => (intOf jv).toNat)
      case atStart => exact ⟨i, R, rfl, Lib.hid hS.out.2.ins, hT, hK, hB⟩
      case round =>
        clear hT hK hB
        obtain ⟨j, Q, rfl, hI, hT, hK, hB⟩ := hrel
        have hjn : j < n := by have := hI.out.2.1; omega
        by_cases hjz : j = 0
        · subst hjz
          have hfin := hI.out.fin (.inl rfl)
          have HFIN := Lib.hid hfin
          clear hfin
          go_wp2_with fail
          go_quiet (fail)
          go_wp2
          go_roundw
          case rel => exact ⟨i + 1, Q, by omega, by go_num, Lib.hid ⟨by omega, HFIN.out⟩, hT.below (below_drewN (Below.refl _ _) _), hK.trans (KeptB.draw _ _ _), below_drewN hB _⟩
          case measure => simp [intOf]; omega
        · obtain ⟨jm, hjc⟩ : ∃ jm, j = jm + 1 := ⟨j - 1, by omega⟩
          have hql := hI.out.len
          have hs1 : Q.getD j 0 < n := hI.out.1.mem_iff.1 (by simp [List.getD, show j < Q.length from by omega]) |> List.mem_range.1
          have hs2 : Q.getD jm 0 < n := hI.out.1.mem_iff.1 (by simp [List.getD, show jm < Q.length from by omega]) |> List.mem_range.1
          obtain ⟨x1, hc1, hx1⟩ := hT.get (k := j) hjn
          obtain ⟨x2, hc2, hx2⟩ := hT.get (k := jm) (by omega)
          have q1 := hx1.out
          have q2 := hx2.out
          rw [nts_get (by omega)] at q1 q2
          subst q1 q2
          have hfz1 := hT.frozen j
          have hfz2 := hT.frozen jm
          obtain ⟨s1, hse1⟩ : ∃ s, s = Q.getD j 0 := ⟨_, rfl⟩
          obtain ⟨s2, hse2⟩ : ∃ s, s = Q.getD jm 0 := ⟨_, rfl⟩
          rw [← hse1] at hs1 hc1
          rw [← hse2] at hs2 hc2
          have HS1 := Lib.hid hse1
          have HS2 := Lib.hid hse2
          have hkq := hK _ _ _ hBk hk
          have hpq := hK _ _ _ hBp hp
          have cF := fun (m : Nat) => CF.out (wr.drewN m) ((hr.keptB hK HAG.out).below (below_drewN (Below.refl _ _) m)) hkq hpq s1 s2 (by rw [HL.out]; exact hs1) (by rw [HL.out]; exact hs2)
          rw [← HF.out] at cF
          have hc := cpi_lt (x := f s1) (y := f s2)
          obtain ⟨c, hce⟩ : ∃ c, c = cpi (f s1) (f s2) := ⟨_, rfl⟩
          rw [← hce] at cF hc
          have CC := Lib.hid cF
          have hjw : IntKind.i64.wrap ((j : Int) - 1) = (jm : Int) := by rw [IntWalk.i64_in _ (by omega)]; omega
          have hj0 : 0 < j := by omega
          have hj1 : (j : Int) < (n : Int) := by omega
          have hjm1 : (jm : Int) < (n : Int) := by omega
          have hne : ¬ j = jm := by omega
          have HJ := Lib.hid hjc
          clear hjz hce cF hse1 hse2 hx1 hx2 hkq hpq hjc hql
          by_cases hlt2 : c < 0
          · have hst := hI.out
            rw [HJ.out] at hst
            have hnew := hst.step hlt (by rw [← HJ.out, ← HS1.out, ← HS2.out]; exact hc.1 hlt2)
            have HN := Lib.hid hnew
            have hTT := fun m => ((hT.below (below_drewN (Below.refl _ wr) m)).store j (s2 : Int)).store jm (s1 : Int)
            have hset : ((nts Q).set j (s2 : Int)).set jm (s1 : Int) = nts (sw Q jm) := by
              rw [nts_set, nts_set]; unfold sw
              rw [← HJ.out, ← HS1.out, ← HS2.out]
            rw [hset] at hTT
            have HTT := Lib.hid hTT
            clear hst hnew hTT hset hc hT
            go_wp2_with fail
            go_quiet ((with_reducible first | (go_at_call 91; exact quiet_x (CC.out _))))
            all_goals
              go_wp2_with fail
              go_region
              all_goals
                go_wp2
                refine ⟨⟨jm, sw Q jm, rfl, HN, HTT.out _, hK.trans ((KeptB.draw _ _ _).trans ((KeptB.store _ _ _ _).trans (KeptB.store _ _ _ _))), ((below_drewN hB _).setCell (p := ⟨g, j, none⟩) hBg _).setCell (p := ⟨g, jm, none⟩) hBg _⟩, ?_⟩
                have := HJ.out
                simp [intOf]; omega
          · have hfin := hI.out.fin (.inr (by
              rw [show j - 1 = jm from by have := HJ.out; omega, ← HS1.out, ← HS2.out]
              exact fun h => hlt2 (hc.2 h)))
            have HFIN := Lib.hid hfin
            clear hfin hc
            go_wp2_with fail
            go_quiet ((with_reducible first | (go_at_call 91; exact quiet_x (CC.out _))))
            all_goals
              go_wp2
              go_roundw
              case rel => exact ⟨i + 1, Q, by omega, by go_num, Lib.hid ⟨by omega, HFIN.out⟩, hT.below (below_drewN (Below.refl _ _) _), hK.trans (KeptB.draw _ _ _), below_drewN hB _⟩
              case measure => simp [intOf]; omega
    · obtain rfl : i = n := by omega
      go_wp2
      go_end0
      exact ⟨rfl, R, hS.out.2, hT, hK, hB⟩

end Go.Proofs.Ytbldfhfciihddaa
