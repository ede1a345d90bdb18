/-
  spec.MovedBy.
-/
import Derived.Test.YtbldfhfciihddaaY2
namespace Go.Proofs.Ytbldfhfciihddaa
open Go.RowKit

theorem dup_big {wr : World} {ops : Array Oper} {rest : List Oper} {o : Oper} {a : Act} {Q : Exit → Act → World → Prop} (hgd : o.guard = none) (s x : Operand)
    (ho : o.op = .call { callee := .builtin .append, args := #[s, x], argTypes := #[23, 23] })
    (ax : Option Addr) (l : List Int) (n cap : Nat) (hn : l.length = n) (hs : a.eval s = .slice (some ⟨wr.heap.size, 0, none⟩) 0 0) (hx : a.eval x = .slice ax n cap) (hr : Reads wr ax l) (h0 : n ≠ 0) (hl : n < 2000000)
    (h : ∀ v' w', Own w' wr.heap.size v' l → Below wr.heap.size wr w' → wpList Try.prog ops Q rest (a.put o.dst v') w') :
    wpList Try.prog ops Q (o :: rest) a (wr.alloc (.cells #[] 3)) := by
  obtain ⟨i0, hi, hz0, hz1, hz2⟩ := info_parts infoInt
  subst hn
  rcases hr with rfl | ⟨b, off, rfl, hb, hc⟩
  · simp at h0
  have hown := Own.lit0 wr wr.heap.size (Nat.le_refl _)
  refine wpList_append_own _ hgd s x 23 ho wr.heap.size 3 i0 (.int .i64 0) 1 8 Try.underlying23 hi hz0 hz1 hz2 rfl (by decide) _ 0 _ hs hown ⟨b, off, none⟩ l.length cap (l.map (Value.int .i64)) hx (by simp) ?c1 (ints_oneCell _ _) ?c3 ?c4 ?c5 fun v' w' h1 h2 _ => h v' w' ?_ ?_
  case c1 =>
    intro j u hu
    have hj : j < l.length := by simpa using (List.getElem?_eq_some_iff.1 hu).1
    rw [getD_map hj] at hu
    obtain rfl := Option.some.inj hu
    rw [Addr.add_lit, World.cell?_alloc_past _ _ _ hb]
    exact hc j hj
  case c3 => unfold maxLen; simp; omega
  case c4 => simp; omega
  case c5 => simp
  · unfold Own
    simpa using h1
  · exact ((Below.refl _ _).alloc (Nat.le_refl _) _).grown h2 (by simp) (fun q hq => by simp [Value.ownBlock] at hq; omega)

theorem run_append_none (w : World) (ty : TypeId) (g n cap c : Nat) (ax : Option Addr) (h : n ≤ cap) :
    (Builtin.append_ #[23, 23] ty #[.slice (some ⟨g, 0, none⟩) n cap, .slice ax 0 c]).run Try.prog w = .ok (.slice (some ⟨g, 0, none⟩) n cap) w := by
  obtain ⟨i0, hi, hz0, hz1, hz2⟩ := info_parts infoInt
  cases ax <;> simp [Builtin.append_, run_underlying Try.underlying23, sizeOf, typeInfo, hi, Builtin.lenOf, h, Builtin.firstCells, loadCells, loadCellsFrom, storeCells]
/-- 'append(s, x...)' where x is empty. -/
theorem push_none {wr : World} {ops : Array Oper} {rest : List Oper} {o : Oper} {a : Act} {Q : Exit → Act → World → Prop} (hgd : o.guard = none) (s x : Operand)
    (ho : o.op = .call { callee := .builtin .append, args := #[s, x], argTypes := #[23, 23] })
    (g n cap : Nat) (ax : Option Addr) (c : Nat) (hs : a.eval s = .slice (some ⟨g, 0, none⟩) n cap) (hx : a.eval x = .slice ax 0 c) (hn : n ≤ cap)
    (h : wpList Try.prog ops Q rest (a.put o.dst (.slice (some ⟨g, 0, none⟩) n cap)) wr) :
    wpList Try.prog ops Q (o :: rest) a wr := by
  refine wpList_plain hgd fun _ hK => ?_
  unfold Oper.wp execOp
  simp only [ho, resolve, invoke, builtin, Sem.run_bind, Sem.run_pure, Result.andThen_ok, List.map_toArray, List.map_cons, List.map_nil, hs, hx, run_append_none _ _ _ _ _ _ _ hn]
  exact hK _ _ h
/-- What MovedBy does when the new places lie there. -/
def MvPost (w : World) (R : List Int) (e : Ending) (w' : World) : Prop := ∃ v, e = .returned v ∧ Own w' w.heap.size v R ∧ Below w.heap.size w w'

set_option maxHeartbeats 4000000 in
theorem specMovedBy_any (a : Option Addr) (l : List Int) (cap : Nat) (p : Int) (w : World) (hr : Reads w a l) (_hi : ∀ n ∈ l, In64 n) (hl : l.length ≤ 1048586) (hcap : l.length ≤ cap) (_hp : In64 p) :
    Calls Try.prog 33 #[.slice a l.length cap, .int .i64 p] w fun e w' => ∃ v, e = .returned v ∧ Own w' w.heap.size v (MV l p) ∧ Below w.heap.size w w' := by
  obtain ⟨R, hR⟩ : ∃ R, R = MV l p := ⟨_, rfl⟩
  rw [← hR]
  have HR := Lib.hid hR
  clear hR
  by_cases h0 : l.length = 0
  · have e : R = [] := by
      rw [HR.out]; unfold MV; rw [if_neg]
      intro h; have := (VR_iff.1 h.1).1; omega
    have cV := fun wx (h : Reads wx a l) => specvalidRing_any a l cap wx h (by omega) hcap
    rw [VR_false (fun h => by have := h.1; omega), h0] at cV
    rw [h0]
    subst e
    have CV := Lib.hid cV
    clear cV
    have hlit := Own.lit0 w w.heap.size (Nat.le_refl _)
    have b1 := (Below.refl w.heap.size w).alloc (Nat.le_refl _) (.cells #[] 3)
    go_enter Try.func33, Try.ntmps33
    go_wp2_with (at_builtin; first | (refine push_none rfl _ _ rfl w.heap.size 0 0 a cap rfl rfl (Nat.le_refl _) ?_) | (refine push_int rfl _ _ rfl w.heap.size (.slice (some ⟨w.heap.size, 0, none⟩) 0 0) [] p rfl hlit (by rw [World.size_alloc]; rfl) (by simp) (by simp) ?_))
    intro v2 w2 ho2 _ g2
    have b2 : Below w.heap.size w w2 := b1.grown g2 (by simp) (fun q hq => by simp [Value.ownBlock] at hq; omega)
    obtain ⟨a2, c2, rfl, _, _, _, _⟩ := ho2.form
    go_wp2_with fail
    refine (CV.out w2 (hr.below b2)).mono ?_
    rintro e w' ⟨rfl, n, rfl⟩
    go_wp2
    go_ret
    exact ⟨_, rfl, Own.nil _ _, below_drewN b2 n⟩
  · go_enter Try.func33, Try.ntmps33
    go_wp2_with (at_builtin; refine dup_big rfl _ _ rfl a l l.length cap rfl rfl rfl hr h0 (by omega) ?_)
    intro v1 w1 ho1 b1
    obtain ⟨a1, c1, rfl, hr1, hc1, _, _⟩ := ho1.form
    go_wp2_with (at_builtin; refine push_int rfl _ _ rfl w.heap.size (.slice a1 l.length c1) l p rfl ho1 rfl (by omega) b1.size ?_)
    intro v2 w2 ho2 _ g2
    have b2 : Below w.heap.size w w2 := Below.grownB b1 ho1 g2 b1.size (Nat.le_refl _)
    obtain ⟨a2, c2, e2, hr2, hc2, _, _⟩ := ho2.form
    have hlm : (l ++ [p]).length = l.length + 1 := by simp
    rw [hlm] at e2 hc2
    subst e2
    obtain ⟨Mo, hMo⟩ : ∃ Mo, Mo = l ++ [p] := ⟨_, rfl⟩
    rw [← hMo] at ho2 hr2 hlm
    have HMO := Lib.hid hMo
    have HLM := Lib.hid hlm
    have cV := specvalidRing_any a l cap w2 (hr.below b2) hl hcap
    clear hMo hlm ho1 g2 hr1 hc1 b1
    by_cases hv : VR l = true
    · have hl1 := (VR_iff.1 hv).1
      have hl6 := (VR_iff.1 hv).2.1
      have cM := fun n => specvalidRing_any a2 Mo c2 (w2.drewN n) (hr2.below (below_drewN (Below.refl _ _) n)) (by rw [HLM.out]; omega) (by rw [HLM.out]; exact hc2)
      rw [hv] at cV
      have CV := Lib.hid cV
      have HV := Lib.hid hv
      rw [HLM.out] at cM
      clear cV hv
      by_cases hm : VR Mo = true
      · rw [hm] at cM
        have CM := Lib.hid cM
        have HM := Lib.hid hm
        have e : R = mvr l p 64 := by rw [HR.out]; unfold MV; rw [if_pos ⟨HV.out, by rw [← HMO.out]; exact HM.out⟩]
        have E := Lib.hid e
        have C1 := Lib.hid (fun wx h k h1 h2 => specowner_any a l cap k wx h HV.out h1 h2)
        have c2' := fun wx h k h1 h2 => specowner_any a2 Mo c2 k wx h HM.out h1 h2
        rw [HLM.out] at c2'
        have C2 := Lib.hid c2'
        clear cM hm e c2'
        go_wp2_with fail
        refine CV.out.mono ?_
        rintro e w' ⟨rfl, n, rfl⟩
        go_wp2_with fail
        refine (CM.out n).mono ?_
        rintro e w' ⟨rfl, n2, rfl⟩
        obtain ⟨w3, hw3⟩ : ∃ w3, w3 = w2.drewN (n + n2) := ⟨_, rfl⟩
        have hw3' : (w2.drewN n).drewN n2 = w3 := by rw [hw3]; exact World.drewN_drewN _ _ _
        rw [hw3']
        have b3 : Below w.heap.size w w3 := by rw [hw3]; exact below_drewN b2 _
        have b23 : Below w2.heap.size w2 w3 := by rw [hw3]; exact below_drewN (Below.refl _ _) _
        have hr3 := hr.below b3
        have hm3 := hr2.below b23
        clear hw3 hw3' hr2 ho2 CV CM b23
        have hlit := Own.lit0 w3 w3.heap.size (Nat.le_refl _)
        have b4 := (Below.refl w3.heap.size w3).alloc (Nat.le_refl _) (.cells #[] 3)
        go_wp2_with fail
        go_loopw [6, 7] (fun ov kv wr => ∃ j : Nat, j ≤ 64 ∧ kv = .int .i64 j ∧ Own wr w3.heap.size ov (mvr l p j) ∧ Below w3.heap.size w3 wr) (fun _ kv _ => 64 - (intOf kv).toNat)
        case atStart => exact ⟨0, by omega, rfl, hlit, b4⟩
        case round =>
          clear hlit b4
          obtain ⟨j, hj, rfl, ho, hB⟩ := hrel
          obtain ⟨ao, co, eo, _, _, _, _⟩ := ho.form
          have hml := mvr_len l p j
          obtain ⟨L, hL⟩ : ∃ L, L = mvr l p j := ⟨_, rfl⟩
          rw [← hL] at ho eo hml
          obtain ⟨N, hN⟩ : ∃ N, N = L.length := ⟨_, rfl⟩
          have HN := Lib.hid hN
          rw [← hN] at eo
          subst eo
          by_cases hj6 : j < 64
          · have hj1 : (j : Int) < 64 := by omega
            have k1 := C1.out wr (hr3.below hB) (j : Int) (by omega) (by omega)
            have k2 := fun n => C2.out (wr.drewN n) (hm3.below (below_drewN hB n)) (j : Int) (by omega) (by omega)
            have hst : mvr l p (j + 1) = if own l j ≠ own (l ++ [p]) j then mvr l p j ++ [(j : Int)] else mvr l p j := rfl
            rw [← HMO.out, ← hL] at hst
            obtain ⟨s1, hs1⟩ : ∃ s, s = own l (j : Int) := ⟨_, rfl⟩
            obtain ⟨s2, hs2⟩ : ∃ s, s = own Mo (j : Int) := ⟨_, rfl⟩
            rw [← hs1] at k1 hst
            rw [← hs2] at hst
            have k2' : ∀ n, Calls Try.prog 65 #[.slice a2 (l.length + 1) c2, .int .i64 (j : Int)] (wr.drewN n) fun e w' => e = .returned (.int .i64 (s2 : Int)) ∧ ∃ m, w' = (wr.drewN n).drewN m := fun n => by have := k2 n; rwa [← hs2] at this
            have K1 := Lib.hid k1
            have K2 := Lib.hid k2'
            clear k1 k2 k2' hs1 hs2 hL hN
            by_cases hc : s1 = s2
            · rw [if_neg (by rw [hc]; exact fun h => h rfl)] at hst
              have HST := Lib.hid hst
              have hne : ((s1 : Int) != (s2 : Int)) = false := by simp [hc]
              clear hst hc
              go_wp2_with fail
              refine K1.out.mono ?_
              rintro e w' ⟨rfl, n1, rfl⟩
              go_wp2_with fail
              refine (K2.out n1).mono ?_
              rintro e w' ⟨rfl, n2, rfl⟩
              go_wp2
              go_roundw
              case rel => exact ⟨j + 1, by omega, by go_num, by rw [HST.out]; exact ho.below (below_drewN (Below.refl _ _) _), below_drewN hB _⟩
              case measure => simp [intOf]; omega
            · rw [if_pos hc] at hst
              have HST := Lib.hid hst
              have hne : ((s1 : Int) != (s2 : Int)) = true := by simp; omega
              clear hst hc
              go_wp2_with fail
              refine K1.out.mono ?_
              rintro e w' ⟨rfl, n1, rfl⟩
              go_wp2_with fail
              refine (K2.out n1).mono ?_
              rintro e w' ⟨rfl, n2, rfl⟩
              have ho1 := ho.below (below_drewN (Below.refl _ wr) (n1 + n2))
              go_wp2_with (at_builtin; refine push_int rfl _ _ rfl w3.heap.size (.slice ao N co) L (j : Int) rfl ho1 rfl (by omega) (by have := hB.size; exact this) ?_)
              intro v5 w5 ho5 _ g5
              have b5 := Below.grownB (below_drewN hB (n1 + n2)) ho1 g5 (by have := hB.size; exact this) (Nat.le_refl _)
              obtain ⟨a5, c5, e5, _, _, _, _⟩ := ho5.form
              subst e5
              go_wp2
              go_roundw
              case rel => exact ⟨j + 1, by omega, by go_num, by rw [HST.out]; exact ho5, b5⟩
              case measure => simp [intOf]; omega
          · obtain rfl : j = 64 := by omega
            have ho' : Own wr w3.heap.size (.slice ao N co) R := by rw [E.out, ← hL]; exact ho
            have B := b3.trans (hB.mono b3.size)
            go_wp2
            go_ret
            exact ⟨_, rfl, ho'.mono b3.size, B⟩
      · have e : R = [] := by rw [HR.out]; unfold MV; rw [if_neg (fun h => hm (by rw [HMO.out]; exact h.2))]
        subst e
        rw [show VR Mo = false from by simpa using hm] at cM
        have CM := Lib.hid cM
        clear cM hm
        go_wp2_with fail
        refine CV.out.mono ?_
        rintro e w' ⟨rfl, n, rfl⟩
        go_wp2_with fail
        refine (CM.out n).mono ?_
        rintro e w' ⟨rfl, n2, rfl⟩
        go_wp2
        go_ret
        exact ⟨_, rfl, Own.nil _ _, below_drewN b2 _⟩
    · have e : R = [] := by rw [HR.out]; unfold MV; rw [if_neg (fun h => hv h.1)]
      subst e
      rw [show VR l = false from by simpa using hv] at cV
      have CV := Lib.hid cV
      clear cV hv
      go_wp2_with fail
      refine CV.out.mono ?_
      rintro e w' ⟨rfl, n, rfl⟩
      go_wp2
      go_ret
      exact ⟨_, rfl, Own.nil _ _, below_drewN b2 _⟩
end Go.Proofs.Ytbldfhfciihddaa
