/-
  laws.FnLinearTable: the walk.
-/
import Derived.Test.YtninnjkjodhpaaaM9
import Derived.Test.YtninnjkjodhpaaaI1
import Derived.Test.YtninnjkjodhpaaaI3
import Derived.Test.YtninnjkjodhpaaaI4
import Derived.Test.YtninnjkjodhpaaaD4
import Derived.Test.YtninnjkjodhpaaaLT
namespace Go.Proofs.Ytninnjkjodhpaaa
open Go.RowKit

theorem lks_bound {m : Nat} {l t : List Int} (hm : 0 < m) : ∀ i, ∀ x ∈ lks m l t i, 0 ≤ x ∧ x ≤ m := by
  intro i
  induction i with
  | zero => intro x hx; rw [lks] at hx; have := List.eq_of_mem_replicate hx; omega
  | succ i ih =>
    intro x hx
    rw [lks] at hx
    split at hx
    · exact ih x hx
    · rcases List.mem_or_eq_of_mem_set hx with h | h
      · exact ih x h
      · have := offI_range (m := m) (h := l.getD (t.getD i 0).toNat 0) (p := i) (by omega)
        omega
theorem LK_bound {m : Int} {l t : List Int} : (∀ x ∈ LK m l t, -1000 ≤ x ∧ x ≤ 1000) := by
  intro x hx
  unfold LK at hx
  split at hx
  · rename_i h
    have := VH_iff.1 (VT_iff.1 h).1
    have := lks_bound (m := m.toNat) (by omega) _ x hx
    omega
  · simp at hx
theorem LK_len10 {m : Int} {l t : List Int} : (LK m l t).length ≤ 10 := by
  unfold LK
  split
  · rename_i h
    have := VH_iff.1 (VT_iff.1 h).1
    rw [lks_len]; omega
  · simp

/-- What the law of LinearTable asks. -/
theorem LT_law {m : Int} {l : List Int} (hv : VH m l = true) : VH m l.reverse = true ∧ (LT m l.reverse).2 = (LT m l).2 ∧ (LT m l.reverse).1.length = (LT m l).1.length ∧ tkn (LT m l).1 (LT m l.reverse).1 = true ∧
    FD m l (LT m l).1 = true ∧ held (LT m l).1 = l.length ∧ summ (LK m l (LT m l).1) = (LT m l).2 ∧ 0 ≤ (LT m l).2 ∧ (LT m l).2 ≤ 1000 := by
  have hh := VH_iff.1 hv
  obtain ⟨M, rfl⟩ := Int.eq_ofNat_of_zero_le (show 0 ≤ m by omega)
  have hM := Homes.of_VH hh
  rw [Int.toNat_natCast] at hM
  have hr : VH M l.reverse = true := VH_iff.2 ⟨hh.1, hh.2.1, by simp; omega, fun x hx => hh.2.2.2 x (by simpa using hx)⟩
  obtain ⟨t1, t2⟩ := lin_turned hM
  obtain ⟨f1, f2, f3⟩ := LT_facts hM hv
  have e1 : LT M l = ((lin M l l.length).1, ((lin M l l.length).2 : Int)) := by unfold LT; rw [if_pos hv, Int.toNat_natCast]
  have e2 : LT M l.reverse = ((lin M l.reverse l.length).1, ((lin M l.reverse l.length).2 : Int)) := by unfold LT; rw [if_pos hr, Int.toNat_natCast, List.length_reverse]
  have hb := lin_bound hM l.length (Nat.le_refl _)
  have h10 := hM.len
  rw [e1, e2]
  refine ⟨hr, by rw [t2], by simp only [lin_len], ?_, f2, lin_held hM _ (Nat.le_refl _), f3, by simp, by simp only; omega⟩
  unfold tkn
  refine decide_eq_true fun i _ => ?_
  rw [← norm_neg, ← norm_neg (lin M l.reverse l.length).1, t1]

theorem LT_no {m : Int} {l : List Int} (hv : ¬ VH m l = true) : LT m l = ([], -1) := by unfold LT; rw [if_neg hv]

set_option maxHeartbeats 8000000 in
set_option maxRecDepth 100000 in
theorem lawFnLinearTable (a : Option Addr) (n cap : Nat) (w : World) (hB : Bytes w w.heap.size a n) (hn : n ≤ 9223372036854775807) (hc : n ≤ cap) :
    Calls Try.prog 4 #[.slice a n cap] w fun e w' => e = .returned (.bool true) ∧ Below w.heap.size w w' := by
  by_cases hbig : 1048576 < n
  · go_enter Try.func4, Try.ntmps4
    go_wp2
    go_ret
    exact ⟨rfl, Below.refl _ _⟩
  go_enter Try.func4, Try.ntmps4
  go_wp2_with fail
  refine (drawLinearTable_any a n cap w hB hn hc).mono ?_
  rintro e w1 ⟨m, v, l, rfl, hm, ho, hl, hs, _, b1⟩
  obtain ⟨av, cv, rfl, r1, _, _, _⟩ := ho.form
  have hm64 : In64 m := by unfold In64; omega
  have L64 := hs.in64
  have z1 := b1.size
  have hmild := LT_mild (m := m) hl
  clear hB hn hc hs ho
  obtain ⟨T, hT⟩ : ∃ T, T = (LT m l).1 := ⟨_, rfl⟩
  obtain ⟨N, hN⟩ : ∃ N, N = (LT m l).2 := ⟨_, rfl⟩
  rw [← hT] at hmild
  have hTl : T.length ≤ 10 := hmild.2
  have T64 := hmild.1.in64
  have eN : (N != N) = false := by simp
  have eN2 : (N == N) = true := by simp
  have eT := eqL_self T
  have HTN := Lib.hid (And.intro hT hN)
  clear hT hN hmild
  have hc := implLinearTable_any m av l cv w1 hm64 r1 L64 (by omega)
  rw [← HTN.out.1, ← HTN.out.2] at hc
  go_wp2_with fail
  refine hc.mono ?_
  clear hc
  rintro e w2 ⟨vt, rfl, ot, b2⟩
  obtain ⟨at_, ct, rfl, t2, _, _, _⟩ := ot.form
  have r2 := r1.below b2
  have B2 := b1.trans (b2.mono z1)
  have z2 := B2.size
  clear r1 b1 b2 ot
  have hc := specLinearTable_any m av l cv w2 hm64 r2 L64 (by omega)
  rw [← HTN.out.1, ← HTN.out.2] at hc
  go_wp2_with fail
  refine hc.mono ?_
  clear hc
  rintro e w3 ⟨vs, rfl, os, b3⟩
  obtain ⟨as3, cs, rfl, s3, _, _, _⟩ := os.form
  have r3 := r2.below b3
  have t3 := t2.below b3
  have B3 := B2.trans (b3.mono z2)
  have z3 := B3.size
  clear r2 t2 B2 b3 os
  have hq := equalInts_any _ _ T T ct cs _ t3 s3 (by omega) (by omega)
  rw [eT] at hq
  go_wp2_with fail
  refine hq.mono ?_
  rintro e w4 ⟨rfl, q4, rfl⟩
  have Bq := below_drewN (Below.refl w3.heap.size w3) q4
  have r4 := r3.below Bq
  have t4 := t3.below Bq
  have s4 := s3.below Bq
  have B4 := B3.trans (Bq.mono z3)
  clear r3 t3 s3 B3 Bq hq
  generalize w3.drewN q4 = w4 at r4 t4 s4 B4 ⊢
  have z4 := B4.size
  by_cases hv : VH m l = true
  · obtain ⟨f1, f2, f3, f4, f5, f6, f7, f8, f9⟩ := LT_law hv
    rw [← HTN.out.1] at f3 f4 f5 f6 f7
    rw [← HTN.out.2] at f2 f7 f8 f9
    have F3 := Lib.hid f3
    have F4 := Lib.hid f4
    have F5 := Lib.hid f5
    have F6 := Lib.hid f6
    have F7 := Lib.hid f7
    have F2 := Lib.hid f2
    clear f1 f2 f3 f4 f5 f6 f7 hv
    go_wp2_with fail
    refine (turned_any _ l _ _ r4 (by omega)).mono ?_
    rintro e w5 ⟨vr, rfl, or5, b5⟩
    have r5 := r4.below b5
    have t5 := t4.below b5
    have B5 := B4.trans (b5.mono z4)
    have z5 := B5.size
    obtain ⟨ar, cr, rfl, rr5, _, _, _⟩ := or5.form
    clear r4 t4 s4 B4 b5 or5
    have hc := implLinearTable_any m ar l.reverse cr w5 hm64 rr5 (fun x hx => L64 x (by simpa using hx)) (by simp; omega)
    rw [F2.out, List.length_reverse] at hc
    go_wp2_with fail
    refine hc.mono ?_
    rintro e w6 ⟨vo, rfl, oo, b6⟩
    clear hc
    obtain ⟨T2, hT2⟩ : ∃ T2, T2 = (LT m l.reverse).1 := ⟨_, rfl⟩
    rw [← hT2] at oo
    have f3 := F3.out
    have f4 := F4.out
    rw [← hT2] at f3 f4
    clear hT2 F3 F4
    have r6 := r5.below b6
    have t6 := t5.below b6
    have B6 := B5.trans (b6.mono z5)
    have z6 := B6.size
    obtain ⟨ao, co, rfl, o6, _, _, _⟩ := oo.form
    clear r5 t5 rr5 B5 b6 oo
    have hc := taken_any at_ ao T T2 ct co w6 t6 o6 (by omega) f3
    rw [f4, f3] at hc
    have el : ((l.length : Int) == (l.length : Int)) = true := by simp
    go_wp2_with fail
    refine hc.mono ?_
    rintro e w7 ⟨rfl, q7, rfl⟩
    clear hc
    have b7 := below_drewN (Below.refl w6.heap.size w6) q7
    have r7 := r6.below b7
    have t7 := t6.below b7
    have B7 := B6.trans (b7.mono z6)
    have z7 := B7.size
    clear r6 t6 B6 b7 o6
    generalize w6.drewN q7 = w7 at r7 t7 B7 z7 ⊢
    have hc := implIsFound_any m av l cv at_ T ct w7 hm64 r7 L64 (by omega) t7 T64 (by omega)
    rw [F5.out] at hc
    go_wp2_with fail
    refine hc.mono ?_
    rintro e w8 ⟨rfl, b8⟩
    clear hc
    have r8 := r7.below b8
    have t8 := t7.below b8
    have B8 := B7.trans (b8.mono z7)
    have z8 := B8.size
    clear r7 t7 B7 b8
    have hc := keysIn_any at_ T ct w8 t8 (by omega)
    rw [F6.out] at hc
    go_wp2_with fail
    refine hc.mono ?_
    clear hc
    rintro e w9 ⟨rfl, rfl⟩
    have hc := implLooksOf_any m av l cv at_ T ct w8 hm64 r8 L64 (by omega) t8 T64 (by omega)
    have hb := LK_bound (m := m) (l := l) (t := T)
    have hb2 := LK_len10 (m := m) (l := l) (t := T)
    obtain ⟨K, hK⟩ : ∃ K, K = LK m l T := ⟨_, rfl⟩
    have f7 := F7.out
    rw [← hK] at hc hb hb2 f7
    clear hK F7
    go_wp2_with fail
    refine hc.mono ?_
    clear hc
    rintro e w9 ⟨vk, rfl, ok, b9⟩
    have B9 := B8.trans (b9.mono z8)
    obtain ⟨ak, ck, rfl, k9, _, _, _⟩ := ok.form
    have hc := total_any ak K ck w9 k9 (by omega) hb
    rw [f7] at hc
    clear hb f7 ok b9 r8 t8
    go_wp2_with fail
    refine hc.mono ?_
    clear hc
    rintro e w10 ⟨rfl, rfl⟩
    go_wp2
    go_ret
    exact ⟨rfl, B9⟩
  · have h0 := LT_no hv
    have hN : N = -1 := by rw [HTN.out.2, h0]
    have hq := equalInts_any _ _ T T ct cs _ t4 s4 (by omega) (by omega)
    rw [eT] at hq
    subst hN
    go_wp2_with fail
    refine hq.mono ?_
    rintro e w5 ⟨rfl, q5, rfl⟩
    go_wp2
    go_ret
    exact ⟨rfl, below_drewN B4 q5⟩

end Go.Proofs.Ytninnjkjodhpaaa
