/-
  laws.FnFairTable: the walk.
-/
import Derived.Test.YtapkalpmnldhpabM10
import Derived.Test.YtapkalpmnldhpabLN
import Derived.Test.YtapkalpmnldhpabI2
namespace Go.Proofs.Ytapkalpmnldhpab
open Go.RowKit

/-- The greatest one so far, from 0 on. -/
def mxN (L : List Int) : Nat → Int
  | 0 => 0
  | i + 1 => if L.getD i 0 > mxN L i then L.getD i 0 else mxN L i
theorem mxN_nonneg (L : List Int) (n : Nat) : 0 ≤ mxN L n := by
  induction n with
  | zero => exact Int.le_refl _
  | succ n ih => rw [mxN]; split <;> omega
theorem mxN_ge {L : List Int} {n j : Nat} (h : j < n) : L.getD j 0 ≤ mxN L n := by
  induction n with
  | zero => omega
  | succ n ih =>
    rw [mxN]
    by_cases e : j = n
    · subst e; split <;> omega
    · have := ih (by omega); split <;> omega
theorem mxN_le {L : List Int} {B : Int} (h0 : 0 ≤ B) {n : Nat} (h : ∀ x, x < n → L.getD x 0 ≤ B) : mxN L n ≤ B := by
  induction n with
  | zero => exact h0
  | succ n ih =>
    have h1 := ih (fun x hx => h x (by omega))
    have h2 := h n (by omega)
    rw [mxN]; split <;> omega
theorem mx_le {F P : List Int} {n : Nat} (h : ∀ x, x < n → F.getD x 0 ≤ 0 ∨ ∃ j, j < n ∧ F.getD x 0 ≤ P.getD j 0) : mxN F n ≤ mxN P n := by
  have h0 := mxN_nonneg P n
  refine mxN_le h0 fun x hx => ?_
  rcases h x hx with h1 | ⟨j, hj, h1⟩
  · omega
  · have := mxN_ge (L := P) hj; omega

theorem FT_no {m : Int} {l : List Int} (hv : ¬ VH m l = true) : FT m l = [] := by unfold FT; rw [if_neg hv]

set_option maxHeartbeats 8000000 in
set_option maxRecDepth 100000 in
theorem lawFnFairTable (a : Option Addr) (n cap : Nat) (w : World) (hB : Bytes w w.heap.size a n) (hn : n ≤ 9223372036854775807) (hc : n ≤ cap) :
    Calls Try.prog 5 #[.slice a n cap] w fun e w' => e = .returned (.bool true) ∧ Below w.heap.size w w' := by
  by_cases hbig : 1048576 < n
  · go_enter Try.func5, Try.ntmps5
    go_wp2
    go_ret
    exact ⟨rfl, Below.refl _ _⟩
  go_enter Try.func5, Try.ntmps5
  go_wp2_with fail
  refine (drawFairTable_any a n cap w hB hn hc).mono ?_
  rintro e w1 ⟨m, v, l, rfl, hm, ho, hl, hs, _, b1⟩
  obtain ⟨av, cv, rfl, r1, _, _, _⟩ := ho.form
  have hm64 : In64 m := by unfold In64; omega
  have L64 := hs.in64
  have z1 := b1.size
  have hmild := FT_mild (m := m) hl
  have hmild2 := LT_mild (m := m) hl
  clear hB hn hc hs ho
  obtain ⟨T, hT⟩ : ∃ T, T = FT m l := ⟨_, rfl⟩
  rw [← hT] at hmild
  have hTl : T.length ≤ 10 := hmild.2
  have T64 := hmild.1.in64
  have eT := eqL_self T
  have HT := Lib.hid hT
  clear hT hmild
  have hc := implFairTable_any m av l cv w1 hm64 r1 L64 (by omega)
  rw [← HT.out] at hc
  go_wp2_with fail
  refine hc.mono ?_
  clear hc
  rintro e w2 ⟨vt, rfl, ot, b2⟩
  obtain ⟨at_, ct, rfl, t2, _, _, _⟩ := ot.form
  have r2 := r1.below b2
  have B2 := b1.trans (b2.mono z1)
  have z2 := B2.size
  clear r1 b1 b2 ot
  have hc := specFairTable_any m av l cv w2 hm64 r2 L64 (by omega)
  rw [← HT.out] at hc
  go_wp2_with fail
  refine hc.mono ?_
  clear hc
  rintro e w3 ⟨vs, rfl, os, b3⟩
  obtain ⟨as3, cs, rfl, s3, _, _, _⟩ := os.form
  have r3 := r2.below b3
  have t3 := t2.below b3
  have B3 := B2.trans (b3.mono z2)
  have z3 := B3.size
  clear r2 t2 B2 b3 os
  have hq := equalInts_any _ _ T T ct cs _ t3 s3 (by omega) (by omega)
  rw [eT] at hq
  by_cases hv : VH m l = true
  · obtain ⟨f1, f2, f3, f4, f5, f6, f7, f8⟩ := FT_law hv
    have hmx := mx_le f8
    have hh := VH_iff.1 hv
    rw [← HT.out] at f1 f3 f4 f5 f6 hmx
    have hT0 : ((T.length : Int) == 0) = false := by simp; intro e; rw [e] at f1; simp at f1; omega
    obtain ⟨L, hL⟩ : ∃ L, L = (LT m l).1 := ⟨_, rfl⟩
    obtain ⟨N, hN⟩ : ∃ N, N = (LT m l).2 := ⟨_, rfl⟩
    rw [← hL] at f2 f4 f7 hmx hmild2
    rw [← hN] at f5
    have hLl : L.length ≤ 10 := hmild2.2
    have Lt64 := hmild2.1.in64
    have hlen : L.length = T.length := by omega
    have eN : (N == N) = true := by simp
    have F3 := Lib.hid f3
    have F4 := Lib.hid f4
    have F5 := Lib.hid f5
    have HL := Lib.hid hL
    have HN := Lib.hid hN
    have HV := Lib.hid hv
    obtain ⟨F, hF⟩ : ∃ F, F = LK m l T := ⟨_, rfl⟩
    obtain ⟨P, hP⟩ : ∃ P, P = LK m l L := ⟨_, rfl⟩
    have hFb := LK_bound (m := m) (l := l) (t := T)
    rw [← hF] at f6 hmx hFb
    rw [← hP] at f7 hmx
    have HF := Lib.hid hF
    have HP := Lib.hid hP
    have hFl : F.length ≤ 14 := by omega
    have H6 := Lib.hid f6
    have H7 := Lib.hid f7
    have HLEN := Lib.hid hlen
    have HMX := Lib.hid hmx
    clear hF hP hL hN hv hh f1 f2 f3 f4 f5 f6 f7 f8 hmild2 hlen hmx
    go_wp2_with fail
    refine hq.mono ?_
    rintro e w4 ⟨rfl, q4, rfl⟩
    have Bq := below_drewN (Below.refl w3.heap.size w3) q4
    have r4 := r3.below Bq
    have t4 := t3.below Bq
    have B4 := B3.trans (Bq.mono z3)
    clear r3 t3 s3 B3 Bq hq
    generalize w3.drewN q4 = w4 at r4 t4 B4 ⊢
    have z4 := B4.size
    have hc := implLinearTable_any m av l cv w4 hm64 r4 L64 (by omega)
    rw [← HL.out, ← HN.out] at hc
    go_wp2_with fail
    refine hc.mono ?_
    clear hc
    rintro e w5 ⟨vo, rfl, oo, b5⟩
    obtain ⟨ao, co, rfl, o5, _, _, _⟩ := oo.form
    have r5 := r4.below b5
    have t5 := t4.below b5
    have B5 := B4.trans (b5.mono z4)
    have z5 := B5.size
    clear r4 t4 B4 b5 oo
    have hc := implLooksOf_any m av l cv at_ T ct w5 hm64 r5 L64 (by omega) t5 T64 (by omega)
    rw [← HF.out] at hc
    go_wp2_with fail
    refine hc.mono ?_
    clear hc
    rintro e w6 ⟨vk, rfl, ok, b6⟩
    obtain ⟨ak, ck, rfl, k6, _, _, _⟩ := ok.form
    have r6 := r5.below b6
    have t6 := t5.below b6
    have o6 := o5.below b6
    have B6 := B5.trans (b6.mono z5)
    have z6 := B6.size
    clear r5 t5 o5 B5 b6 ok
    have hc := implLooksOf_any m av l cv ao L co w6 hm64 r6 L64 (by omega) o6 Lt64 (by omega)
    rw [← HP.out] at hc
    go_wp2_with fail
    refine hc.mono ?_
    clear hc
    rintro e w7 ⟨vp, rfl, op, b7⟩
    obtain ⟨ap, cp, rfl, p7, _, _, _⟩ := op.form
    have r7 := r6.below b7
    have t7 := t6.below b7
    have o7 := o6.below b7
    have k7 := k6.below b7
    have B7 := B6.trans (b7.mono z6)
    have z7 := B7.size
    clear r6 t6 o6 k6 B6 b7 op
    go_wp2
    go_loopw [10, 11, 12] (fun x y i wr => ∃ k : Nat, k ≤ l.length ∧ i = .int .i64 k ∧ x = .int .i64 (mxN F k) ∧ y = .int .i64 (mxN P k) ∧ wr = w7) (fun _ _ i _ => l.length - (intOf i).toNat)
    case atStart => exact ⟨0, Nat.zero_le _, rfl, rfl, rfl, rfl⟩
    case round =>
      obtain ⟨k, hk, rfl, rfl, rfl, rfl⟩ := hrel
      by_cases hlt : k < l.length
      · obtain ⟨bF, oF, x, rfl, hbF, hcF, hx⟩ := k7.get (k := k) (by have := H6.out; omega)
        obtain ⟨bP, oP, y, rfl, hbP, hcP, hy⟩ := p7.get (k := k) (by have := H7.out; omega)
        have hk1 : (k : Int) < (F.length : Int) := by have := H6.out; omega
        have hk2 : (k : Int) < (P.length : Int) := by have := H7.out; omega
        obtain ⟨A, hA⟩ : ∃ A, A = mxN F k := ⟨_, rfl⟩
        obtain ⟨B, hBB⟩ : ∃ B, B = mxN P k := ⟨_, rfl⟩
        have sA : Hid (mxN F (k + 1) = if x > A then x else A) := by show mxN F (k + 1) = _; rw [mxN, hx.out, hA]
        have sB : Hid (mxN P (k + 1) = if y > B then y else B) := by show mxN P (k + 1) = _; rw [mxN, hy.out, hBB]
        rw [← hA, ← hBB]
        clear hA hBB hx hy
        go_wp2
        go_roundw
        case rel => exact ⟨k + 1, by omega, by go_num, by rw [sA.out], by rw [sB.out], (by first | rfl | trivial)⟩
        case measure => simp [intOf]; omega
      · obtain rfl : k = l.length := by omega
        clear hlt hk
        obtain ⟨A, hA⟩ : ∃ A, A = mxN F l.length := ⟨_, rfl⟩
        obtain ⟨B, hBB⟩ : ∃ B, B = mxN P l.length := ⟨_, rfl⟩
        have hAB : A ≤ B := by rw [hA, hBB]; exact HMX.out
        rw [← hA, ← hBB]
        clear hA hBB HMX
        have hc := implIsFound_any m av l cv at_ T ct wr hm64 r7 L64 (by omega) t7 T64 (by omega)
        rw [F3.out] at hc
        go_wp2_with fail
        refine hc.mono ?_
        clear hc
        rintro e w8 ⟨rfl, b8⟩
        have t8 := t7.below b8
        have o8 := o7.below b8
        have k8 := k7.below b8
        have B8 := B7.trans (b8.mono z7)
        have z8 := B8.size
        have hc := taken_any at_ ao T L ct co w8 t8 o8 (by omega) HLEN.out
        rw [F4.out] at hc
        go_wp2_with fail
        refine hc.mono ?_
        clear hc
        rintro e w9 ⟨rfl, q9, rfl⟩
        have Bq := below_drewN (Below.refl w8.heap.size w8) q9
        have k9 := k8.below Bq
        have B9 := B8.trans (Bq.mono z8)
        generalize w8.drewN q9 = w9 at k9 B9 ⊢
        have hc := total_any ak F ck w9 k9 (by omega) hFb
        rw [HF.out, F5.out, ← HF.out] at hc
        go_wp2_with fail
        refine hc.mono ?_
        clear hc
        rintro e w10 ⟨rfl, rfl⟩
        go_wp2
        go_ret
        exact ⟨rfl, B9⟩
  · have h0 := FT_no hv
    have hT : T = [] := by rw [HT.out, h0]
    subst hT
    go_wp2_with fail
    refine hq.mono ?_
    rintro e w4 ⟨rfl, q4, rfl⟩
    have Bq := below_drewN (Below.refl w3.heap.size w3) q4
    have r4 := r3.below Bq
    have t4 := t3.below Bq
    have B4 := B3.trans (Bq.mono z3)
    clear r3 t3 s3 B3 Bq hq
    generalize w3.drewN q4 = w4 at r4 t4 B4 ⊢
    have z4 := B4.size
    have hc := specFairTable_any m av l cv w4 hm64 r4 L64 (by omega)
    rw [← HT.out] at hc
    go_wp2_with fail
    refine hc.mono ?_
    clear hc
    rintro e w5 ⟨vs, rfl, os, b5⟩
    obtain ⟨as5, cs5, rfl, s5, _, _, _⟩ := os.form
    have t5 := t4.below b5
    have B5 := B4.trans (b5.mono z4)
    have hq := equalInts_any _ _ [] [] ct cs5 _ t5 s5 (by simp) (by simp)
    rw [eT] at hq
    go_wp2_with fail
    refine hq.mono ?_
    rintro e w6 ⟨rfl, q6, rfl⟩
    go_wp2
    go_ret
    exact ⟨rfl, below_drewN B5 q6⟩

end Go.Proofs.Ytapkalpmnldhpab
