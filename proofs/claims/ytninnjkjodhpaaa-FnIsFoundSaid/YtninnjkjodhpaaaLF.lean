/-
  laws.FnIsFound: the walk.
-/
import Derived.Test.YtninnjkjodhpaaaI3
import Derived.Test.YtninnjkjodhpaaaI4
import Derived.Test.YtninnjkjodhpaaaD4
import Derived.Test.YtninnjkjodhpaaaLH
namespace Go.Proofs.Ytninnjkjodhpaaa
open Go.RowKit

theorem drawIsFound_any (a : Option Addr) (n cap : Nat) (w : World) (hB : Bytes w w.heap.size a n) (hn : n ≤ 9223372036854775807) (hc : n ≤ cap) :
    Calls Try.prog 35 #[.slice a n cap] w fun e w' => ∃ (m : Int) (ah : Option Addr) (ch : Nat) (l : List Int) (at_ : Option Addr) (ct : Nat) (t : List Int), e = .returned (.tuple #[.int .i64 m, .slice ah l.length ch, .slice at_ t.length ct]) ∧ (-1 ≤ m ∧ m ≤ 11) ∧ Reads w' ah l ∧ Small l ∧ l.length ≤ 14 ∧ Reads w' at_ t ∧ Mild t ∧ t.length ≤ 10 ∧ Below w.heap.size w w' := by
  go_enter Try.func35, Try.ntmps35
  go_wp2_with fail
  refine (newReader_any a n cap w hB hn hc).mono ?_
  rintro e w1 ⟨rfl, hR, hb1, hs1⟩
  go_wp2_with fail
  refine (someTable_any w.heap.size 0 w1 hR (by omega)).mono ?_
  rintro e w2 ⟨m, ah, ch, l, at_, ct, t, q, rfl, hm, h1, h2, h3, h4, h5, h6, h7, h8, h9, h10⟩
  go_wp2
  go_ret3
  exact ⟨m, ah, ch, l, at_, ct, t, rfl, hm, h1, h2, h3, h5, h6, h7, hb1.trans h10⟩

/-- Tables of the keys with no key or no free slot find all. -/
theorem FD_full {m : Int} {l t : List Int} (hv : VT m l t = true) (h : held t = 0 ∨ held t = t.length) : FD m l t = true := by
  rw [FD_iff]
  refine ⟨hv, fun i hi hk => ?_⟩
  rcases h with h | h
  · exfalso
    have := List.countP_eq_zero.1 h (t[i]) (List.getElem_mem hi)
    simp [List.getD, hi] at hk
    simp at this
    omega
  · intro d p hd hp hlt
    have hl := (VT_iff.1 hv).2.1
    have hh := (VH_iff.1 (VT_iff.1 hv).1)
    have hpl : p < t.length := by rw [hp, show m.toNat = t.length by omega]; exact Nat.mod_lt _ (by omega)
    have := List.countP_eq_length.1 h (t[p]) (List.getElem_mem hpl)
    simp [List.getD, hpl] at hlt
    simp at this
    omega

set_option maxHeartbeats 4000000 in
theorem lawFnIsFound (a : Option Addr) (n cap : Nat) (w : World) (hB : Bytes w w.heap.size a n) (hn : n ≤ 9223372036854775807) (hc : n ≤ cap) :
    Calls Try.prog 7 #[.slice a n cap] w fun e w' => e = .returned (.bool true) ∧ Below w.heap.size w w' := by
  by_cases hbig : 1048576 < n
  · go_enter Try.func7, Try.ntmps7
    go_wp2
    go_ret
    exact ⟨rfl, Below.refl _ _⟩
  go_enter Try.func7, Try.ntmps7
  go_wp2_with fail
  refine (drawIsFound_any a n cap w hB hn hc).mono ?_
  rintro e w1 ⟨m, ah, ch, l, at_, ct, t, rfl, hm, r1, hs, hl, t1, ht, htl, b1⟩
  have hm64 : In64 m := by unfold In64; omega
  have L64 := hs.in64
  have T64 := ht.in64
  have z1 := b1.size
  clear hB hn hc hs ht
  go_wp2_with fail
  refine (implIsFound_any m _ l _ _ t _ _ hm64 r1 L64 (by omega) t1 T64 (by omega)).mono ?_
  rintro e w2 ⟨rfl, b2⟩
  have r2 := r1.below b2
  have t2 := t1.below b2
  have B2 := b1.trans (b2.mono z1)
  have z2 := B2.size
  clear r1 t1 b1 b2
  go_wp2_with fail
  refine (specIsFound_any m _ l _ _ t _ _ hm64 r2 L64 (by omega) t2 T64 (by omega)).mono ?_
  rintro e w3 ⟨rfl, b3⟩
  have r3 := r2.below b3
  have t3 := t2.below b3
  have B3 := B2.trans (b3.mono z2)
  have z3 := B3.size
  clear r2 t2 B2 b3
  obtain ⟨F, hF⟩ : ∃ F, F = FD m l t := ⟨_, rfl⟩
  have HF := Lib.hid hF
  have eb : (F != F) = false := by simp
  have ec : (F == F) = true := by simp
  rw [← hF]
  clear hF
  by_cases hl0 : l.length = 0
  · have hc := specIsFound_any m _ l ch _ t ct _ hm64 r3 L64 (by omega) t3 T64 (by omega)
    rw [hl0] at hc
    go_wp2_with fail
    refine hc.mono ?_
    rintro e w4 ⟨rfl, b4⟩
    rw [← HF.out]
    go_wp2
    go_ret
    exact ⟨rfl, B3.trans (b4.mono z3)⟩
  · have el : ((l.length : Int) == 0) = false := by rw [beq_eq_false_iff_ne]; omega
    go_wp2_with fail
    refine (implLooksOf_any m _ l _ _ t _ _ hm64 r3 L64 (by omega) t3 T64 (by omega)).mono ?_
    rintro e w4 ⟨v, rfl, o4, b4⟩
    have r4 := r3.below b4
    have t4 := t3.below b4
    have B4 := B3.trans (b4.mono z3)
    have z4 := B4.size
    obtain ⟨av, cv, rfl, _, _, _, _⟩ := o4.form
    clear r3 t3 B3 b4 o4
    obtain ⟨KL, hKL⟩ : ∃ KL, KL = (LK m l t).length := ⟨_, rfl⟩
    rw [← hKL]
    have HKL := Lib.hid hKL
    clear hKL
    by_cases hk0 : KL = 0
    · go_wp2_with fail
      refine (specIsFound_any m _ l _ _ t _ _ hm64 r4 L64 (by omega) t4 T64 (by omega)).mono ?_
      rintro e w5 ⟨rfl, b5⟩
      rw [← HF.out]
      go_wp2
      go_ret
      exact ⟨rfl, B4.trans (b5.mono z4)⟩
    · have ek : ((KL : Int) == 0) = false := by rw [beq_eq_false_iff_ne]; omega
      have hv : VT m l t = true := by
        apply Classical.byContradiction
        intro h
        apply hk0
        rw [HKL.out]
        unfold LK
        rw [if_neg h]
        rfl
      have htm := (VT_iff.1 hv).2.1
      have hle := held_le t
      go_wp2_with fail
      refine (keysIn_any _ t _ _ t4 (by omega)).mono ?_
      rintro e w5 ⟨rfl, rfl⟩
      by_cases hfull : held t = 0 ∨ held t = t.length
      · have hFt : F = true := by rw [HF.out]; exact FD_full hv hfull
        subst hFt
        clear hfull
        go_wp2
        go_ret
        exact ⟨rfl, B4⟩
      · have h1 : 0 < held t := by omega
        have h2 : (held t : Int) < m := by omega
        clear hfull
        cases F
        all_goals
          go_wp2
          go_ret
          exact ⟨rfl, B4⟩

end Go.Proofs.Ytninnjkjodhpaaa
