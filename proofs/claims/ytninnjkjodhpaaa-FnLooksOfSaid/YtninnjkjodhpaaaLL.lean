/-
  laws.FnLooksOf: the walk.
-/
import Derived.Test.YtninnjkjodhpaaaM7
import Derived.Test.YtninnjkjodhpaaaI3
import Derived.Test.YtninnjkjodhpaaaD4
import Derived.Test.YtninnjkjodhpaaaLH
namespace Go.Proofs.Ytninnjkjodhpaaa
open Go.RowKit

theorem drawLooksOf_any (a : Option Addr) (n cap : Nat) (w : World) (hB : Bytes w w.heap.size a n) (hn : n ≤ 9223372036854775807) (hc : n ≤ cap) :
    Calls Try.prog 33 #[.slice a n cap] w fun e w' => ∃ (m : Int) (ah : Option Addr) (ch : Nat) (l : List Int) (at_ : Option Addr) (ct : Nat) (t : List Int), e = .returned (.tuple #[.int .i64 m, .slice ah l.length ch, .slice at_ t.length ct]) ∧ (-1 ≤ m ∧ m ≤ 11) ∧ Reads w' ah l ∧ Small l ∧ l.length ≤ 14 ∧ Reads w' at_ t ∧ Mild t ∧ t.length ≤ 10 ∧ Below w.heap.size w w' := by
  go_enter Try.func33, Try.ntmps33
  go_wp2_with fail
  refine (newReader_any a n cap w hB hn hc).mono ?_
  rintro e w1 ⟨rfl, hR, hb1, hs1⟩
  go_wp2_with fail
  refine (someTable_any w.heap.size 0 w1 hR (by omega)).mono ?_
  rintro e w2 ⟨m, ah, ch, l, at_, ct, t, q, rfl, hm, h1, h2, h3, h4, h5, h6, h7, h8, h9, h10⟩
  go_wp2
  go_ret3
  exact ⟨m, ah, ch, l, at_, ct, t, rfl, hm, h1, h2, h3, h5, h6, h7, hb1.trans h10⟩

theorem posi_take {l : List Int} {k : Nat} (h : k < l.length) : posi (l.take (k + 1)) = posi (l.take k) + (if 0 < l.getD k 0 then 1 else 0) := by
  rw [take_succ_getD h]; unfold posi; rw [List.countP_append]; simp [List.countP_cons]

set_option maxHeartbeats 8000000 in
set_option maxRecDepth 100000 in
theorem lawFnLooksOf (a : Option Addr) (n cap : Nat) (w : World) (hB : Bytes w w.heap.size a n) (hn : n ≤ 9223372036854775807) (hc : n ≤ cap) :
    Calls Try.prog 6 #[.slice a n cap] w fun e w' => e = .returned (.bool true) ∧ Below w.heap.size w w' := by
  by_cases hbig : 1048576 < n
  · go_enter Try.func6, Try.ntmps6
    go_wp2
    go_ret
    exact ⟨rfl, Below.refl _ _⟩
  go_enter Try.func6, Try.ntmps6
  go_wp2_with fail
  refine (drawLooksOf_any a n cap w hB hn hc).mono ?_
  rintro e w1 ⟨m, ah, ch, l, at_, ct, t, rfl, hm, r1, hs, hl, t1, ht, htl, b1⟩
  have hm64 : In64 m := by unfold In64; omega
  have L64 := hs.in64
  have T64 := ht.in64
  have z1 := b1.size
  clear hB hn hc hs ht
  go_wp2_with fail
  refine (implLooksOf_any m _ l _ _ t _ _ hm64 r1 L64 (by omega) t1 T64 (by omega)).mono ?_
  rintro e w2 ⟨v, rfl, o2, b2⟩
  have r2 := r1.below b2
  have t2 := t1.below b2
  have B2 := b1.trans (b2.mono z1)
  have z2 := B2.size
  obtain ⟨av, cv, rfl, v2, _, _, _⟩ := o2.form
  clear r1 t1 b1 b2 o2
  go_wp2_with fail
  refine (specLooksOf_any m _ l _ _ t _ _ hm64 r2 L64 (by omega) t2 T64 (by omega)).mono ?_
  rintro e w3 ⟨u, rfl, o3, b3⟩
  have r3 := r2.below b3
  have t3 := t2.below b3
  have v3 := v2.below b3
  have B3 := B2.trans (b3.mono z2)
  have z3 := B3.size
  obtain ⟨au, cu, rfl, u3, _, _, _⟩ := o3.form
  clear r2 t2 v2 B2 b3 o3
  have hKl := LK_len m l t
  obtain ⟨K, hK⟩ : ∃ K, K = LK m l t := ⟨_, rfl⟩
  rw [← hK] at v3 u3 hKl ⊢
  have HK := Lib.hid hK
  have eL := eqL_self K
  clear hK
  go_wp2_with fail
  refine (equalInts_any _ _ K K _ _ _ v3 u3 hKl hKl).mono ?_
  rintro e w4 ⟨rfl, q4, rfl⟩
  have Bq := Below.refl w3.heap.size w3
  have b4 := below_drewN Bq q4
  have r4 := r3.below b4
  have t4 := t3.below b4
  have v4 := v3.below b4
  have B4 := B3.trans (b4.mono z3)
  have z4 := B4.size
  clear r3 t3 v3 u3 B3 b4 Bq
  generalize w3.drewN q4 = w4 at r4 t4 v4 B4 z4 ⊢
  by_cases hk0 : K.length = 0
  · go_wp2_with fail
    refine (specLooksOf_any m _ l _ _ t _ _ hm64 r4 L64 (by omega) t4 T64 (by omega)).mono ?_
    rintro e w5 ⟨u, rfl, o5, b5⟩
    have v5 := v4.below b5
    have B5 := B4.trans (b5.mono z4)
    have z5 := B5.size
    rw [← HK.out] at o5
    obtain ⟨a5, c5, rfl, u5, _, _, _⟩ := o5.form
    have hc := equalInts_any av a5 K K cv c5 w5 v5 u5 hKl hKl
    rw [hk0] at hc
    clear r4 t4 v4 B4 b5 o5 v5 u5
    go_wp2_with fail
    refine hc.mono ?_
    rintro e w6 ⟨rfl, q6, rfl⟩
    go_wp2
    go_ret
    exact ⟨rfl, below_drewN B5 q6⟩
  · have ek : ((K.length : Int) == 0) = false := by rw [beq_eq_false_iff_ne]; omega
    have hv : VT m l t = true := by
      apply Classical.byContradiction
      intro h
      apply hk0
      rw [HK.out]
      unfold LK
      rw [if_neg h]
      rfl
    have htm := (VT_iff.1 hv).2.1
    have hm1 := (VH_iff.1 (VT_iff.1 hv).1).1
    obtain ⟨M, rfl⟩ := Int.eq_ofNat_of_zero_le (show 0 ≤ m by omega)
    have hKM : K = lks M l t M := by rw [HK.out]; unfold LK; rw [if_pos hv, Int.toNat_natCast]
    have hKlen : K.length = l.length := by rw [hKM, lks_len]
    have hp := lks_posi (m := M) (by omega) rfl t.length (Nat.le_refl _) (VT_iff.1 hv).2.2
    rw [List.take_length, show t.length = M by omega, ← hKM] at hp
    have HP := Lib.hid hp
    have HV := Lib.hid hv
    have HKM := Lib.hid hKM
    clear hp hv hKM HK
    have htM : t.length = M := by omega
    have el : ((l.length : Int) == 0) = false := by rw [beq_eq_false_iff_ne]; omega
    clear ek
    go_wp2
    go_loopw [7] (fun i wr => ∃ k : Nat, k ≤ M ∧ i = .int .i64 k ∧ ∃ q, wr = w4.drewN q) (fun i _ => M - (intOf i).toNat)
    case atStart => exact ⟨0, Nat.zero_le _, rfl, 0, rfl⟩
    case round =>
      obtain ⟨k, hk, rfl, q, rfl⟩ := hrel
      by_cases hlt : k < M
      · obtain ⟨b, off, y, rfl, hb, hcell, hy⟩ := t4.get (k := k) (by omega)
        by_cases hy0 : 0 ≤ y
        · obtain ⟨o, ho, hol, hx0, hxm, hz1, hzm, hmod⟩ := LK_slot HV.out hlt (by rw [hy.out]; exact hy0)
          rw [hy.out] at ho
          subst ho
          rw [← HKM.out] at hz1 hzm hmod
          obtain ⟨bh, oh, x, rfl, hbh, hcellh, hx⟩ := r4.get hol
          obtain ⟨bk, okk, z, rfl, hbk, hcellk, hz⟩ := v4.get (k := o) (by omega)
          rw [hx.out] at hx0 hxm hmod
          rw [hz.out] at hz1 hzm hmod
          have hmt : (x + z - 1).tmod (M : Int) = k := by rw [Int.tmod_eq_emod_of_nonneg (by omega)]; exact hmod
          obtain ⟨Y, hY⟩ : ∃ Y, Y = x + z := ⟨_, rfl⟩
          obtain ⟨Y2, hY2⟩ : ∃ Y2, Y2 = Y - 1 := ⟨_, rfl⟩
          have e1 : IntKind.i64.wrap (x + z) = Y := by rw [hY]; exact IntWalk.i64_in _ (by omega)
          have e2 : IntKind.i64.wrap (Y - 1) = Y2 := by rw [hY2]; exact IntWalk.i64_in _ (by omega)
          rw [← hY, ← hY2] at hmt
          have hM0 : ¬ M = 0 := by omega
          clear hmod hY hY2
          have hkk : ((k : Int) != (k : Int)) = false := by simp
          have HY := Lib.hid hy0
          clear hy0
          go_wp2
          go_quiet (fail)
          clear e1 e2 hmt hcell hcellh hcellk
          go_wp2
          go_roundw
          case rel => exact ⟨k + 1, by omega, by go_num, q + nq, by first | rfl | rw [World.drewN_drewN]⟩
          case measure => simp [intOf]; omega
        · go_wp2
          go_roundw
          case rel => exact ⟨k + 1, by omega, by go_num, q, rfl⟩
          case measure => simp [intOf]; omega
      · obtain rfl : k = M := by omega
        have B5 := below_drewN B4 q
        clear B4 eL z1 z2 z3 z4 hbig
        go_wp2
        have HKL := Lib.hid hKlen
        clear hKlen
        go_loop [9, 10] (fun c i => ∃ j x : Nat, j ≤ l.length ∧ i = .int .i64 j ∧ c = .int .i64 x ∧ Hid (x = posi (K.take j)) ∧ x ≤ j) (fun _ i => l.length - (intOf i).toNat)
        case atStart => exact ⟨0, 0, Nat.zero_le _, rfl, rfl, by simp [Hid, posi], Nat.le_refl _⟩
        case round =>
          obtain ⟨j, x, hj, rfl, rfl, hx, hxj⟩ := hrel
          by_cases hlt : j < l.length
          · have hlt2 : j < K.length := by rw [HKL.out]; exact hlt
            obtain ⟨b, off, y, rfl, hb, hcell, hy⟩ := v4.get hlt2
            have hs := posi_take hlt2
            clear hlt2
            rw [hy.out] at hs
            by_cases g1 : 0 < y
            · rw [if_pos g1] at hs
              have HS := Lib.hid hs
              clear hs
              go_wp2
              go_round
              case rel => exact ⟨j + 1, x + 1, by omega, by go_num, by go_num, by show x + 1 = _; rw [HS.out, hx.out], by omega⟩
              case measure => simp [intOf]; omega
            · rw [if_neg g1] at hs
              have HS := Lib.hid hs
              clear hs
              go_wp2
              go_round
              case rel => exact ⟨j + 1, x, by omega, by go_num, rfl, by show x = _; rw [HS.out, hx.out]; rfl, by omega⟩
              case measure => simp [intOf]; omega
          · obtain rfl : j = l.length := by omega
            have HX : Hid (x = held t) := by show x = held t; rw [hx.out, ← HKL.out, List.take_length]; exact HP.out
            clear hx hxj
            have t5 := t4.below (below_drewN (Below.refl _ _) q)
            clear t4
            have hc := keysIn_any _ t ct _ t5 (by omega)
            rw [← HX.out, htM] at hc
            go_wp2_with fail
            refine hc.mono ?_
            clear hc t5
            rintro e w6 ⟨rfl, rfl⟩
            have ex : ((x : Int) == (x : Int)) = true := by simp
            go_wp2
            go_ret
            exact ⟨rfl, B5⟩

end Go.Proofs.Ytninnjkjodhpaaa
