/-
  laws.FnAllLooks: the walk.
-/
import Derived.Test.YtninnjkjodhpaaaI6
import Derived.Test.YtninnjkjodhpaaaS6
import Derived.Test.YtninnjkjodhpaaaH6
import Derived.Test.YtninnjkjodhpaaaD3
namespace Go.Proofs.Ytninnjkjodhpaaa
open Go.RowKit

/-- The powers that the law's loop makes. -/
theorem pows {m n : Int} (h : 1 ≤ m ∧ m ≤ 5 ∧ 0 ≤ n ∧ n ≤ m) :
    ∃ P : Nat → Int, P 0 = n ∧ (∀ i, P (i + 1) = P i * m) ∧ (∀ i : Nat, (i : Int) ≤ n → 0 ≤ P i ∧ P i ≤ 15625) ∧ P n.toNat = n * m ^ n.toNat := by
  refine ⟨fun i => n * m ^ i, by simp, fun i => by simp [Int.pow_succ, Int.mul_assoc], fun i hi => ?_, rfl⟩
  have hm : m = 1 ∨ m = 2 ∨ m = 3 ∨ m = 4 ∨ m = 5 := by omega
  have hn : n = 0 ∨ n = 1 ∨ n = 2 ∨ n = 3 ∨ n = 4 ∨ n = 5 := by omega
  have hk : i = 0 ∨ i = 1 ∨ i = 2 ∨ i = 3 ∨ i = 4 ∨ i = 5 := by omega
  rcases hm with rfl | rfl | rfl | rfl | rfl <;> rcases hn with rfl | rfl | rfl | rfl | rfl | rfl <;> rcases hk with rfl | rfl | rfl | rfl | rfl | rfl <;> simp

set_option maxHeartbeats 4000000 in
theorem lawFnAllLooks (a : Option Addr) (n cap : Nat) (w : World) (hB : Bytes w w.heap.size a n) (hn : n ≤ 9223372036854775807) (hc : n ≤ cap) :
    Calls Try.prog 9 #[.slice a n cap] w fun e w' => e = .returned (.bool true) ∧ Below w.heap.size w w' := by
  by_cases hbig : 1048576 < n
  · go_enter Try.func9, Try.ntmps9
    go_wp2
    go_ret
    exact ⟨rfl, Below.refl _ _⟩
  go_enter Try.func9, Try.ntmps9
  go_wp2_with fail
  refine (drawAllLooks_any a n cap w hB hn hc).mono ?_
  rintro e w1 ⟨m, k, rfl, hm, hk, hb⟩
  have hm64 : In64 m := by unfold In64; omega
  have hk64 : In64 k := by unfold In64; omega
  have z1 := hb.size
  clear hB hn hc
  go_wp2_with fail
  refine (implAllLooks_any m k _ hm64 hk64).mono ?_
  rintro e w2 ⟨rfl, hb2⟩
  have hb3 := hb.trans (hb2.mono z1)
  have z2 := hb3.size
  clear hb hb2
  go_wp2_with fail
  refine (specAllLooks_any m k _ hm64 hk64).mono ?_
  rintro e w3 ⟨rfl, hb4⟩
  have hb5 := hb3.trans (hb4.mono z2)
  have z3 := hb5.size
  clear hb3 hb4
  by_cases hin : 1 ≤ m ∧ m ≤ 5 ∧ 0 ≤ k ∧ k ≤ m
  · obtain ⟨f0, f1, f2, f3, f4, f5⟩ := AL_facts hin
    obtain ⟨P, p0, ps, pb, pn⟩ := pows hin
    rw [← pn] at f3 f4 f5
    have eb : (AL m k != AL m k) = false := by simp
    generalize AL m k = R at f0 f1 f2 f3 f4 f5 eb ⊢
    obtain ⟨K, rfl⟩ := Int.eq_ofNat_of_zero_le (show 0 ≤ k by omega)
    rw [Int.toNat_natCast] at f3 f4 f5 pn
    have f6 : R.tmod m = 0 := by rw [Int.tmod_eq_emod_of_nonneg f0]; exact f2
    have PB := Lib.hid pb
    have PS := Lib.hid ps
    have F4 := Lib.hid f4
    have F5 := Lib.hid f5
    have F3 := Lib.hid f3
    clear pn pb ps f2 f3 f4 f5
    go_wp2
    go_loop [6, 7] (fun c i => ∃ d : Nat, d ≤ K ∧ i = .int .i64 d ∧ c = .int .i64 (P d)) (fun _ i => K - (intOf i).toNat)
    case atStart => exact ⟨0, by omega, rfl, by rw [p0]⟩
    case round =>
      obtain ⟨d, hd, rfl, rfl⟩ := hrel
      obtain ⟨Y, hY⟩ : ∃ Y, Y = P d := ⟨_, rfl⟩
      have hy := PB.out d (by omega)
      rw [← hY] at hy
      by_cases hdk : d < K
      · have hz := PB.out (d + 1) (by omega)
        obtain ⟨Z, hZ⟩ : ∃ Z, Z = P (d + 1) := ⟨_, rfl⟩
        rw [← hZ] at hz
        have hYm : Y * m = Z := by rw [hZ, PS.out d, hY]
        have HZ := Lib.hid hZ
        rw [← hY]
        clear hZ hY
        go_wp2
        exact ⟨⟨d + 1, by omega, rfl, by rw [HZ.out]⟩, by simp only [intOf]; omega⟩
      · have hdk2 : d = K := by omega
        subst hdk2
        have hYR : Y ≤ R := by rw [hY]; exact F3.out
        have h1 : d ≤ 1 → R = Y := by rw [hY]; intro h; exact F4.out (by omega)
        have h2 : d = 2 → R = Y + m := by rw [hY]; intro h; exact F5.out (by omega)
        rw [← hY]
        clear hY
        by_cases d1 : d ≤ 1
        · have e1 : (R == Y) = true := by simp [h1 d1]
          have e2 : (((d : Nat) : Int) != 2) = true := by simp; omega
          clear h1 h2
          go_wp2
          go_ret
          exact ⟨rfl, hb5⟩
        · by_cases d2 : d = 2
          · have e1 : (R == Y + m) = true := by simp [h2 d2]
            subst d2
            clear h1 h2
            go_wp2
            go_ret
            exact ⟨rfl, hb5⟩
          · have e2 : (((d : Nat) : Int) != 2) = true := by simp; omega
            clear h1 h2
            go_wp2
            go_ret
            exact ⟨rfl, hb5⟩
  · have hE : AL m k = -1 := by unfold AL; rw [if_neg hin]
    rw [hE]
    go_wp2_with fail
    refine (specAllLooks_any m k _ hm64 hk64).mono ?_
    rintro e w4 ⟨rfl, hb6⟩
    rw [hE]
    go_wp2
    go_ret
    exact ⟨rfl, hb5.trans (hb6.mono z3)⟩

end Go.Proofs.Ytninnjkjodhpaaa
