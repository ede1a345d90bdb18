/-
  The laws' helper turned.
-/
import Derived.Test.YtoaiaindcmihjaaLH
namespace Go.Proofs.Ytoaiaindcmihjaa
open Go.RowKit

theorem drop_rev {l : List Int} {k : Nat} (h : k < l.length) : (l.drop k).reverse = (l.drop (k + 1)).reverse ++ [l.getD k 0] := by
  rw [List.drop_eq_getElem_cons h, List.reverse_cons]; simp [List.getD, h]

set_option maxHeartbeats 1000000 in
theorem turned_any (a : Option Addr) (l : List Int) (cap : Nat) (w : World) (hr : Reads w a l) (hl : l.length ≤ 1048586) :
    Calls Try.prog 18 #[.slice a l.length cap] w fun e w' => ∃ v, e = .returned v ∧ Own w' w.heap.size v l.reverse ∧ Below w.heap.size w w' := by
  have ho := Own.lit0 w w.heap.size (Nat.le_refl _)
  have hb := (Below.refl w.heap.size w).alloc (Nat.le_refl _) (.cells #[] 3)
  go_enter Try.func18, Try.ntmps18
  go_wp2
  go_loopw [3, 4] (fun v i wr => ∃ (k : Nat) (L : List Int), k ≤ l.length ∧ i = .int .i64 ((k : Int) - 1) ∧ Hid (L = (l.drop k).reverse) ∧ Own wr w.heap.size v L ∧ Below w.heap.size w wr ∧ L.length = l.length - k) (fun _ i _ => (intOf i + 1).toNat)
  case atStart => exact ⟨l.length, [], Nat.le_refl _, rfl, by simp [Hid], ho, hb, by simp⟩
  case round =>
    obtain ⟨k, L, hk, rfl, hL, hO, hB, hLl⟩ := hrel
    obtain ⟨av, cv, rfl, _, _, _, _⟩ := hO.form
    have hz := hB.size
    have HLl := Lib.hid hLl
    have hl2 : L.length ≤ 1048586 := by omega
    clear hLl
    by_cases h0 : k = 0
    · subst h0
      go_wp2
      go_ret
      refine ⟨_, rfl, ?_, hB⟩
      have e : L = l.reverse := by rw [hL.out, List.drop_zero]
      rw [← e]; exact hO
    · obtain ⟨j, rfl⟩ : ∃ j, k = j + 1 := ⟨k - 1, by omega⟩
      have hr2 := hr.below hB
      obtain ⟨b, off, x, rfl, hbb, hcell, hx⟩ := hr2.get (k := j) (by omega)
      have hj : (((j + 1 : Nat) : Int) - 1) = (j : Int) := by omega
      rw [hj]
      go_wp2_with (at_builtin; refine push_int rfl (.tmp 13) (.tmp 18) rfl w.heap.size (.slice av L.length cv) L x rfl hO rfl (by omega) hz ?_)
      intro v' we oe ne ge
      have hBe := Below.grownB hB hO ge hz (Nat.le_refl _)
      have hLe : Hid (L ++ [x] = (l.drop j).reverse) := by show _ = _; rw [drop_rev (by omega), hL.out, hx.out]
      clear ge hO hB
      go_wp2
      go_roundw
      case rel => exact ⟨j, L ++ [x], by omega, rfl, hLe, oe, hBe, by have := HLl.out; simp; omega⟩
      case measure => simp [intOf]

end Go.Proofs.Ytoaiaindcmihjaa
