/-
  The laws of LineOf, LineMoves, from what impl's functions give.
-/
import Derived.Test.YtoaiaindcmihjaaNG
import Derived.Test.YtoaiaindcmihjaaDM
import Derived.Test.YtoaiaindcmihjaaLG
import Derived.Test.YtoaiaindcmihjaaLH
namespace Go.Proofs.Ytoaiaindcmihjaa
open Go.RowKit

def LineOfGives : Prop := ∀ (c x : Int) (w : World), In64 c → In64 x → Calls Try.prog 24 #[.int .i64 c, .int .i64 x] w fun e w' => e = .returned (.int .i64 (LNO c x)) ∧ Below w.heap.size w w'
def LineMovesGives : Prop := ∀ (c : Int) (a : Option Addr) (l : List Int) (cap : Nat) (w : World), In64 c → Reads w a l → (∀ x ∈ l, In64 x) → l.length ≤ 1048586 → l.length ≤ cap →
    Calls Try.prog 27 #[.int .i64 c, .slice a l.length cap] w fun e w' => ∃ v, e = .returned v ∧ Own w' w.heap.size v (LMV c l) ∧ Below w.heap.size w w'

set_option maxHeartbeats 8000000 in
theorem lawFnLineOf_of (HI : LineOfGives) (a : Option Addr) (n cap : Nat) (w : World) (hB : Bytes w w.heap.size a n) (hn : n ≤ 9223372036854775807) (hc : n ≤ cap) :
    Calls Try.prog 5 #[.slice a n cap] w fun e w' => e = .returned (.bool true) ∧ Below w.heap.size w w' := by
  by_cases hbig : 1048576 < n
  · go_enter Try.func5, Try.ntmps5
    go_wp2
    go_ret
    exact ⟨rfl, Below.refl _ _⟩
  go_enter Try.func5, Try.ntmps5
  go_wp2_with fail
  refine (drawLineOf_any a n cap w hB hn hc).mono ?_
  rintro e w1 ⟨c, x, rfl, hc1, hx1, B1⟩
  clear hB hn hc
  have ci := fun wx => HI c x wx (by unfold In64; omega) (by unfold In64; omega)
  have ci2 := fun wx => HI (c + 1) x wx (by unfold In64; omega) (by unfold In64; omega)
  have cs := fun wx => specLineOf_any c x wx
  have hlaw := fun h => LNO_law (c := c) (x := x) h
  have hno := fun h => LNO_none (c := c) (x := x) h
  obtain ⟨Z, hZ⟩ : ∃ Z, Z = LNO c x := ⟨_, rfl⟩
  obtain ⟨Y, hY⟩ : ∃ Y, Y = LNO (c + 1) x := ⟨_, rfl⟩
  rw [← hZ] at ci cs hlaw hno
  rw [← hY] at ci2 hlaw
  have CI := Lib.hid ci
  have CI2 := Lib.hid ci2
  have CS := Lib.hid cs
  have hZZ : (Z != Z) = false := by simp
  have e1 : IntKind.i64.wrap (c + 1) = c + 1 := IntWalk.i64_in _ (by omega)
  clear ci ci2 cs hZ hY HI
  go_wp2_with fail
  refine (CI.out _).mono ?_
  rintro e w2 ⟨rfl, b2⟩
  have B2 := B1.trans (b2.mono B1.size)
  clear b2 B1
  go_wp2_with fail
  refine (CS.out _).mono ?_
  rintro e w' ⟨rfl, rfl⟩
  by_cases hok : (1 ≤ c ∧ c ≤ 40) ∧ 0 ≤ x ∧ x ≤ 63
  · have hl := hlaw hok
    have h0 : ¬ Z < 0 := by omega
    clear hlaw hno
    by_cases h40 : c = 40
    · have hd : (c == 40) = true := by simp [h40]
      have hzc : Z < c := hl.1.2
      clear hl h40
      go_wp2
      go_ret
      exact ⟨rfl, B2⟩
    · have hd : (c == 40) = false := by simpa using h40
      have hnx := hl.2 (by omega)
      have hzc : Z < c := hl.1.2
      clear hl h40
      go_wp2_with fail
      refine (CI2.out _).mono ?_
      rintro e w3 ⟨rfl, b3⟩
      have B3 := B2.trans (b3.mono B2.size)
      clear b3 B2
      by_cases hYZ : Y = Z
      · have hd2 : (Y == Z) = true := by simp [hYZ]
        clear hYZ hnx
        go_wp2
        go_ret
        exact ⟨rfl, B3⟩
      · have hd2 : (Y == Z) = false := by simpa using hYZ
        have hd3 : (Y == c) = true := by
          rcases hnx with h | h
          · exact absurd h hYZ
          · simp [h]
        clear hYZ hnx
        go_wp2
        go_ret
        exact ⟨rfl, B3⟩
  · obtain rfl : Z = -1 := hno hok
    clear hlaw hno hok
    go_wp2_with fail
    refine (CS.out _).mono ?_
    rintro e w' ⟨rfl, rfl⟩
    go_wp2
    go_ret
    exact ⟨rfl, B2⟩
end Go.Proofs.Ytoaiaindcmihjaa
