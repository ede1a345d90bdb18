/-
  laws.FnJumpTo, FnValidRing: the walks.
-/
import Derived.Test.YtbldfhfciihddaaZ7
import Derived.Test.YtbldfhfciihddaaD9
import Derived.Test.YtbldfhfciihddaaY2
namespace Go.Proofs.Ytbldfhfciihddaa
open Go.RowKit

set_option maxHeartbeats 4000000 in
set_option maxRecDepth 100000 in
theorem lawFnJumpTo (a : Option Addr) (n cap : Nat) (w : World) (hB : Bytes w w.heap.size a n) (hn : n ≤ 9223372036854775807) (hc : n ≤ cap) :
    Calls Try.prog 8 #[.slice a n cap] w fun e w' => e = .returned (.bool true) ∧ Below w.heap.size w w' := by
  by_cases hbig : 1048576 < n
  · go_enter Try.func8, Try.ntmps8
    go_wp2
    go_ret
    exact ⟨rfl, Below.refl _ _⟩
  go_enter Try.func8, Try.ntmps8
  go_wp2_with fail
  refine (drawJumpTo_any a n cap w hB hn hc).mono ?_
  rintro e w1 ⟨k, m, rfl, hk, hm, B1⟩
  clear hB hn hc
  obtain ⟨R, hR⟩ : ∃ R, R = JT k m := ⟨_, rfl⟩
  have e1 : (R != R) = false := by simp
  have e2 : (R == R) = true := by simp
  have HR := Lib.hid hR
  have i1 := fun wx => implJumpTo_any k m wx (by unfold In64; omega) (by unfold In64; omega)
  have s1 := fun wx => specJumpTo_any k m wx (by unfold In64; omega) (by unfold In64; omega)
  rw [← hR] at i1 s1
  have CI := Lib.hid i1
  have CS := Lib.hid s1
  clear hR i1 s1
  go_wp2_with fail
  refine (CI.out _).mono ?_
  rintro e w2 ⟨rfl, b2⟩
  have B2 := B1.trans (b2.mono B1.size)
  clear b2 B1
  go_wp2_with fail
  refine (CS.out _).mono ?_
  rintro e w3 ⟨rfl, b3⟩
  have B3 := B2.trans (b3.mono B2.size)
  clear b3 B2
  by_cases hneg : R < 0
  · go_wp2_with fail
    refine (CS.out _).mono ?_
    rintro e w4 ⟨rfl, b4⟩
    have B4 := B3.trans (b4.mono B3.size)
    clear b4 B3
    go_wp2
    go_ret
    exact ⟨rfl, B4⟩
  · have hlaw := JT_law (k := k) (n := m) (by rw [← HR.out]; exact hneg)
    rw [← HR.out] at hlaw
    rcases hlaw with ⟨h1, h2⟩ | ⟨h1, h2⟩
    · have g1 : (m == 1) = true := by simp [h1]
      have g2 : (R == 0) = true := by simp [h2]
      clear h1 h2 hm
      go_wp2
      go_ret
      exact ⟨rfl, B3⟩
    · have g1 : (m == 1) = false := by simp; omega
      obtain ⟨M1, hM1⟩ : ∃ M1, M1 = m - 1 := ⟨_, rfl⟩
      have hw : IntKind.i64.wrap (m - 1) = M1 := by rw [hM1]; exact IntWalk.i64_in _ (by omega)
      rw [← hM1] at h2
      have i2 := fun wx => implJumpTo_any k M1 wx (by unfold In64; omega) (by unfold In64; omega)
      by_cases h3 : R = M1
      · have g2 : (R == M1) = true := by simp [h3]
        clear h2 h3 i2 hM1 hm
        go_wp2
        go_ret
        exact ⟨rfl, B3⟩
      · have g2 : (R == M1) = false := by simpa using h3
        have h4 : R = JT k M1 := h2.resolve_left h3
        rw [← h4] at i2
        have CI2 := Lib.hid i2
        clear h2 h3 h4 i2 hM1 hm
        go_wp2_with fail
        refine (CI2.out _).mono ?_
        rintro e w4 ⟨rfl, b4⟩
        have B4 := B3.trans (b4.mono B3.size)
        clear b4 B3
        go_wp2
        go_ret
        exact ⟨rfl, B4⟩

set_option maxHeartbeats 4000000 in
set_option maxRecDepth 100000 in
theorem lawFnValidRing (a : Option Addr) (n cap : Nat) (w : World) (hB : Bytes w w.heap.size a n) (hn : n ≤ 9223372036854775807) (hc : n ≤ cap) :
    Calls Try.prog 3 #[.slice a n cap] w fun e w' => e = .returned (.bool true) ∧ Below w.heap.size w w' := by
  by_cases hbig : 1048576 < n
  · go_enter Try.func3, Try.ntmps3
    go_wp2
    go_ret
    exact ⟨rfl, Below.refl _ _⟩
  go_enter Try.func3, Try.ntmps3
  go_wp2_with fail
  refine (drawValidRing_any a n cap w hB hn hc).mono ?_
  rintro e w1 ⟨v, l, rfl, ho, hl, hs, B1⟩
  clear hB hn hc
  obtain ⟨al, cl, rfl, hr, hlc, hcm, _⟩ := ho.form
  have hi : ∀ x ∈ l, In64 x := fun x hx => by have := hs x hx; unfold In64; omega
  have i1 := fun wx (h : Reads wx al l) => implValidRing_any al l cl wx h hi (by omega) hlc
  have s1 := fun wx (h : Reads wx al l) => specValidRing_any al l cl wx h hi (by omega) hlc
  have HI := Lib.hid hi
  have HLC := Lib.hid hlc
  clear ho hs hi hlc hcm
  by_cases hv : VR l = true
  · rw [hv] at i1 s1
    have CI := Lib.hid i1
    have CS := Lib.hid s1
    have HV := Lib.hid hv
    clear i1 s1 hv
    have hl1 := (VR_iff.1 HV.out).1
    go_wp2_with fail
    refine (CI.out _ hr).mono ?_
    rintro e w2 ⟨rfl, b2⟩
    have hr2 := hr.below b2
    have B2 := B1.trans (b2.mono B1.size)
    clear b2 B1 hr
    go_wp2_with fail
    refine (CS.out _ hr2).mono ?_
    rintro e w3 ⟨rfl, b3⟩
    have hr3 := hr2.below b3
    have B3 := B2.trans (b3.mono B2.size)
    clear b3 B2 hr2
    by_cases h1 : l.length = 1
    · have g1 : ((l.length : Int) == 1) = true := by simp [h1]
      rw [h1]
      go_wp2
      go_ret
      exact ⟨rfl, B3⟩
    · have g1 : ((l.length : Int) == 1) = false := by simp; omega
      have hv2 := VR_take HV.out (by omega)
      obtain ⟨N1, hN1⟩ : ∃ N1, N1 = l.length - 1 := ⟨_, rfl⟩
      have hw : IntKind.i64.wrap ((l.length : Int) - 1) = (N1 : Int) := by rw [IntWalk.i64_in _ (by omega)]; omega
      have htl : (l.take N1).length = N1 := by rw [List.length_take]; omega
      have i2 := implValidRing_any al (l.take N1) cl w3 (hr3.take' N1) (fun x hx => HI.out x (List.mem_of_mem_take hx)) (by omega) (by have := HLC.out; omega)
      rw [htl, hN1, hv2, ← hN1] at i2
      have CI2 := Lib.hid i2
      have c1 : (N1 : Int) ≤ (cl : Int) := by have := HLC.out; omega
      have c0 : (0 : Int) ≤ (N1 : Int) := by omega
      clear hv2 htl i2 hN1 h1
      go_wp2_with fail
      refine CI2.out.mono ?_
      rintro e w4 ⟨rfl, b4⟩
      have B4 := B3.trans (b4.mono B3.size)
      clear b4 B3
      go_wp2
      go_ret
      exact ⟨rfl, B4⟩
  · rw [show VR l = false from by simpa using hv] at i1 s1
    have CI := Lib.hid i1
    have CS := Lib.hid s1
    clear i1 s1 hv
    go_wp2_with fail
    refine (CI.out _ hr).mono ?_
    rintro e w2 ⟨rfl, b2⟩
    have hr2 := hr.below b2
    have B2 := B1.trans (b2.mono B1.size)
    clear b2 B1 hr
    go_wp2_with fail
    refine (CS.out _ hr2).mono ?_
    rintro e w3 ⟨rfl, b3⟩
    have hr3 := hr2.below b3
    have B3 := B2.trans (b3.mono B2.size)
    clear b3 B2 hr2
    go_wp2_with fail
    refine (CS.out _ hr3).mono ?_
    rintro e w4 ⟨rfl, b4⟩
    have B4 := B3.trans (b4.mono B3.size)
    clear b4 B3
    go_wp2
    go_ret
    exact ⟨rfl, B4⟩
end Go.Proofs.Ytbldfhfciihddaa
