/-
  laws.toSieve, laws.eqSieve; the exact laws of sieves.
-/
import Derived.Test.YtjkcahmbocjacaaJ2
import Derived.Test.YtjkcahmbocjacaaW9
import Derived.Lib.SmallJoins
import Derived.OpenShut
import Derived.ProofKit
namespace Go.Proofs.Ytjkcahmbocjacaa
open Go.RowKit

/-- Block g is the box of a sieve of the laws' own. -/
def LBox (w : World) (g : Nat) (b ww s : Int) : Prop := w.heap[g]? = some (.cells #[.int .i64 b, .int .i64 ww, .int .i64 s] 54 (0, 0))
section
variable {w : World} {g : Nat} {b ww s : Int}
theorem LBox.lt (h : LBox w g b ww s) : g < w.heap.size := (Array.getElem?_eq_some_iff.1 h).1
theorem LBox.c0 (h : LBox w g b ww s) : w.cell? ⟨g, 0, none⟩ = some (.int .i64 b) := by rw [cell_of_row w g 0 _ _ _ h]; rfl
theorem LBox.c1 (h : LBox w g b ww s) : w.cell? ⟨g, 1, none⟩ = some (.int .i64 ww) := by rw [cell_of_row w g 1 _ _ _ h]; rfl
theorem LBox.c2 (h : LBox w g b ww s) : w.cell? ⟨g, 2, none⟩ = some (.int .i64 s) := by rw [cell_of_row w g 2 _ _ _ h]; rfl
theorem LBox.belowAll {w' : World} (h : LBox w g b ww s) (hb : Below w.heap.size w w') : LBox w' g b ww s := (hb.block g h.lt).trans h
theorem LBox.new (w : World) (b ww s : Int) : LBox (w.alloc (.cells #[.int .i64 b, .int .i64 ww, .int .i64 s] 54)) w.heap.size b ww s := heap_alloc_new w _
end
set_option maxHeartbeats 2000000 in
theorem toSieve_any (b ww s : Int) (w : World) : Calls Try.prog 55 #[.agg #[.int .i64 b, .int .i64 ww, .int .i64 s]] w fun e w' => e = .returned (.agg #[.int .i64 b, .int .i64 ww, .int .i64 s]) ∧ Below w.heap.size w w' := by
  go_enter Try.func55, Try.ntmps55
  go_wp2
  exact bodyPost_ret (v := .agg #[.int .i64 b, .int .i64 ww, .int .i64 s]) (by simp [results, Try.results55, go_sem]) rfl ⟨rfl, (((Below.refl _ _).alloc (Nat.le_refl _) _).alloc (by simp) _).alloc (by simp; omega) _⟩
set_option maxHeartbeats 2000000 in
theorem eqSieve_self (b ww s : Int) (w : World) : Calls Try.prog 56 #[.agg #[.int .i64 b, .int .i64 ww, .int .i64 s], .agg #[.int .i64 b, .int .i64 ww, .int .i64 s]] w fun e w' => e = .returned (.bool true) ∧ Below w.heap.size w w' := by
  have h1 : (b != b) = false := by simp
  have h2 : (ww != ww) = false := by simp
  have h3 : (s != s) = false := by simp
  go_enter Try.func56, Try.ntmps56
  go_wp2
  go_ret
  exact ⟨rfl, ((Below.refl _ _).alloc (Nat.le_refl _) _).alloc (by simp) _⟩


set_option maxHeartbeats 4000000 in
theorem lawExactValidSieve (b ww s : Int) (w : World) : Calls Try.prog 12 #[.agg #[.int .i64 b, .int .i64 ww, .int .i64 s]] w fun e w' => e = .returned (.bool true) ∧ Below w.heap.size w w' := by
  have B0 := (Below.refl w.heap.size w).alloc (Nat.le_refl _) (.cells #[.int .i64 b, .int .i64 ww, .int .i64 s] 54)
  have x0 := LBox.new w b ww s
  obtain ⟨W0, hW0⟩ : ∃ W0, W0 = w.alloc (.cells #[.int .i64 b, .int .i64 ww, .int .i64 s] 54) := ⟨_, rfl⟩
  rw [← hW0] at B0 x0
  have HW0 := Lib.hid hW0
  clear hW0
  obtain ⟨R0, hR0⟩ : ∃ R : Bool, R = VSv b ww s := ⟨_, rfl⟩
  have eR0 : (R0 != R0) = false := by simp
  have HR0 := Lib.hid hR0
  clear hR0
  go_enter Try.func12, Try.ntmps12
  go_wp2_with fail
  rw [← HW0.out]
  refine (toSieve_any b ww s _).mono ?_
  rintro e w1 ⟨rfl, b1⟩
  have B1 := B0.trans (b1.mono B0.size)
  have x1 := x0.belowAll b1
  clear x0 b1
  go_wp2_with fail
  refine (specValidSieve_any b ww s _).mono ?_
  rintro e w2 ⟨rfl, b2⟩
  have B2 := B1.trans (b2.mono B1.size)
  have x2 := x1.belowAll b2
  clear x1 b2
  have p0 := x2.c0
  have p1 := x2.c1
  have p2 := x2.c2
  rw [← HR0.out]
  go_wp2_with fail
  refine (toSieve_any b ww s _).mono ?_
  rintro e w3 ⟨rfl, b3⟩
  have B3 := B2.trans (b3.mono B2.size)
  go_wp2_with fail
  refine (implValidSieve_any b ww s _).mono ?_
  rintro e w4 ⟨rfl, b4⟩
  have B4 := B3.trans (b4.mono B3.size)
  rw [← HR0.out]
  go_wp2
  go_ret
  exact ⟨rfl, B4⟩

set_option maxHeartbeats 4000000 in
theorem lawExactMarksOf (b ww s : Int) (k : Int) (w : World) (_hk : In64 k) : Calls Try.prog 13 #[.agg #[.int .i64 b, .int .i64 ww, .int .i64 s], .int .i64 k] w fun e w' => e = .returned (.bool true) ∧ Below w.heap.size w w' := by
  have B0 := (Below.refl w.heap.size w).alloc (Nat.le_refl _) (.cells #[.int .i64 b, .int .i64 ww, .int .i64 s] 54)
  have x0 := LBox.new w b ww s
  obtain ⟨W0, hW0⟩ : ∃ W0, W0 = w.alloc (.cells #[.int .i64 b, .int .i64 ww, .int .i64 s] 54) := ⟨_, rfl⟩
  rw [← hW0] at B0 x0
  have HW0 := Lib.hid hW0
  clear hW0
  obtain ⟨R0, hR0⟩ : ∃ R : Int, R = MKS b ww s k := ⟨_, rfl⟩
  have eR0 : (R0 != R0) = false := by simp
  have HR0 := Lib.hid hR0
  clear hR0
  go_enter Try.func13, Try.ntmps13
  go_wp2_with fail
  rw [← HW0.out]
  refine (toSieve_any b ww s _).mono ?_
  rintro e w1 ⟨rfl, b1⟩
  have B1 := B0.trans (b1.mono B0.size)
  have x1 := x0.belowAll b1
  clear x0 b1
  go_wp2_with fail
  refine (specMarksOf_any b ww s k _).mono ?_
  rintro e w2 ⟨rfl, b2⟩
  have B2 := B1.trans (b2.mono B1.size)
  have x2 := x1.belowAll b2
  clear x1 b2
  have p0 := x2.c0
  have p1 := x2.c1
  have p2 := x2.c2
  rw [← HR0.out]
  go_wp2_with fail
  refine (toSieve_any b ww s _).mono ?_
  rintro e w3 ⟨rfl, b3⟩
  have B3 := B2.trans (b3.mono B2.size)
  go_wp2_with fail
  refine (implMarksOf_any b ww s k _).mono ?_
  rintro e w4 ⟨rfl, b4⟩
  have B4 := B3.trans (b4.mono B3.size)
  rw [← HR0.out]
  go_wp2
  go_ret
  exact ⟨rfl, B4⟩

set_option maxHeartbeats 4000000 in
theorem lawExactAddKey (b ww s : Int) (k : Int) (w : World) (_hk : In64 k) : Calls Try.prog 14 #[.agg #[.int .i64 b, .int .i64 ww, .int .i64 s], .int .i64 k] w fun e w' => e = .returned (.bool true) ∧ Below w.heap.size w w' := by
  have B0 := (Below.refl w.heap.size w).alloc (Nat.le_refl _) (.cells #[.int .i64 b, .int .i64 ww, .int .i64 s] 54)
  have x0 := LBox.new w b ww s
  obtain ⟨W0, hW0⟩ : ∃ W0, W0 = w.alloc (.cells #[.int .i64 b, .int .i64 ww, .int .i64 s] 54) := ⟨_, rfl⟩
  rw [← hW0] at B0 x0
  have HW0 := Lib.hid hW0
  clear hW0
  obtain ⟨R0, hR0⟩ : ∃ R : Int, R = ADb b ww s k := ⟨_, rfl⟩
  have eR0 : (R0 != R0) = false := by simp
  have HR0 := Lib.hid hR0
  clear hR0
  obtain ⟨R1, hR1⟩ : ∃ R : Int, R = ADw b ww s k := ⟨_, rfl⟩
  have eR1 : (R1 != R1) = false := by simp
  have HR1 := Lib.hid hR1
  clear hR1
  obtain ⟨R2, hR2⟩ : ∃ R : Int, R = ADs b ww s k := ⟨_, rfl⟩
  have eR2 : (R2 != R2) = false := by simp
  have HR2 := Lib.hid hR2
  clear hR2
  obtain ⟨R3, hR3⟩ : ∃ R : Bool, R = ADo b ww s k := ⟨_, rfl⟩
  have eR3 : (R3 != R3) = false := by simp
  have HR3 := Lib.hid hR3
  clear hR3
  go_enter Try.func14, Try.ntmps14
  go_wp2_with fail
  rw [← HW0.out]
  refine (toSieve_any b ww s _).mono ?_
  rintro e w1 ⟨rfl, b1⟩
  have B1 := B0.trans (b1.mono B0.size)
  have x1 := x0.belowAll b1
  clear x0 b1
  go_wp2_with fail
  refine (specAddKey_any b ww s k _).mono ?_
  rintro e w2 ⟨rfl, b2⟩
  have B2 := B1.trans (b2.mono B1.size)
  have x2 := x1.belowAll b2
  clear x1 b2
  have p0 := x2.c0
  have p1 := x2.c1
  have p2 := x2.c2
  rw [← HR0.out]
  rw [← HR1.out]
  rw [← HR2.out]
  rw [← HR3.out]
  have n0 := World.new_ne w2 _ p0
  have z2 := B2.size
  have B2a := B2.alloc z2 (.cells #[.int .i64 R0, .int .i64 R1, .int .i64 R2] 24)
  have y2 := SBox.new w2 R0 R1 R2
  obtain ⟨V2, hV2⟩ : ∃ V2, V2 = w2.alloc (.cells #[.int .i64 R0, .int .i64 R1, .int .i64 R2] 24) := ⟨_, rfl⟩
  have x2a := x2.belowAll ((Below.refl _ _).alloc (Nat.le_refl _) (.cells #[.int .i64 R0, .int .i64 R1, .int .i64 R2] 24))
  rw [← hV2] at B2a y2 x2a
  have HV2 := Lib.hid hV2
  have r0 := x2a.c0
  have r1 := x2a.c1
  have r2 := x2a.c2
  clear hV2
  go_upto_region 2 with fail
  rw [← HV2.out]
  clear p0 p1 p2 n0
  go_wp2_with fail
  refine (toSieve_any b ww s _).mono ?_
  rintro e w3 ⟨rfl, b3⟩
  have B3 := B2a.trans (b3.mono B2a.size)
  have y3 := y2.belowAll b3
  clear y2 b3 x2 x2a r0 r1 r2
  go_wp2_with fail
  refine (implAddKey_any b ww s k _).mono ?_
  rintro e w4 ⟨rfl, b4⟩
  have B4 := B3.trans (b4.mono B3.size)
  have y4 := y3.belowAll b4
  clear y3 b4
  have q0 := y4.c0
  have q1 := y4.c1
  have q2 := y4.c2
  have n0 := World.new_ne w4 _ q0
  rw [← HR0.out]
  rw [← HR1.out]
  rw [← HR2.out]
  rw [← HR3.out]
  have B4a := B4.alloc B4.size (.cells #[.int .i64 R0, .int .i64 R1, .int .i64 R2] 24)
  obtain ⟨V4, hV4⟩ : ∃ V4, V4 = w4.alloc (.cells #[.int .i64 R0, .int .i64 R1, .int .i64 R2] 24) := ⟨_, rfl⟩
  have y4a := y4.belowAll ((Below.refl _ _).alloc (Nat.le_refl _) (.cells #[.int .i64 R0, .int .i64 R1, .int .i64 R2] 24))
  have v4 := SBox.new w4 R0 R1 R2
  rw [← hV4] at B4a y4a v4
  have HV4 := Lib.hid hV4
  have r0 := y4a.c0
  have r1 := y4a.c1
  have r2 := y4a.c2
  have v0 := v4.c0
  have v1 := v4.c1
  have v2 := v4.c2
  clear hV4
  go_upto_region 3 with fail
  rw [← HV4.out]
  clear q0 q1 q2 n0
  go_wp2_with fail
  refine (eqSieve_self R0 R1 R2 _).mono ?_
  rintro e w5 ⟨rfl, b5⟩
  have B5 := B4a.trans (b5.mono B4a.size)
  go_wp2
  go_ret
  exact ⟨rfl, B5⟩

set_option maxHeartbeats 4000000 in
theorem lawExactMayHave (b ww s : Int) (k : Int) (w : World) (_hk : In64 k) : Calls Try.prog 15 #[.agg #[.int .i64 b, .int .i64 ww, .int .i64 s], .int .i64 k] w fun e w' => e = .returned (.bool true) ∧ Below w.heap.size w w' := by
  have B0 := (Below.refl w.heap.size w).alloc (Nat.le_refl _) (.cells #[.int .i64 b, .int .i64 ww, .int .i64 s] 54)
  have x0 := LBox.new w b ww s
  obtain ⟨W0, hW0⟩ : ∃ W0, W0 = w.alloc (.cells #[.int .i64 b, .int .i64 ww, .int .i64 s] 54) := ⟨_, rfl⟩
  rw [← hW0] at B0 x0
  have HW0 := Lib.hid hW0
  clear hW0
  obtain ⟨R0, hR0⟩ : ∃ R : Bool, R = MHS b ww s k := ⟨_, rfl⟩
  have eR0 : (R0 != R0) = false := by simp
  have HR0 := Lib.hid hR0
  clear hR0
  go_enter Try.func15, Try.ntmps15
  go_wp2_with fail
  rw [← HW0.out]
  refine (toSieve_any b ww s _).mono ?_
  rintro e w1 ⟨rfl, b1⟩
  have B1 := B0.trans (b1.mono B0.size)
  have x1 := x0.belowAll b1
  clear x0 b1
  go_wp2_with fail
  refine (specMayHave_any b ww s k _).mono ?_
  rintro e w2 ⟨rfl, b2⟩
  have B2 := B1.trans (b2.mono B1.size)
  have x2 := x1.belowAll b2
  clear x1 b2
  have p0 := x2.c0
  have p1 := x2.c1
  have p2 := x2.c2
  rw [← HR0.out]
  go_wp2_with fail
  refine (toSieve_any b ww s _).mono ?_
  rintro e w3 ⟨rfl, b3⟩
  have B3 := B2.trans (b3.mono B2.size)
  go_wp2_with fail
  refine (implMayHave_any b ww s k _).mono ?_
  rintro e w4 ⟨rfl, b4⟩
  have B4 := B3.trans (b4.mono B3.size)
  rw [← HR0.out]
  go_wp2
  go_ret
  exact ⟨rfl, B4⟩

set_option maxHeartbeats 4000000 in
theorem lawExactHowMany (b ww s : Int) (w : World) : Calls Try.prog 16 #[.agg #[.int .i64 b, .int .i64 ww, .int .i64 s]] w fun e w' => e = .returned (.bool true) ∧ Below w.heap.size w w' := by
  have B0 := (Below.refl w.heap.size w).alloc (Nat.le_refl _) (.cells #[.int .i64 b, .int .i64 ww, .int .i64 s] 54)
  have x0 := LBox.new w b ww s
  obtain ⟨W0, hW0⟩ : ∃ W0, W0 = w.alloc (.cells #[.int .i64 b, .int .i64 ww, .int .i64 s] 54) := ⟨_, rfl⟩
  rw [← hW0] at B0 x0
  have HW0 := Lib.hid hW0
  clear hW0
  obtain ⟨R0, hR0⟩ : ∃ R : Int, R = HMS b ww s := ⟨_, rfl⟩
  have eR0 : (R0 != R0) = false := by simp
  have HR0 := Lib.hid hR0
  clear hR0
  go_enter Try.func16, Try.ntmps16
  go_wp2_with fail
  rw [← HW0.out]
  refine (toSieve_any b ww s _).mono ?_
  rintro e w1 ⟨rfl, b1⟩
  have B1 := B0.trans (b1.mono B0.size)
  have x1 := x0.belowAll b1
  clear x0 b1
  go_wp2_with fail
  refine (specHowMany_any b ww s _).mono ?_
  rintro e w2 ⟨rfl, b2⟩
  have B2 := B1.trans (b2.mono B1.size)
  have x2 := x1.belowAll b2
  clear x1 b2
  have p0 := x2.c0
  have p1 := x2.c1
  have p2 := x2.c2
  rw [← HR0.out]
  go_wp2_with fail
  refine (toSieve_any b ww s _).mono ?_
  rintro e w3 ⟨rfl, b3⟩
  have B3 := B2.trans (b3.mono B2.size)
  go_wp2_with fail
  refine (implHowMany_any b ww s _).mono ?_
  rintro e w4 ⟨rfl, b4⟩
  have B4 := B3.trans (b4.mono B3.size)
  rw [← HR0.out]
  go_wp2
  go_ret
  exact ⟨rfl, B4⟩
section
open Go.Joins Go.ChangeShapes Go.WideShapes
variable {H : Type} {enc : TypeId × Value → H} {w : World} {base : Nat} {spare : Nat → Bool} {held : Bool}
theorem cellsSieve : Try.prog.cellsOf 54 = 3 := by kernel_rfl
set_option maxRecDepth 100000 in
/-- A sieve that came in. -/
theorem open_sieve {r : Reach} {b0 : Nat} {v : Value} {d : DataW H} {p : List MemPlace} (hv : Value.okWide Try.prog w r b0 54 v) (h : DataW.Trod enc Try.prog w base spare held 54 v d p) :
    ∃ b ww s, v = .agg #[.int .i64 b, .int .i64 ww, .int .i64 s] ∧ d = .agg [.lit (.int .i64 b), .lit (.int .i64 ww), .lit (.int .i64 s)] ∧ p = [] ∧ (Lit.int .i64 b).wf = true ∧ (Lit.int .i64 ww).wf = true ∧ (Lit.int .i64 s).wf = true := by
  obtain ⟨c0, c1, c2, y0, y1, y2, n, rfl, rfl, rfl, h0, h1, h2⟩ := open_agg3 Try.underlying54 (by kernel_rfl) cellsSieve hv h
  obtain ⟨b, e0, rfl, w0⟩ := DataW.trod_int Try.underlying3 h0
  obtain ⟨ww, e1, rfl, w1⟩ := DataW.trod_int Try.underlying3 h1
  obtain ⟨s, e2, rfl, w2⟩ := DataW.trod_int Try.underlying3 h2
  simp only [List.cons.injEq, and_true] at e0 e1 e2
  subst e0; subst e1; subst e2
  exact ⟨b, ww, s, rfl, rfl, rfl, w0, w1, w2⟩
set_option maxRecDepth 100000 in
theorem shut_sieve {b ww s : Int} (w0 : (Lit.int .i64 b).wf = true) (w1 : (Lit.int .i64 ww).wf = true) (w2 : (Lit.int .i64 s).wf = true) :
    DataW.Trod enc Try.prog w base spare held 54 (.agg #[.int .i64 b, .int .i64 ww, .int .i64 s]) (.agg [.lit (.int .i64 b), .lit (.int .i64 ww), .lit (.int .i64 s)]) [] :=
  shut_agg3 (y0 := (.lit (.int .i64 b), [])) (y1 := (.lit (.int .i64 ww), [])) (y2 := (.lit (.int .i64 s), [])) Try.underlying54 (by kernel_rfl) cellsSieve
    (shut_int (t := 3) Try.underlying3 w0) (shut_int (t := 3) Try.underlying3 w1) (shut_int (t := 3) Try.underlying3 w2)
end
end Go.Proofs.Ytjkcahmbocjacaa
