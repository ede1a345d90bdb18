/-
  slices.Clone and slices.Sort of ints, impl.wholeOf.
-/
import Derived.Test.YtoaiaindcmihjaaGreatDoorO7
import Derived.Test.YtoaiaindcmihjaaGreatDoorOPa
import Derived.Test.YtoaiaindcmihjaaGreatDoorOSs
import Derived.Sort.OwnSortedInts
import Derived.Lib.SliceRun
namespace Go.Proofs.YtoaiaindcmihjaaGreatDoor
open Go.RowKit

/-- A result that is a struct in a variable. -/
theorem ret_row {P : Program} {fn : Func} {R : Ending → World → Prop} {a : Act} {w : World} {p : Tmp} {ty : TypeId} (hf : fn.results = #[.cell p ty]) (hd : a.defers = [])
    (g : Nat) (hp : a.tmps.getD p undef = .pointer (some ⟨g, 0, none⟩)) (t : Nat) (cs : Array Value) (hg : w.heap[g]? = some (.cells cs t (0, 0))) (d : TypeDesc)
    (hu : P.underlying ty = some d) (hdd : (match d with | .struct _ | .array _ _ => true | _ => false) = true) (hi : (P.info? ty).map (·.size) = some cs.size) (hR : R (.returned (.agg cs)) w) : bodyPost P fn R .ret a w :=
  bodyPost_ret (results_cell_row hf a.tmps w g t cs (0, 0) _ hp hg hu hdd hi) hd hR
theorem eql_nil (w : World) (a : Option Addr) (n c : Nat) : (binOp .eql 23 (.slice a n c) (.slice none 0 0)).run Tryz.prog w = .ok (.bool a.isNone) w := Go.Lib.run_eql_slice_nil w _ _ a n c 0 0 Tryz.underlying23
set_option maxHeartbeats 2000000 in
set_option maxRecDepth 100000 in
theorem cloneI_any (a : Option Addr) (l : List Int) (cap : Nat) (w : World) (hr : Reads w a l) (hl : l.length < 2000000) :
    Calls Tryz.prog 53 #[.slice a l.length cap] w fun e w' => ∃ v, e = .returned v ∧ Own w' w.heap.size v l ∧ Below w.heap.size w w' := by
  cases a with
  | none =>
    have h0 : l = [] := by
      rcases hr with h | ⟨b, off, h, _⟩
      · exact h
      · cases h
    subst h0
    have q := fun w n c => eql_nil w none n c
    go_enter Tryz.func53, Tryz.ntmps53
    go_wp2
    go_ret
    exact ⟨_, rfl, Own.nil _ _, Below.refl _ _⟩
  | some A =>
    have o1 := Own.lit0 w w.heap.size (Nat.le_refl _)
    have b1 := (Below.refl w.heap.size w).alloc (Nat.le_refl _) (.cells #[] 3)
    have hr1 := hr.below b1
    obtain ⟨M, hM⟩ : ∃ M, M = l.length := ⟨_, rfl⟩
    rw [← hM] at hl ⊢
    have HM := Lib.hid hM
    clear hM
    have q := fun w n c => eql_nil w (some A) n c
    go_enter Tryz.func53, Tryz.ntmps53
    go_wp2_with (at_builtin; refine push_allZ rfl (.tmp 5) (.tmp 6) rfl w.heap.size _ [] rfl o1 b1.size (some A) l M cap HM.out.symm rfl hr1 hl (by simp) ?_)
    intro v2 w2 ho2 g2
    have b2 := Below.grownB b1 o1 g2 b1.size (Nat.le_refl _)
    go_wp2
    go_ret
    exact ⟨_, rfl, ho2, b2⟩
theorem srt_enc (l : List Int) : (l.mergeSort fun x y => decide (x ≤ y)) = srt l := rfl
theorem sortI_any (v : Value) (l : List Int) (base : Nat) (w : World) (ho : Own w base v l) (hl : l.length ≤ 1048586) :
    Calls Tryz.prog 54 #[v] w fun e w' => e = .returned (.tuple #[]) ∧ Own w' base v (srt l) ∧ w.grownBy w' v.ownBlock := by
  by_cases h0 : l = []
  · subst h0
    obtain ⟨a, cap, rfl, _, _, _, _⟩ := ho.form
    refine (AnyM.slices_Sort_int_none Tryz.sortA a cap w).mono ?_
    rintro e w' ⟨rfl, rfl⟩
    exact ⟨rfl, by rw [show srt [] = [] by simp [srt]]; exact ho, ⟨rfl, rfl, rfl, Nat.le_refl _, fun _ _ _ => rfl⟩⟩
  · have hne : l.length ≠ 0 := fun h => h0 (List.eq_nil_of_length_eq_zero h)
    rcases ho.2 with ⟨_, h1⟩ | ⟨g, cap, cur, rfl, hbg, hg, hnc, hcm, hsz, htk⟩
    · exact absurd h1 hne
    rw [Nat.mul_one] at htk
    have hH := Go.holds_of_blockI (ss := l) hg htk
    refine (AnyM.slices_Sort_int Tryz.sortA g 0 cap l w hH (Array.getElem?_eq_some_iff.1 hg).1 (by omega)).mono ?_
    rintro e w' ⟨rfl, n, os, rfl⟩
    rw [srt_enc]
    refine ⟨rfl, ?_, Go.grownBy_sortedI _⟩
    have := Go.ownsRow_sortedI (n := n) (os := os) (base := base) (ts := srt l) (ss := l) (srt_len l) hbg hg hnc hcm hsz
    unfold Own
    rw [srt_len]
    exact this
/-- A part in a variable. -/
def PBox (w : World) (g : Nat) (v : Value) (d e : Int) : Prop := w.heap[g]? = some (.cells #[v, .int .i64 d, .int .i64 e] 48 (0, 0))
section
variable {w : World} {g : Nat} {d e : Int} {v : Value}
theorem PBox.lt (h : PBox w g v d e) : g < w.heap.size := (Array.getElem?_eq_some_iff.1 h).1
theorem PBox.c0 (h : PBox w g v d e) : w.cell? ⟨g, 0, none⟩ = some v := by rw [cell_of_row w g 0 _ _ _ h]; rfl
theorem PBox.c1 (h : PBox w g v d e) : w.cell? ⟨g, 1, none⟩ = some (.int .i64 d) := by rw [cell_of_row w g 1 _ _ _ h]; rfl
theorem PBox.c2 (h : PBox w g v d e) : w.cell? ⟨g, 2, none⟩ = some (.int .i64 e) := by rw [cell_of_row w g 2 _ _ _ h]; rfl
theorem PBox.fz (h : PBox w g v d e) (k : Nat) : w.frozen? ⟨g, k, none⟩ = false := frozen_of_row w g k _ _ h
theorem PBox.other {g' : Nat} (h : PBox w g v d e) (hne : g ≠ g') (k : Nat) (x : Value) : PBox (w.setCell ⟨g', k, none⟩ x) g v d e := by
  unfold PBox
  rw [heap_setCell_other w ⟨g', k, none⟩ g x hne]; exact h
theorem PBox.alloc (h : PBox w g v d e) (o : Obj) : PBox (w.alloc o) g v d e := (Below.heap_alloc w o g h.lt).trans h
theorem PBox.belowAll {w' : World} (hb : Below w.heap.size w w') (h : PBox w g v d e) : PBox w' g v d e := (hb.block g h.lt).trans h
theorem PBox.below {w' : World} {B : Nat} (hb : Below B w w') (hg : g < B) (h : PBox w g v d e) : PBox w' g v d e := (hb.block g hg).trans h
theorem PBox.put (h : PBox w g v d e) (v' : Value) (d' e' : Int) : PBox (((w.setCell ⟨g, 0, none⟩ v').setCell ⟨g, 1, none⟩ (.int .i64 d')).setCell ⟨g, 2, none⟩ (.int .i64 e')) g v' d' e' := by
  unfold PBox at h ⊢
  have h1 := heap_setCell_same w g 0 _ _ v' h
  have h2 := heap_setCell_same _ g 1 _ _ (.int .i64 d') h1
  rw [heap_setCell_same _ g 2 _ _ (.int .i64 e') h2]
  rfl
end
theorem PBox.new (w : World) (v : Value) (d e : Int) : PBox (w.alloc (.cells #[v, .int .i64 d, .int .i64 e] 48)) w.heap.size v d e := heap_alloc_new w _
theorem below_put3p {B : Nat} {w w' : World} (h : Below B w w') {g : Nat} (hg : B ≤ g) (x y z : Value) : Below B w (((w'.setCell ⟨g, 0, none⟩ x).setCell ⟨g, 1, none⟩ y).setCell ⟨g, 2, none⟩ z) :=
  ((h.setCell (p := ⟨g, 0, none⟩) hg x).setCell (p := ⟨g, 1, none⟩) hg y).setCell (p := ⟨g, 2, none⟩) hg z
/-- A part, handed back out of a variable. -/
theorem ret_part {fn : Func} {R : Ending → World → Prop} {a : Act} {w : World} {p : Tmp} (hf : fn.results = #[.cell p 48]) (hd : a.defers = [])
    (g : Nat) (hp : a.tmps.getD p undef = .pointer (some ⟨g, 0, none⟩)) (v : Value) (d e : Int) (hg : PBox w g v d e) (hR : R (.returned (.agg #[v, .int .i64 d, .int .i64 e])) w) : bodyPost Tryz.prog fn R .ret a w :=
  bodyPost_ret (results_cell_row hf a.tmps w g _ _ (0, 0) _ hp hg Tryz.underlying48 rfl (by kernel_rfl)) hd hR
theorem grownBy_setP (w : World) (g k : Nat) (v : Value) : w.grownBy (w.setCell ⟨g, k, none⟩ v) (some g) := ⟨rfl, rfl, rfl, by simp, fun j _ hn => heap_setCell_other w ⟨g, k, none⟩ j _ (fun q => hn (by rw [q]))⟩
set_option maxHeartbeats 2000000 in
theorem wholeOf_any (a : Option Addr) (l : List Int) (cap : Nat) (w : World) (hr : Reads w a l) (hl : l.length ≤ 1048586) :
    Calls Tryz.prog 31 #[.slice a l.length cap] w fun e w' => ∃ v, e = .returned (.agg #[v, .int .i64 0, .int .i64 0]) ∧ Own w' (w.heap.size + 1) v (srt l) ∧ Below w.heap.size w w' ∧ w.heap.size + 1 ≤ w'.heap.size := by
  have b0 := (Below.refl w.heap.size w).alloc (Nat.le_refl _) (.cells #[.slice none 0 0, .int .i64 0, .int .i64 0] 48)
  have hr1 := hr.below b0
  have x0 := PBox.new w (.slice none 0 0) 0 0
  obtain ⟨w1, e1⟩ : ∃ w1, w1 = w.alloc (.cells #[.slice none 0 0, .int .i64 0, .int .i64 0] 48) := ⟨_, rfl⟩
  have hz1 : w1.heap.size = w.heap.size + 1 := by rw [e1]; simp
  rw [← e1] at b0 hr1 x0
  have cC := cloneI_any a l cap w1 hr1 (by omega)
  obtain ⟨M, hM⟩ : ∃ M, M = l.length := ⟨_, rfl⟩
  rw [← hM] at cC ⊢
  have C := Lib.hid cC
  have E1 := Lib.hid e1
  clear cC e1 hM
  go_enter Tryz.func31, Tryz.ntmps31
  go_wp2_with fail
  rw [← E1.out]
  refine C.out.mono ?_
  rintro e w2 ⟨v, rfl, o2, b2⟩
  have S := Lib.hid (sortI_any v l w1.heap.size w2 o2 hl)
  go_wp2_with fail
  refine S.out.mono ?_
  rintro e w3 ⟨rfl, o3, g3⟩
  have b3 := Below.grownB b2 o2 g3 b2.size (Nat.le_refl _)
  have x3 := PBox.belowAll b3 x0
  have B3 := b0.trans (b3.mono b0.size)
  have hz3 := b3.size
  obtain ⟨sa, sc, rfl, _, _, _, _⟩ := o3.form
  have y0 := x3.c0
  have y1 := x3.c1
  have y2 := x3.c2
  have z0 := x3.fz 0
  have z1 := x3.fz 1
  have z2 := x3.fz 2
  have x4 := x3.put (.slice sa (srt l).length sc) 0 0
  have B4 := below_put3p B3 (Nat.le_refl _) (.slice sa (srt l).length sc) (.int .i64 0) (.int .i64 0)
  have o4 : Own (((w3.setCell ⟨w.heap.size, 0, none⟩ (.slice sa (srt l).length sc)).setCell ⟨w.heap.size, 1, none⟩ (.int .i64 0)).setCell ⟨w.heap.size, 2, none⟩ (.int .i64 0)) (w.heap.size + 1) (.slice sa (srt l).length sc) (srt l) := by
    rw [← hz1]
    have hne : ∀ k, (Value.slice sa (srt l).length sc).ownBlock = some k → k ≠ w.heap.size := fun k hk => by have := (o3.lt k hk).1; omega
    have nn : (Value.slice sa (srt l).length sc).ownBlock = none ∨ (Value.slice sa (srt l).length sc).ownBlock ≠ some w.heap.size := .inr (fun h => hne _ h rfl)
    exact ((o3.kept (grownBy_setP _ _ _ _) nn).kept (grownBy_setP _ _ _ _) nn).kept (grownBy_setP _ _ _ _) nn
  have O4 := Lib.hid o4
  clear o2 b2 g3 o3 b3 o4
  go_wp2
  exact ret_part rfl rfl _ rfl _ _ _ x4 ⟨_, rfl, O4.out, B4, by simp; omega⟩
end Go.Proofs.YtoaiaindcmihjaaGreatDoor
