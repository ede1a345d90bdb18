/-
  Arrays of ints in variables: a block whose cells are the numbers of a list; loads and stores of the whole.
-/
import Derived.Test.YtoaiaindcmihjaaGreatDoorBase
namespace Go.Proofs.YtoaiaindcmihjaaGreatDoor
open Go.RowKit

/-- The cells of an array of ints. -/
def arr (l : List Int) : Array Value := (l.map (Value.int .i64)).toArray
theorem arr_size (l : List Int) : (arr l).size = l.length := by simp [arr]

/-- Block g is a variable of the array type t that holds the numbers of the list. -/
def Arr (w : World) (t g : Nat) (l : List Int) : Prop := w.heap[g]? = some (.cells (arr l) t (0, 0))

section
variable {w : World} {t g : Nat} {l : List Int}
theorem Arr.lt (h : Arr w t g l) : g < w.heap.size := (Array.getElem?_eq_some_iff.1 h).1
theorem Arr.get (h : Arr w t g l) {k : Nat} (hk : k < l.length) : ∃ x, w.cell? ⟨g, k, none⟩ = some (.int .i64 x) ∧ Hid (l.getD k 0 = x) :=
  ⟨_, by rw [cell_of_row w g k _ t _ h]; simp [arr, List.getD, hk], rfl⟩
theorem Arr.frozen (h : Arr w t g l) (k : Nat) : w.frozen? ⟨g, k, none⟩ = false := frozen_of_row w g k _ t h
theorem Arr.store (h : Arr w t g l) (k : Nat) (x : Int) : Arr (w.setCell ⟨g, k, none⟩ (.int .i64 x)) t g (l.set k x) := by
  unfold Arr
  rw [heap_setCell_same w g k _ t _ h]
  simp [arr, List.map_set]
theorem Arr.other {g' : Nat} (h : Arr w t g l) (hne : g ≠ g') (k : Nat) (v : Value) : Arr (w.setCell ⟨g', k, none⟩ v) t g l := by
  unfold Arr
  rw [heap_setCell_other w ⟨g', k, none⟩ g v hne]; exact h
theorem Arr.below {B : Nat} {w' : World} (h : Arr w t g l) (hb : Below B w w') (hg : g < B) : Arr w' t g l := (hb.block g hg).trans h
theorem Arr.belowAll {w' : World} (hb : Below w.heap.size w w') (h : Arr w t g l) : Arr w' t g l := h.below hb h.lt
theorem Arr.kept {w' : World} {row : Option Nat} (h : Arr w t g l) (hg : w.grownBy w' row) (hne : some g ≠ row) : Arr w' t g l := (hg.block g h.lt hne).trans h
theorem Arr.alloc (h : Arr w t g l) (o : Obj) : Arr (w.alloc o) t g l := (Below.heap_alloc w o g h.lt).trans h
theorem Arr.new (w : World) (t : Nat) (l : List Int) : Arr (w.alloc (.cells (arr l) t)) t w.heap.size l := heap_alloc_new w _
theorem Arr.drewN (h : Arr w t g l) (n : Nat) : Arr (w.drewN n) t g l := h
end

theorem arr_zero5 : arr (List.replicate 5 0) = #[.int .i64 0, .int .i64 0, .int .i64 0, .int .i64 0, .int .i64 0] := rfl
theorem arr_zero10 : arr (List.replicate 10 0) = #[.int .i64 0, .int .i64 0, .int .i64 0, .int .i64 0, .int .i64 0, .int .i64 0, .int .i64 0, .int .i64 0, .int .i64 0, .int .i64 0] := rfl

section
variable {P : Program}
/-- The whole array is loaded. -/
theorem load_arr {w : World} {ops : Array Oper} {rest : List Oper} {o : Oper} {a : Act} {Q : Exit → Act → World → Prop} (hgd : o.guard = none) (ty : TypeId) (x : Operand) (ho : o.op = .load ty x)
    (g : Nat) (hx : a.eval x = .pointer (some ⟨g, 0, none⟩)) (t e n : Nat) (l : List Int) (hg : Arr w t g l)
    (hu : P.underlying ty = some (.array n e)) (hi : (P.info? ty).map (·.size) = some n) (hl : l.length = n)
    (h : wpList P ops Q rest (a.put o.dst (.agg (arr l))) w) : wpList P ops Q (o :: rest) a w :=
  wpList_load_row hgd ty x ho g hx t (arr l) (0, 0) _ hg hu rfl (by rw [hi, arr_size, hl]) h

/-- The same, of an operation that is guarded. -/
theorem load_arr_g {w : World} {ops : Array Oper} {rest : List Oper} {o : Oper} {a : Act} {Q : Exit → Act → World → Prop} (hwn : Region.wanted o (yielded ops a.tmps) = true) (ty : TypeId) (x : Operand) (ho : o.op = .load ty x)
    (g : Nat) (hx : a.eval x = .pointer (some ⟨g, 0, none⟩)) (t e n : Nat) (l : List Int) (hg : Arr w t g l)
    (hu : P.underlying ty = some (.array n e)) (hi : (P.info? ty).map (·.size) = some n) (hl : l.length = n)
    (h : wpList P ops Q rest (a.put o.dst (.agg (arr l))) w) : wpList P ops Q (o :: rest) a w :=
  wpList_step fun _ hK => by
    rw [if_pos hwn]
    exact wp_load_row ty x ho g hx t (arr l) (0, 0) _ hg hu rfl (by rw [hi, arr_size, hl]) (hK _ _ h)

/-- The whole array is stored. -/
theorem store_arr {w : World} {ops : Array Oper} {rest : List Oper} {o : Oper} {a : Act} {Q : Exit → Act → World → Prop} (hgd : o.guard = none) (ty : TypeId) (x y : Operand) (ho : o.op = .store ty x y)
    (g : Nat) (hx : a.eval x = .pointer (some ⟨g, 0, none⟩)) (l l0 : List Int) (hy : a.eval y = .agg (arr l)) (t n : Nat) (hg : Arr w t g l0)
    (hi : (P.info? ty).map (·.size) = some n) (hl : l.length = n) (hl0 : l0.length = n)
    (h : ∀ w', Arr w' t g l → w.grownBy w' (some g) → wpList P ops Q rest (a.put o.dst undef) w') : wpList P ops Q (o :: rest) a w := by
  refine wpList_plain hgd fun K hK => ?_
  cases hq : P.info? ty with
  | none => simp [hq] at hi
  | some i =>
    have hs : i.size = n := by simpa [hq] using hi
    have hst := run_storeCells_from (P := P) g t (arr l).toList 0 (arr l0) w hg (by simp [arr_size, hl, hl0]) (by
      intro v hv
      simp only [arr, List.toList_toArray] at hv
      obtain ⟨q, _, rfl⟩ := List.mem_map.1 hv
      rfl)
    have hw : (w.setRow g ((arr l0).toList.take 0 ++ (arr l).toList).toArray) = w.setRow g (arr l) := by simp
    rw [hw] at hst
    unfold Oper.wp execOp
    simp only [ho, hx, hy]
    simp [Instr.storeAt, Instr.sureAddr, Sem.run_bind, Result.andThen, storeVar, sizeOf, typeInfo, hq, hs, Value.cells, arr_size, hl, hst]
    have e1 : Arr (w.setRow g (arr l)) t g l := setRow_heap w g (arr l0) (arr l) t (0, 0) hg
    have e2 : w.grownBy (w.setRow g (arr l)) (some g) := ⟨rfl, rfl, rfl, by simp, fun k _ hk => setRow_other w g k _ (fun e => hk (by simp [e]))⟩
    exact hK _ _ (h _ e1 e2)

/-- A result that is an array in a variable. -/
theorem ret_arr {fn : Func} {R : Ending → World → Prop} {a : Act} {w : World} {p : Tmp} {ty : TypeId} (hf : fn.results = #[.cell p ty]) (hd : a.defers = [])
    (g : Nat) (hp : a.tmps.getD p undef = .pointer (some ⟨g, 0, none⟩)) (t e n : Nat) (l : List Int) (hg : Arr w t g l)
    (hu : P.underlying ty = some (.array n e)) (hi : (P.info? ty).map (·.size) = some n) (hl : l.length = n) (hR : R (.returned (.agg (arr l))) w) : bodyPost P fn R .ret a w :=
  bodyPost_ret (results_cell_row hf a.tmps w g t (arr l) (0, 0) _ hp hg hu rfl (by rw [hi, arr_size, hl])) hd hR

/-- Two results: an array in a variable, and a value. -/
theorem ret_arr2 {fn : Func} {R : Ending → World → Prop} {a : Act} {w : World} {p q : Tmp} {ty : TypeId} (hf : fn.results = #[.cell p ty, .tmp q]) (hd : a.defers = [])
    (g : Nat) (hp : a.tmps.getD p undef = .pointer (some ⟨g, 0, none⟩)) (t e n : Nat) (l : List Int) (hg : Arr w t g l)
    (hu : P.underlying ty = some (.array n e)) (hi : (P.info? ty).map (·.size) = some n) (hl : l.length = n) (v : Value) (hq : a.tmps.getD q undef = v) (hR : R (.returned (.tuple #[.agg (arr l), v])) w) : bodyPost P fn R .ret a w := by
  refine bodyPost_ret (v := .tuple #[.agg (arr l), v]) ?_ hd hR
  have hp' : a.tmps[p]?.getD undef = .pointer (some ⟨g, 0, none⟩) := by simpa using hp
  have hq' : a.tmps[q]?.getD undef = v := by simpa using hq
  have hl' := run_loadVar_row (P := P) w g t ty (arr l) (0, 0) _ hg hu rfl (by rw [hi, arr_size, hl])
  simp [results, hf, hp', hq', asAddr, hl']

/-- Block g is a variable of the array type t that holds the truth values of the list. -/
def BArr (w : World) (t g : Nat) (l : List Bool) : Prop := w.heap[g]? = some (.cells (l.map Value.bool).toArray t (0, 0))
section
variable {w : World} {t g : Nat} {l : List Bool}
theorem BArr.lt (h : BArr w t g l) : g < w.heap.size := (Array.getElem?_eq_some_iff.1 h).1
theorem BArr.get (h : BArr w t g l) {k : Nat} (hk : k < l.length) : ∃ x, w.cell? ⟨g, k, none⟩ = some (.bool x) ∧ Hid (l.getD k false = x) :=
  ⟨_, by rw [cell_of_row w g k _ t _ h]; simp [List.getD, hk], rfl⟩
theorem BArr.frozen (h : BArr w t g l) (k : Nat) : w.frozen? ⟨g, k, none⟩ = false := frozen_of_row w g k _ t h
theorem BArr.store (h : BArr w t g l) (k : Nat) (x : Bool) : BArr (w.setCell ⟨g, k, none⟩ (.bool x)) t g (l.set k x) := by
  unfold BArr
  rw [heap_setCell_same w g k _ t _ h]
  simp [List.map_set]
theorem BArr.other {g' : Nat} (h : BArr w t g l) (hne : g ≠ g') (k : Nat) (v : Value) : BArr (w.setCell ⟨g', k, none⟩ v) t g l := by
  unfold BArr
  rw [heap_setCell_other w ⟨g', k, none⟩ g v hne]; exact h
theorem BArr.kept {w' : World} {row : Option Nat} (h : BArr w t g l) (hg : w.grownBy w' row) (hne : some g ≠ row) : BArr w' t g l := (hg.block g h.lt hne).trans h
theorem BArr.belowAll {w' : World} (hb : Below w.heap.size w w') (h : BArr w t g l) : BArr w' t g l := (hb.block g h.lt).trans h
theorem BArr.new (w : World) (t : Nat) (l : List Bool) : BArr (w.alloc (.cells (l.map Value.bool).toArray t)) t w.heap.size l := heap_alloc_new w _
end
end
theorem eq_loop {P : Program} {w : World} (f : Nat → Sem (ForInStep (Option Bool × Unit))) (b : Nat → Bool) : ∀ l : List Nat, (∀ i ∈ l, (f i).run P w = .ok (if b i = false then ForInStep.done (some false, ()) else ForInStep.yield (none, ())) w) →
    (forIn l ((none : Option Bool), ()) (fun i _ => f i)).run P w = .ok (if l.all b = true then (none, ()) else (some false, ())) w := by
  intro l
  induction l with
  | nil => intro _; simp
  | cons i l ih =>
    intro h
    have h1 := h i (by simp)
    have ih' := ih (fun j hj => h j (by simp [hj]))
    rw [List.forIn_cons, Sem.run_bind, h1]
    by_cases hb : b i = true
    · simp only [hb, Bool.true_eq_false, if_false, Result.andThen_ok, List.all_cons, Bool.true_and]
      exact ih'
    · have hb' : b i = false := by simpa using hb
      simp [hb', Result.andThen]

theorem run_equalIn_arr {P : Program} (w : World) (d : Nat) (t e n : Nat) (k : IntKind) (A B : List Int) (hA : A.length = n) (hB : B.length = n) (hu : P.underlying t = some (.array n e)) (hue : P.underlying e = some (.int k))
    (hs : ∀ w, (sizeOf e).run P w = .ok 1 w) (ha : ∀ w, (isAgg e).run P w = .ok false w) :
    (Op.equalIn (d + 2) t (.agg (arr A)) (.agg (arr B))).run P w = .ok (decide (A = B)) w := by
  have hbody : ∀ i ∈ List.range' 0 n, (do
      let x ← part e (arr A) (i * 1)
      let y ← part e (arr B) (i * 1)
      let q ← Op.equalIn (d + 1) e x y
      if q = false then pure (ForInStep.done (some false, ())) else pure (ForInStep.yield ((none : Option Bool), ())) : Sem _).run P w
      = .ok (if (A.getD i 0 == B.getD i 0) = false then ForInStep.done (some false, ()) else ForInStep.yield (none, ())) w := by
    intro i hi
    have hi' : i < n := by simpa using hi
    have eA : (arr A)[i]? = some (.int .i64 (A.getD i 0)) := by simp [arr, List.getD, hA, hi']
    have eB : (arr B)[i]? = some (.int .i64 (B.getD i 0)) := by simp [arr, List.getD, hB, hi']
    have hEq := run_equalIn_int (P := P) w d e .i64 k (A.getD i 0) (B.getD i 0) hue
    simp only [Sem.run_bind, part, ha, Result.andThen_ok, Bool.false_eq_true, if_false, Nat.mul_one, eA, eB, Sem.run_pure, hEq]
    split <;> simp
  have hl := eq_loop _ _ _ hbody
  clear hbody
  simp only [Op.equalIn, Sem.run_bind, run_underlying hu, Result.andThen_ok, hs]
  simp only [Op.equalIn] at hl
  simp
  simp at hl
  rw [hl]
  by_cases h : A = B
  · subst h; simp [Result.andThen]
  · have : ¬ ∀ i, i < n → A.getD i 0 = B.getD i 0 := by
      intro hh
      apply h
      refine List.ext_getElem (by rw [hA, hB]) fun i h1 h2 => ?_
      have := hh i (by omega)
      simpa [List.getD, h1, h2] using this
    rw [if_neg (by simpa [List.getD] using this)]
    simp [h, Result.andThen]

/-- '==' of two arrays of ints. -/
theorem run_eql_arr {P : Program} (w : World) (t e n : Nat) (k : IntKind) (A B : List Int) (hA : A.length = n) (hB : B.length = n) (hu : P.underlying t = some (.array n e)) (hue : P.underlying e = some (.int k))
    (hs : ∀ w, (sizeOf e).run P w = .ok 1 w) (ha : ∀ w, (isAgg e).run P w = .ok false w) :
    (binOp .eql t (.agg (arr A)) (.agg (arr B))).run P w = .ok (.bool (decide (A = B))) w := by
  rw [run_eql_struct, run_equalIn_arr w 9998 t e n k A B hA hB hu hue hs ha]
  rfl

end Go.Proofs.YtoaiaindcmihjaaGreatDoor
