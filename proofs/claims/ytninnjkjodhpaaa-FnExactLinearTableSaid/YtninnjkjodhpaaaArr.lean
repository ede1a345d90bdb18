/-
  Arrays of ints in variables: a block whose cells are the numbers of a list; loads and stores of the whole.
-/
import Derived.Test.YtninnjkjodhpaaaBase
namespace Go.Proofs.Ytninnjkjodhpaaa
open Go.RowKit

/-- The cells of an array of ints. -/
def arr (l : List Int) : Array Value := (l.map (Value.int .i64)).toArray
theorem arr_size (l : List Int) : (arr l).size = l.length := by simp [arr]

/-- Block g is a variable of the array type t that holds the numbers of the list. -/
def Arr (w : World) (t g : Nat) (l : List Int) : Prop := w.heap[g]? = some (.cells (arr l) t (0, 0))

section
variable {w : World} {t g : Nat} {l : List Int}
theorem Arr.lt (h : Arr w t g l) : g < w.heap.size := (Array.getElem?_eq_some_iff.1 h).1
theorem Arr.get (h : Arr w t g l) {k : Nat} (hk : k < l.length) : ∃ x, w.cell? ⟨g, k, none⟩ = some (.int .i64 x) ∧ Hid (l.getD k 0 = x) :=
  ⟨_, by rw [cell_of_row w g k _ t _ h]; simp [arr, List.getD, hk], rfl⟩
theorem Arr.frozen (h : Arr w t g l) (k : Nat) : w.frozen? ⟨g, k, none⟩ = false := frozen_of_row w g k _ t h
theorem Arr.store (h : Arr w t g l) (k : Nat) (x : Int) : Arr (w.setCell ⟨g, k, none⟩ (.int .i64 x)) t g (l.set k x) := by
  unfold Arr
  rw [heap_setCell_same w g k _ t _ h]
  simp [arr, List.map_set]
theorem Arr.other {g' : Nat} (h : Arr w t g l) (hne : g ≠ g') (k : Nat) (v : Value) : Arr (w.setCell ⟨g', k, none⟩ v) t g l := by
  unfold Arr
  rw [heap_setCell_other w ⟨g', k, none⟩ g v hne]; exact h
theorem Arr.below {B : Nat} {w' : World} (h : Arr w t g l) (hb : Below B w w') (hg : g < B) : Arr w' t g l := (hb.block g hg).trans h
theorem Arr.belowAll {w' : World} (hb : Below w.heap.size w w') (h : Arr w t g l) : Arr w' t g l := h.below hb h.lt
theorem Arr.kept {w' : World} {row : Option Nat} (h : Arr w t g l) (hg : w.grownBy w' row) (hne : some g ≠ row) : Arr w' t g l := (hg.block g h.lt hne).trans h
theorem Arr.alloc (h : Arr w t g l) (o : Obj) : Arr (w.alloc o) t g l := (Below.heap_alloc w o g h.lt).trans h
theorem Arr.new (w : World) (t : Nat) (l : List Int) : Arr (w.alloc (.cells (arr l) t)) t w.heap.size l := heap_alloc_new w _
theorem Arr.drewN (h : Arr w t g l) (n : Nat) : Arr (w.drewN n) t g l := h
end

theorem arr_zero5 : arr (List.replicate 5 0) = #[.int .i64 0, .int .i64 0, .int .i64 0, .int .i64 0, .int .i64 0] := rfl
theorem arr_zero10 : arr (List.replicate 10 0) = #[.int .i64 0, .int .i64 0, .int .i64 0, .int .i64 0, .int .i64 0, .int .i64 0, .int .i64 0, .int .i64 0, .int .i64 0, .int .i64 0] := rfl

section
variable {P : Program}
/-- The whole array is loaded. -/
theorem load_arr {w : World} {ops : Array Oper} {rest : List Oper} {o : Oper} {a : Act} {Q : Exit → Act → World → Prop} (hgd : o.guard = none) (ty : TypeId) (x : Operand) (ho : o.op = .load ty x)
    (g : Nat) (hx : a.eval x = .pointer (some ⟨g, 0, none⟩)) (t e n : Nat) (l : List Int) (hg : Arr w t g l)
    (hu : P.underlying ty = some (.array n e)) (hi : (P.info? ty).map (·.size) = some n) (hl : l.length = n)
    (h : wpList P ops Q rest (a.put o.dst (.agg (arr l))) w) : wpList P ops Q (o :: rest) a w :=
  wpList_load_row hgd ty x ho g hx t (arr l) (0, 0) _ hg hu rfl (by rw [hi, arr_size, hl]) h

/-- The whole array is stored. -/
theorem store_arr {w : World} {ops : Array Oper} {rest : List Oper} {o : Oper} {a : Act} {Q : Exit → Act → World → Prop} (hgd : o.guard = none) (ty : TypeId) (x y : Operand) (ho : o.op = .store ty x y)
    (g : Nat) (hx : a.eval x = .pointer (some ⟨g, 0, none⟩)) (l l0 : List Int) (hy : a.eval y = .agg (arr l)) (t n : Nat) (hg : Arr w t g l0)
    (hi : (P.info? ty).map (·.size) = some n) (hl : l.length = n) (hl0 : l0.length = n)
    (h : ∀ w', Arr w' t g l → w.grownBy w' (some g) → wpList P ops Q rest (a.put o.dst undef) w') : wpList P ops Q (o :: rest) a w := by
  refine wpList_plain hgd fun K hK => ?_
  cases hq : P.info? ty with
  | none => simp [hq] at hi
  | some i =>
    have hs : i.size = n := by simpa [hq] using hi
    have hst := run_storeCells_from (P := P) g t (arr l).toList 0 (arr l0) w hg (by simp [arr_size, hl, hl0]) (by
      intro v hv
      simp only [arr, List.toList_toArray] at hv
      obtain ⟨q, _, rfl⟩ := List.mem_map.1 hv
      rfl)
    have hw : (w.setRow g ((arr l0).toList.take 0 ++ (arr l).toList).toArray) = w.setRow g (arr l) := by simp
    rw [hw] at hst
    unfold Oper.wp execOp
    simp only [ho, hx, hy]
    simp [Instr.storeAt, Instr.sureAddr, Sem.run_bind, Result.andThen, storeVar, sizeOf, typeInfo, hq, hs, Value.cells, arr_size, hl, hst]
    have e1 : Arr (w.setRow g (arr l)) t g l := setRow_heap w g (arr l0) (arr l) t (0, 0) hg
    have e2 : w.grownBy (w.setRow g (arr l)) (some g) := ⟨rfl, rfl, rfl, by simp, fun k _ hk => setRow_other w g k _ (fun e => hk (by simp [e]))⟩
    exact hK _ _ (h _ e1 e2)

/-- A result that is an array in a variable. -/
theorem ret_arr {fn : Func} {R : Ending → World → Prop} {a : Act} {w : World} {p : Tmp} {ty : TypeId} (hf : fn.results = #[.cell p ty]) (hd : a.defers = [])
    (g : Nat) (hp : a.tmps.getD p undef = .pointer (some ⟨g, 0, none⟩)) (t e n : Nat) (l : List Int) (hg : Arr w t g l)
    (hu : P.underlying ty = some (.array n e)) (hi : (P.info? ty).map (·.size) = some n) (hl : l.length = n) (hR : R (.returned (.agg (arr l))) w) : bodyPost P fn R .ret a w :=
  bodyPost_ret (results_cell_row hf a.tmps w g t (arr l) (0, 0) _ hp hg hu rfl (by rw [hi, arr_size, hl])) hd hR
end
end Go.Proofs.Ytninnjkjodhpaaa
