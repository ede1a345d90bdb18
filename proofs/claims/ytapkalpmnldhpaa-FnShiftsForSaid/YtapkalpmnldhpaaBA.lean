/-
  Arrays of truth values in variables: loads and stores of the whole, in plain regions and as steps of regions that draw their order.
-/
import Derived.Test.YtapkalpmnldhpaaArr
import Derived.Deep.AppendLies
namespace Go.Proofs.Ytapkalpmnldhpaa
open Go.RowKit

abbrev barr (l : List Bool) : Array Value := (l.map Value.bool).toArray
theorem barr_size (l : List Bool) : (barr l).size = l.length := by simp
theorem barr_zero10 : barr (List.replicate 10 false) = #[.bool false, .bool false, .bool false, .bool false, .bool false, .bool false, .bool false, .bool false, .bool false, .bool false] := rfl
section
variable {w : World} {t g : Nat} {l : List Bool}
theorem BArr.alloc (h : BArr w t g l) (o : Obj) : BArr (w.alloc o) t g l := (Below.heap_alloc w o g h.lt).trans h
theorem BArr.drew (h : BArr w t g l) : BArr w.drew t g l := h
end
section
variable {P : Program}
theorem load_barr {w : World} {ops : Array Oper} {rest : List Oper} {o : Oper} {a : Act} {Q : Exit → Act → World → Prop} (hgd : o.guard = none) (ty : TypeId) (x : Operand) (ho : o.op = .load ty x)
    (g : Nat) (hx : a.eval x = .pointer (some ⟨g, 0, none⟩)) (t e n : Nat) (l : List Bool) (hg : BArr w t g l)
    (hu : P.underlying ty = some (.array n e)) (hi : (P.info? ty).map (·.size) = some n) (hl : l.length = n)
    (h : wpList P ops Q rest (a.put o.dst (.agg (barr l))) w) : wpList P ops Q (o :: rest) a w :=
  wpList_load_row hgd ty x ho g hx t (barr l) (0, 0) _ hg hu rfl (by rw [hi, barr_size, hl]) h
/-- The same, as a step of a region that draws its order. -/
theorem step_load_barr {w : World} {ops : Array Oper} {o : Oper} {a : Act} {K : Act → World → Prop} {Q : Exit → Act → World → Prop} {E : Prop} (hgd : o.guard = none) (ty : TypeId) (x : Operand) (ho : o.op = .load ty x)
    (g : Nat) (hx : a.eval x = .pointer (some ⟨g, 0, none⟩)) (t e n : Nat) (l : List Bool) (hg : BArr w t g l)
    (hu : P.underlying ty = some (.array n e)) (hi : (P.info? ty).map (·.size) = some n) (hl : l.length = n)
    (h : K (a.put o.dst (.agg (barr l))) w) : if Region.wanted o (yielded ops a.tmps) = true then Oper.wp P o a w K Q else E := by
  have hw : Region.wanted o (yielded ops a.tmps) = true := by simp [Region.wanted, hgd]
  rw [if_pos hw]
  exact wp_load_row ty x ho g hx t (barr l) (0, 0) _ hg hu rfl (by rw [hi, barr_size, hl]) h
theorem wp_store_barr {w : World} {o : Oper} {a : Act} {K : Act → World → Prop} {Q : Exit → Act → World → Prop} (ty : TypeId) (x y : Operand) (ho : o.op = .store ty x y)
    (g : Nat) (hx : a.eval x = .pointer (some ⟨g, 0, none⟩)) (l l0 : List Bool) (hy : a.eval y = .agg (barr l)) (t n : Nat) (hg : BArr w t g l0)
    (hi : (P.info? ty).map (·.size) = some n) (hl : l.length = n) (hl0 : l0.length = n)
    (h : ∀ w', BArr w' t g l → w.grownBy w' (some g) → K (a.put o.dst undef) w') : Oper.wp P o a w K Q := by
  cases hq : P.info? ty with
  | none => simp [hq] at hi
  | some i =>
    have hs : i.size = n := by simpa [hq] using hi
    have hst := run_storeCells_from (P := P) g t (barr l).toList 0 (barr l0) w hg (by simp [hl, hl0]) (by
      intro v hv
      simp only [List.toList_toArray] at hv
      obtain ⟨q, _, rfl⟩ := List.mem_map.1 hv
      rfl)
    have hw : (w.setRow g ((barr l0).toList.take 0 ++ (barr l).toList).toArray) = w.setRow g (barr l) := by simp
    rw [hw] at hst
    unfold Oper.wp execOp
    simp only [ho, hx, hy]
    simp [Instr.storeAt, Instr.sureAddr, Sem.run_bind, Result.andThen, storeVar, sizeOf, typeInfo, hq, hs, Value.cells, hl]
    simp at hst
    rw [hst]
    have e1 : BArr (w.setRow g (barr l)) t g l := setRow_heap w g (barr l0) (barr l) t (0, 0) hg
    have e2 : w.grownBy (w.setRow g (barr l)) (some g) := ⟨rfl, rfl, rfl, by simp, fun k _ hk => setRow_other w g k _ (fun e => hk (by simp [e]))⟩
    exact h _ e1 e2
theorem store_barr {w : World} {ops : Array Oper} {rest : List Oper} {o : Oper} {a : Act} {Q : Exit → Act → World → Prop} (hgd : o.guard = none) (ty : TypeId) (x y : Operand) (ho : o.op = .store ty x y)
    (g : Nat) (hx : a.eval x = .pointer (some ⟨g, 0, none⟩)) (l l0 : List Bool) (hy : a.eval y = .agg (barr l)) (t n : Nat) (hg : BArr w t g l0)
    (hi : (P.info? ty).map (·.size) = some n) (hl : l.length = n) (hl0 : l0.length = n)
    (h : ∀ w', BArr w' t g l → w.grownBy w' (some g) → wpList P ops Q rest (a.put o.dst undef) w') : wpList P ops Q (o :: rest) a w :=
  wpList_plain hgd fun K hK => wp_store_barr ty x y ho g hx l l0 hy t n hg hi hl hl0 fun w' h1 h2 => hK _ _ (h w' h1 h2)
theorem step_store_barr {w : World} {ops : Array Oper} {o : Oper} {a : Act} {K : Act → World → Prop} {Q : Exit → Act → World → Prop} {E : Prop} (hgd : o.guard = none) (ty : TypeId) (x y : Operand) (ho : o.op = .store ty x y)
    (g : Nat) (hx : a.eval x = .pointer (some ⟨g, 0, none⟩)) (l l0 : List Bool) (hy : a.eval y = .agg (barr l)) (t n : Nat) (hg : BArr w t g l0)
    (hi : (P.info? ty).map (·.size) = some n) (hl : l.length = n) (hl0 : l0.length = n)
    (h : ∀ w', BArr w' t g l → w.grownBy w' (some g) → K (a.put o.dst undef) w') : if Region.wanted o (yielded ops a.tmps) = true then Oper.wp P o a w K Q else E := by
  have hw : Region.wanted o (yielded ops a.tmps) = true := by simp [Region.wanted, hgd]
  rw [if_pos hw]
  exact wp_store_barr ty x y ho g hx l l0 hy t n hg hi hl hl0 h
/-- Two results: an array in a variable, and a value. -/
theorem ret_barr2 {fn : Func} {R : Ending → World → Prop} {a : Act} {w : World} {p q : Tmp} {ty : TypeId} (hf : fn.results = #[.cell p ty, .tmp q]) (hd : a.defers = [])
    (g : Nat) (hp : a.tmps.getD p undef = .pointer (some ⟨g, 0, none⟩)) (t e n : Nat) (l : List Bool) (hg : BArr w t g l)
    (hu : P.underlying ty = some (.array n e)) (hi : (P.info? ty).map (·.size) = some n) (hl : l.length = n) (v : Value) (hq : a.tmps.getD q undef = v) (hR : R (.returned (.tuple #[.agg (barr l), v])) w) : bodyPost P fn R .ret a w := by
  refine bodyPost_ret (v := .tuple #[.agg (barr l), v]) ?_ hd hR
  have hp' : a.tmps[p]?.getD undef = .pointer (some ⟨g, 0, none⟩) := by simpa using hp
  have hq' : a.tmps[q]?.getD undef = v := by simpa using hq
  have hl' := run_loadVar_row (P := P) w g t ty (barr l) (0, 0) _ hg hu rfl (by rw [hi, barr_size, hl])
  simp only [results, hf, hp', hq', asAddr]
  simp [hp', hq', asAddr, hl']
end
end Go.Proofs.Ytapkalpmnldhpaa
