/-
  append of a whole slice of ints (none among them) to one of the call's own.
-/
import Derived.Test.YtoaiaindcmihjaaGreatDoorBase
import Derived.Lib.AppendZerosOnto
import Derived.Lib.AppendZeros
namespace Go.Proofs.YtoaiaindcmihjaaGreatDoor
open Go.RowKit

theorem run_append_noneB (w : World) (ty : TypeId) (g n cap c : Nat) (ax : Option Addr) (h : n ≤ cap) :
    (Builtin.append_ #[23, 23] ty #[.slice (some ⟨g, 0, none⟩) n cap, .slice ax 0 c]).run Tryz.prog w = .ok (.slice (some ⟨g, 0, none⟩) n cap) w := by
  obtain ⟨i0, hi, hz0, hz1, hz2⟩ := info_parts infoInt
  cases ax <;> simp [Builtin.append_, run_underlying Tryz.underlying23, sizeOf, typeInfo, hi, Builtin.lenOf, h, Builtin.firstCells, loadCells, loadCellsFrom, storeCells]
theorem push_allK {wr : World} {ops : Array Oper} {rest : List Oper} {o : Oper} {a : Act} {Q : Exit → Act → World → Prop} (hgd : o.guard = none) (s x : Operand)
    (ho : o.op = .call { callee := .builtin .append, args := #[s, x], argTypes := #[23, 23] })
    (base : Nat) (v : Value) (L : List Int) (hs : a.eval s = v) (hown : Own wr base v L) (hb : base ≤ wr.heap.size)
    (ax : Option Addr) (l : List Int) (n cap : Nat) (hn : l.length = n) (hx : a.eval x = .slice ax n cap) (hr : Reads wr ax l) (h0 : n ≠ 0) (hl : n < 2000000) (hL : L.length < 2000000)
    (h : ∀ v' w', Own w' base v' (L ++ l) → wr.grownBy w' v.ownBlock → wpList Tryz.prog ops Q rest (a.put o.dst v') w') :
    wpList Tryz.prog ops Q (o :: rest) a wr := by
  obtain ⟨i0, hi, hz0, hz1, hz2⟩ := info_parts infoInt
  subst hn
  rcases hr with rfl | ⟨b, off, rfl, hb2, hc⟩
  · simp at h0
  refine wpList_append_own _ hgd s x 23 ho base 3 i0 (.int .i64 0) 1 8 Tryz.underlying23 hi hz0 hz1 hz2 rfl (by decide) _ L.length _ hs hown ⟨b, off, none⟩ l.length cap (l.map (Value.int .i64)) hx (by simp) ?c1 (ints_oneCell _ _) ?c3 ?c4 hb fun v' w' h1 h2 _ => h v' w' ?_ h2
  case c1 =>
    intro j u hu
    have hj : j < l.length := by simpa using (List.getElem?_eq_some_iff.1 hu).1
    rw [getD_map hj] at hu
    obtain rfl := Option.some.inj hu
    rw [Addr.add_lit]
    exact hc j hj
  case c3 => unfold maxLen; omega
  case c4 => omega
  · unfold Own
    rw [List.length_append, List.map_append]
    exact h1

theorem run_append_noneK (w : World) (ty : TypeId) (v : Value) (base c : Nat) (L : List Int) (ax : Option Addr) (h : Own w base v L) :
    (Builtin.append_ #[23, 23] ty #[v, .slice ax 0 c]).run Tryz.prog w = .ok v w := by
  obtain ⟨i0, hi, hz0, hz1, hz2⟩ := info_parts infoInt
  rcases h.2 with ⟨rfl, _⟩ | ⟨g, cap, cur, rfl, _, _, hnc, _⟩
  · cases ax <;> simp [Builtin.append_, run_underlying Tryz.underlying23, sizeOf, typeInfo, hi, Builtin.lenOf, Builtin.firstCells, loadCells, loadCellsFrom]
  · exact run_append_noneB w ty g L.length cap c ax hnc
theorem push_allZ {wr : World} {ops : Array Oper} {rest : List Oper} {o : Oper} {a : Act} {Q : Exit → Act → World → Prop} (hgd : o.guard = none) (s x : Operand)
    (ho : o.op = .call { callee := .builtin .append, args := #[s, x], argTypes := #[23, 23] })
    (base : Nat) (v : Value) (L : List Int) (hs : a.eval s = v) (hown : Own wr base v L) (hb : base ≤ wr.heap.size)
    (ax : Option Addr) (l : List Int) (n cap : Nat) (hn : l.length = n) (hx : a.eval x = .slice ax n cap) (hr : Reads wr ax l) (hl : n < 2000000) (hL : L.length < 2000000)
    (h : ∀ v' w', Own w' base v' (L ++ l) → wr.grownBy w' v.ownBlock → wpList Tryz.prog ops Q rest (a.put o.dst v') w') :
    wpList Tryz.prog ops Q (o :: rest) a wr := by
  by_cases h0 : n = 0
  · subst h0
    have hl0 : l = [] := List.eq_nil_of_length_eq_zero hn
    subst hl0
    refine wpList_plain hgd fun _ hK => ?_
    unfold Oper.wp execOp
    simp only [ho, resolve, invoke, builtin, Sem.run_bind, Sem.run_pure, Result.andThen_ok, List.map_toArray, List.map_cons, List.map_nil, hs, hx, run_append_noneK _ _ _ _ _ _ _ hown]
    exact hK _ _ (h v wr (by rw [List.append_nil]; exact hown) ⟨rfl, rfl, rfl, Nat.le_refl _, fun _ _ _ => rfl⟩)
  · exact push_allK hgd s x ho base v L hs hown hb ax l n cap hn hx hr h0 hl hL h
end Go.Proofs.YtoaiaindcmihjaaGreatDoor
