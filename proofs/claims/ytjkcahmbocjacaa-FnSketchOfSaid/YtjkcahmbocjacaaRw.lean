/-
  A slice of rows of the call's own, the rows' rooms not told.
-/
import Derived.Test.YtjkcahmbocjacaaDt
import Derived.Maps.AppendAt
namespace Go.Proofs.Ytjkcahmbocjacaa
open Go.RowKit

/-- A slice of rows of the call's own, that grows; each row is the call's own too. -/
def OwnR (w : World) (base : Nat) (v : Value) (ts : List (List Int)) : Prop :=
  ∃ vs : List Value, w.ownsRow base 36 1 v ts.length vs ∧ ∀ r, r < ts.length → ∃ u, vs[r]? = some u ∧ Own w base u (tr ts r)
section
variable {w w' : World} {base : Nat} {v : Value} {ts : List (List Int)}
theorem OwnR.lt (h : OwnR w base v ts) : ∀ k, v.ownBlock = some k → base ≤ k ∧ k < w.heap.size := by
  obtain ⟨vs, h1, _⟩ := h
  exact World.ownsRow.lt h1
theorem OwnR.kept (h : OwnR w base v ts) {row : Option Nat} (hg : w.grownBy w' row) (hr : ∀ k, row = some k → k < base) : OwnR w' base v ts := by
  have hlt := h.lt
  obtain ⟨vs, h1, h2⟩ := h
  refine ⟨vs, World.ownsRow.kept h1 hg ?_, fun r hr' => ?_⟩
  · cases hv : v.ownBlock with
    | none => exact .inl rfl
    | some q =>
      refine .inr fun e => ?_
      have := hr q e.symm
      have := (hlt q hv).1
      omega
  · obtain ⟨u, h3, h4⟩ := h2 r hr'
    refine ⟨u, h3, h4.kept hg ?_⟩
    cases hu : u.ownBlock with
    | none => exact .inl rfl
    | some q =>
      refine .inr fun e => ?_
      have := hr q e.symm
      have := (h4.lt q hu).1
      omega
theorem OwnR.alloc (h : OwnR w base v ts) (o : Obj) : OwnR (w.alloc o) base v ts := h.kept (row := none) (World.grownBy_alloc w o none) (fun _ e => by cases e)
theorem OwnR.below (hb : Below w.heap.size w w') (h : OwnR w base v ts) : OwnR w' base v ts :=
  h.kept (row := none) ⟨hb.os, hb.tape, hb.output, hb.size, fun i hi _ => hb.block i hi⟩ (fun _ e => by cases e)
theorem OwnR.nil (w : World) (base : Nat) : OwnR w base (.slice none 0 0) [] := ⟨[], ⟨rfl, .inl ⟨rfl, rfl⟩⟩, fun r hr => by simp at hr⟩
theorem OwnR.ne_own (h : OwnR w base v ts) {u : Value} {l : List Int} {base' : Nat} (ht : Own w base' u l) : u.ownBlock = none ∨ u.ownBlock ≠ v.ownBlock := by
  obtain ⟨vs, h1, _⟩ := h
  rcases ht.2 with ⟨rfl, _⟩ | ⟨q, c2, cur2, rfl, _, hg2, _⟩
  · exact .inl rfl
  · refine .inr fun e => ?_
    rcases h1.2 with ⟨rfl, _⟩ | ⟨g, c, cur, rfl, _, hg, _⟩
    · simp [Value.ownBlock] at e
    · have : q = g := by simpa [Value.ownBlock] using e
      subst this
      rw [hg] at hg2
      injection hg2 with hg2
      injection hg2 with _ h3
      exact absurd h3 (by decide)
theorem OwnR.form (h : OwnR w base v ts) : ∃ a cap, v = .slice a ts.length cap ∧ ts.length ≤ cap ∧ cap ≤ maxLen ∧ ReadsS w a ts := by
  obtain ⟨vs, h1, h2⟩ := h
  have hl := h1.1
  have hc := h1
  rcases h1.2 with ⟨rfl, h0⟩ | ⟨g, cap, cur, rfl, hb, hg, hn, hm, _⟩
  · rw [h0]; exact ⟨none, 0, rfl, Nat.le_refl _, by unfold maxLen; omega, .inl (List.length_eq_zero_iff.1 h0)⟩
  · refine ⟨_, cap, rfl, hn, hm, .inr ⟨g, 0, rfl, (Array.getElem?_eq_some_iff.1 hg).1, fun r hr => ?_⟩⟩
    obtain ⟨u, h3, h4⟩ := h2 r hr
    obtain ⟨A, C, rfl, hrd, hlc, _, _⟩ := h4.form
    refine ⟨A, C, ?_, hlc, hrd⟩
    rw [Nat.zero_add, World.ownsRow.cellAt hc r (by omega)]
    exact h3
end
theorem grownBy_ownR {a b c : World} {row : Option Nat} {base : Nat} {v : Value} {ts : List (List Int)} (h : a.grownBy b row) (ho : OwnR b base v ts) (hb : a.heap.size ≤ base) (k : b.grownBy c v.ownBlock) : a.grownBy c row :=
  ⟨k.os.trans h.os, k.tape.trans h.tape, k.output.trans h.output, Nat.le_trans h.size k.size, fun i hi hne => (k.block i (Nat.lt_of_lt_of_le hi h.size) (fun e => by have := (ho.lt i e.symm).1; omega)).trans (h.block i hi hne)⟩

/-- 'append(s, r)' of one row onto a slice of the call's own. -/
theorem push_rowR {wr : World} {ops : Array Oper} {rest : List Oper} {o : Oper} {a : Act} {Q : Exit → Act → World → Prop} (hgd : o.guard = none) (s x : Operand)
    (ho : o.op = .call { callee := .builtin .append, args := #[s, x], argTypes := #[39, 39] })
    (base : Nat) (v : Value) (ts : List (List Int)) (t : List Int) (hs : a.eval s = v) (hown : OwnR wr base v ts) (u : Value) (ht : Own wr base u t) (H : Nat) (hx : a.eval x = .slice (some ⟨H, 0, none⟩) 1 1) (hH : wr.heap.size = H)
    (hl : ts.length < 1000000000) (hbase : base ≤ wr.heap.size)
    (h : ∀ v' w', OwnR w' base v' (ts ++ [t]) → wr.grownBy w' v.ownBlock → (v'.ownBlock = v.ownBlock ∨ v'.ownBlock = some (wr.heap.size + 1)) → wpList Try.prog ops Q rest (a.put o.dst v') w') :
    wpList Try.prog ops Q (o :: rest) a (wr.alloc (.cells #[u] 36)) := by
  subst hH
  have hne := hown.ne_own ht
  have hnr : ∀ r, r < ts.length → ∀ u', Own wr base u' (tr ts r) → u'.ownBlock = none ∨ u'.ownBlock ≠ v.ownBlock := fun r _ u' h => hown.ne_own h
  obtain ⟨A, C, rfl, _, _, _, _⟩ := ht.form
  obtain ⟨vs, h1, h2⟩ := hown
  obtain ⟨i0, hi, hz0, hz1, hz2⟩ := info_parts infoSl
  refine wpList_append_own_at _ hgd s x 39 ho base 36 i0 (.slice none 0 0) 1 24 Try.underlying39 hi hz0 hz1 hz2 rfl (by decide) v ts.length vs hs (World.ownsRow.alloc h1 _) ⟨wr.heap.size, 0, none⟩ 1 1 [.slice A t.length C] hx rfl (cell_one_new _ _ _) (fun u hu => by simp at hu; subst hu; rfl) (by unfold maxLen; omega) (by omega) (by simp; omega) fun v' w' g1 g2 _ g4 => ?_
  have hgb : wr.grownBy w' v.ownBlock := by
    refine ⟨g2.os, g2.tape, g2.output, Nat.le_trans (by simp) g2.size, fun k hk hne => ?_⟩
    rw [g2.block k (by simp; omega) hne]; exact Below.heap_alloc _ _ _ hk
  refine h v' w' ⟨vs ++ [.slice A t.length C], by rw [List.length_append]; exact g1, fun r hr => ?_⟩ hgb (by rw [World.size_alloc] at g4; exact g4)
  have hvl : vs.length = ts.length := by simpa using h1.1
  by_cases e : r < ts.length
  · obtain ⟨u', h3, h4⟩ := h2 r e
    rw [tr_snoc_lt e]
    exact ⟨u', by rw [List.getElem?_append_left (by omega)]; exact h3, h4.kept hgb (hnr r e u' h4)⟩
  · have : r = ts.length := by simp at hr; omega
    subst this
    rw [tr_snoc_eq]
    exact ⟨_, by rw [List.getElem?_append_right (by omega)]; simp [hvl], ht.kept hgb hne⟩
end Go.Proofs.Ytjkcahmbocjacaa
