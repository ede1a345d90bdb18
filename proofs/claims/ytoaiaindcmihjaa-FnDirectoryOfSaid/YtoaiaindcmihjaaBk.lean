/-
  Slices of buckets: structs of two numbers and a slice of numbers.
-/
import Derived.Test.YtoaiaindcmihjaaSA
import Derived.Test.YtoaiaindcmihjaaN3
import Derived.Maps.AppendAt
namespace Go.Proofs.Ytoaiaindcmihjaa
open Go.RowKit

/-- A bucket of a list. -/
def bkt (bs : List Bk) (r : Nat) : Bk := bs.getD r (0, 0, [])
theorem bkt_eq {bs : List Bk} {r : Nat} (h : r < bs.length) : bkt bs r = bs[r] := by simp [bkt, List.getD, h]
theorem bkt_mem {bs : List Bk} {r : Nat} (h : r < bs.length) : bkt bs r ∈ bs := by rw [bkt_eq h]; exact List.getElem_mem h
theorem bkt_snoc_lt {bs : List Bk} {t : Bk} {r : Nat} (h : r < bs.length) : bkt (bs ++ [t]) r = bkt bs r := by simp [bkt, List.getD, List.getElem?_append_left h]
theorem bkt_snoc_eq (bs : List Bk) (t : Bk) : bkt (bs ++ [t]) bs.length = t := by simp [bkt, List.getD]
/-- The cells of buckets. -/
abbrev Bc := Int × Int × Value
def flat3 (l : List Bc) : List Value := l.flatMap fun c => [.int .i64 c.1, .int .i64 c.2.1, c.2.2]
theorem flat3_cons (p : Bc) (l : List Bc) : flat3 (p :: l) = .int .i64 p.1 :: .int .i64 p.2.1 :: p.2.2 :: flat3 l := rfl
theorem flat3_append (l l' : List Bc) : flat3 (l ++ l') = flat3 l ++ flat3 l' := by simp [flat3]
theorem flat3_len (l : List Bc) : (flat3 l).length = l.length * 3 := by
  induction l with
  | nil => rfl
  | cons p l ih => rw [flat3_cons]; simp [ih]; omega
theorem flat3_get {l : List Bc} : ∀ {i : Nat} {c : Bc}, l[i]? = some c → (flat3 l)[i * 3]? = some (.int .i64 c.1) ∧ (flat3 l)[i * 3 + 1]? = some (.int .i64 c.2.1) ∧ (flat3 l)[i * 3 + 2]? = some c.2.2 := by
  induction l with
  | nil => intro i c h; simp at h
  | cons p l ih =>
    intro i c h
    cases i with
    | zero => simp at h; subst h; simp [flat3_cons]
    | succ i =>
      have := ih (i := i) (c := c) (by simpa using h)
      rw [flat3_cons, show (i + 1) * 3 = i * 3 + 1 + 1 + 1 by omega]
      simpa using this
/-- The slice (its address, its length) reads as the buckets. -/
def ReadsB (w : World) (a : Option Addr) (bs : List Bk) : Prop :=
  bs = [] ∨ ∃ b off, a = some ⟨b, off, none⟩ ∧ b < w.heap.size ∧ ∀ r, r < bs.length → w.cell? ⟨b, off + r * 3, none⟩ = some (.int .i64 ((bkt bs r).1 : Int)) ∧ w.cell? ⟨b, off + r * 3 + 1, none⟩ = some (.int .i64 ((bkt bs r).2.1 : Int)) ∧
    ∃ A C, w.cell? ⟨b, off + r * 3 + 2, none⟩ = some (.slice A (bkt bs r).2.2.length C) ∧ Reads w A (bkt bs r).2.2 ∧ (bkt bs r).2.2.length ≤ C
theorem ReadsB.below {w w' : World} (h : Below w.heap.size w w') {a : Option Addr} {bs : List Bk} (hc : ReadsB w a bs) : ReadsB w' a bs := by
  rcases hc with h0 | ⟨b, off, ha, hb, hc⟩
  · exact .inl h0
  · refine .inr ⟨b, off, ha, Nat.lt_of_lt_of_le hb h.size, fun r hr => ?_⟩
    obtain ⟨h1, h2, A, C, h3, h4, h5⟩ := hc r hr
    exact ⟨(h.cell (p := ⟨b, off + r * 3, none⟩) hb).trans h1, (h.cell (p := ⟨b, off + r * 3 + 1, none⟩) hb).trans h2, A, C, (h.cell (p := ⟨b, off + r * 3 + 2, none⟩) hb).trans h3, h4.below h, h5⟩
theorem ReadsB.get {w : World} {a : Option Addr} {bs : List Bk} (h : ReadsB w a bs) {r : Nat} (hr : r < bs.length) :
    ∃ b off A C, a = some ⟨b, off, none⟩ ∧ b < w.heap.size ∧ w.cell? ⟨b, off + r * 3, none⟩ = some (.int .i64 ((bkt bs r).1 : Int)) ∧ w.cell? ⟨b, off + r * 3 + 1, none⟩ = some (.int .i64 ((bkt bs r).2.1 : Int)) ∧ w.cell? ⟨b, off + r * 3 + 2, none⟩ = some (.slice A (bkt bs r).2.2.length C) ∧ Reads w A (bkt bs r).2.2 ∧ (bkt bs r).2.2.length ≤ C := by
  rcases h with rfl | ⟨b, off, ha, hb, hc⟩
  · simp at hr
  · obtain ⟨h1, h2, A, C, h3, h4, h5⟩ := hc r hr
    exact ⟨b, off, A, C, ha, hb, h1, h2, h3, h4, h5⟩

/-- A slice of buckets of the call's own; each one's names are the call's own too. -/
def OwnB (w : World) (base : Nat) (v : Value) (bs : List Bk) : Prop :=
  ∃ cs : List Bc, cs.length = bs.length ∧ w.ownsRow base 30 3 v bs.length (flat3 cs) ∧ ∀ r, r < bs.length → ∃ u, cs[r]? = some (((bkt bs r).1 : Int), ((bkt bs r).2.1 : Int), u) ∧ Own w base u (bkt bs r).2.2
section
variable {w w' : World} {base : Nat} {v : Value} {bs : List Bk}
theorem OwnB.lt (h : OwnB w base v bs) : ∀ k, v.ownBlock = some k → base ≤ k ∧ k < w.heap.size := by
  obtain ⟨cs, _, h1, _⟩ := h
  exact World.ownsRow.lt h1
theorem OwnB.kept (h : OwnB w base v bs) {row : Option Nat} (hg : w.grownBy w' row) (hr : ∀ k, row = some k → k < base) : OwnB w' base v bs := by
  have hlt := h.lt
  obtain ⟨cs, h0, h1, h2⟩ := h
  refine ⟨cs, h0, World.ownsRow.kept h1 hg ?_, fun r hr' => ?_⟩
  · cases hv : v.ownBlock with
    | none => exact .inl rfl
    | some q =>
      refine .inr fun e => ?_
      have := hr q e.symm
      have := (hlt q hv).1
      omega
  · obtain ⟨u, h3, h4⟩ := h2 r hr'
    refine ⟨u, h3, h4.kept hg ?_⟩
    cases hu : u.ownBlock with
    | none => exact .inl rfl
    | some q =>
      refine .inr fun e => ?_
      have := hr q e.symm
      have := (h4.lt q hu).1
      omega
theorem OwnB.below (hb : Below w.heap.size w w') (h : OwnB w base v bs) : OwnB w' base v bs :=
  h.kept (row := none) ⟨hb.os, hb.tape, hb.output, hb.size, fun i hi _ => hb.block i hi⟩ (fun _ e => by cases e)
theorem OwnB.alloc (h : OwnB w base v bs) (o : Obj) : OwnB (w.alloc o) base v bs := h.kept (row := none) (World.grownBy_alloc w o none) (fun _ e => by cases e)
theorem OwnB.nil (w : World) (base : Nat) : OwnB w base (.slice none 0 0) [] := ⟨[], rfl, ⟨rfl, .inl ⟨rfl, rfl⟩⟩, fun r hr => by simp at hr⟩
theorem OwnB.mono {base' : Nat} (h : OwnB w base v bs) (hb : base' ≤ base) : OwnB w base' v bs := by
  obtain ⟨cs, h0, h1, h2⟩ := h
  refine ⟨cs, h0, ⟨h1.1, ?_⟩, fun r hr => ?_⟩
  · rcases h1.2 with h | ⟨g, cap, cur, e1, e2, e3⟩
    · exact .inl h
    · exact .inr ⟨g, cap, cur, e1, Nat.le_trans hb e2, e3⟩
  · obtain ⟨u, h3, h4⟩ := h2 r hr
    exact ⟨u, h3, h4.mono hb⟩
theorem OwnB.ne_own (h : OwnB w base v bs) {u : Value} {l : List Int} {base' : Nat} (ht : Own w base' u l) : u.ownBlock = none ∨ u.ownBlock ≠ v.ownBlock := by
  obtain ⟨cs, _, h1, _⟩ := h
  rcases ht.2 with ⟨rfl, _⟩ | ⟨q, c2, cur2, rfl, _, hg2, _⟩
  · exact .inl rfl
  · refine .inr fun e => ?_
    rcases h1.2 with ⟨rfl, _⟩ | ⟨g, c, cur, rfl, _, hg, _⟩
    · simp [Value.ownBlock] at e
    · have : q = g := by simpa [Value.ownBlock] using e
      subst this
      rw [hg] at hg2
      injection hg2 with hg2
      injection hg2 with _ h3
      exact absurd h3 (by decide)
theorem OwnB.form (h : OwnB w base v bs) : ∃ a cap, v = .slice a bs.length cap ∧ bs.length ≤ cap ∧ cap ≤ maxLen ∧ ReadsB w a bs := by
  obtain ⟨cs, h0, h1, h2⟩ := h
  have hc := h1
  rcases h1.2 with ⟨rfl, h0⟩ | ⟨g, cap, cur, rfl, hb, hg, hn, hm, _⟩
  · rw [h0]; exact ⟨none, 0, rfl, Nat.le_refl _, by unfold maxLen; omega, .inl (List.length_eq_zero_iff.1 h0)⟩
  · refine ⟨_, cap, rfl, hn, hm, .inr ⟨g, 0, rfl, (Array.getElem?_eq_some_iff.1 hg).1, fun r hr => ?_⟩⟩
    obtain ⟨u, h3, h4⟩ := h2 r hr
    obtain ⟨e1, e2, e3⟩ := flat3_get h3
    obtain ⟨A, C, rfl, hrd, hlc, _, _⟩ := h4.form
    refine ⟨?_, ?_, A, C, ?_, hrd, hlc⟩
    · rw [World.ownsRow.cellAt hc (0 + r * 3) (by omega), Nat.zero_add]; exact e1
    · rw [World.ownsRow.cellAt hc (0 + r * 3 + 1) (by omega), Nat.zero_add]; exact e2
    · rw [World.ownsRow.cellAt hc (0 + r * 3 + 2) (by omega), Nat.zero_add]; exact e3
end
theorem OwnB.lit0 (w : World) (base : Nat) (hb : base ≤ w.heap.size) : OwnB (w.alloc (.cells #[] 30)) base (.slice (some ⟨w.heap.size, 0, none⟩) 0 0) [] :=
  ⟨[], rfl, World.ownsRow_lit w #[] 0 hb (by unfold maxLen; omega) rfl, fun r hr => by simp at hr⟩
theorem Below.grownO {B : Nat} {a w w' : World} {base : Nat} {v : Value} {bs : List Bk} (h : Below B a w) (ho : OwnB w base v bs) (hg : w.grownBy w' v.ownBlock) (hB : B ≤ w.heap.size) (hb : B ≤ base) : Below B a w' :=
  h.grown hg hB fun k hk => Nat.le_trans hb (ho.lt k hk).1
theorem infoBucket : (Try.prog.info? 30).map (fun i => (i.zero, i.size, i.bytes)) = some (some (.agg #[.int .i64 0, .int .i64 0, .slice none 0 0]), 3, 40) := by kernel_rfl
theorem trip_cell {w : World} {x y z : Value} {ty : TypeId} : ∀ j u, [x, y, z][j]? = some u → (w.alloc (.cells #[x, y, z] ty)).cell? (Addr.add ⟨w.heap.size, 0, none⟩ j) = some u := by
  intro j u h
  rw [Addr.add_lit, Nat.zero_add, cell_of_row _ _ _ _ _ _ (heap_alloc_new _ _)]
  have hj : j < 3 := by have := (List.getElem?_eq_some_iff.1 h).1; simpa using this
  have : j = 0 ∨ j = 1 ∨ j = 2 := by omega
  rcases this with rfl | rfl | rfl <;> simpa using h
/-- 'append(s, b)' of one bucket onto a slice of the call's own. -/
theorem push_bk {wr : World} {ops : Array Oper} {rest : List Oper} {o : Oper} {a : Act} {Q : Exit → Act → World → Prop} (hgd : o.guard = none) (s x : Operand)
    (ho : o.op = .call { callee := .builtin .append, args := #[s, x], argTypes := #[26, 26] })
    (base : Nat) (v : Value) (bs : List Bk) (t : Bk) (hs : a.eval s = v) (hown : OwnB wr base v bs) (u : Value) (ht : Own wr base u t.2.2) (H : Nat) (hx : a.eval x = .slice (some ⟨H, 0, none⟩) 1 1) (hH : wr.heap.size = H)
    (hl : bs.length < 1000000000) (hbase : base ≤ wr.heap.size)
    (h : ∀ v' w', OwnB w' base v' (bs ++ [t]) → wr.grownBy w' v.ownBlock → wpList Try.prog ops Q rest (a.put o.dst v') w') :
    wpList Try.prog ops Q (o :: rest) a (wr.alloc (.cells #[.int .i64 (t.1 : Int), .int .i64 (t.2.1 : Int), u] 30)) := by
  subst hH
  have hne := hown.ne_own ht
  have hnr : ∀ r, r < bs.length → ∀ u', Own wr base u' (bkt bs r).2.2 → u'.ownBlock = none ∨ u'.ownBlock ≠ v.ownBlock := fun r _ u' h => hown.ne_own h
  obtain ⟨A, C, rfl, _, _, _, _⟩ := ht.form
  obtain ⟨cs, h0, h1, h2⟩ := hown
  obtain ⟨i0, hi, hz0, hz1, hz2⟩ := info_parts infoBucket
  refine wpList_append_own _ hgd s x 26 ho base 30 i0 (.agg #[.int .i64 0, .int .i64 0, .slice none 0 0]) 3 40 Try.underlying26 hi hz0 hz1 hz2 rfl (by decide) v bs.length (flat3 cs) hs (World.ownsRow.alloc h1 _) ⟨wr.heap.size, 0, none⟩ 1 1 [.int .i64 (t.1 : Int), .int .i64 (t.2.1 : Int), .slice A t.2.2.length C] hx rfl trip_cell (fun u hu => by simp at hu; rcases hu with rfl | rfl | rfl <;> rfl) (by unfold maxLen; omega) (by omega) (by simp; omega) fun v' w' g1 g2 _ => ?_
  have hgb : wr.grownBy w' v.ownBlock := by
    refine ⟨g2.os, g2.tape, g2.output, Nat.le_trans (by simp) g2.size, fun k hk hne => ?_⟩
    rw [g2.block k (by simp; omega) hne]; exact Below.heap_alloc _ _ _ hk
  refine h v' w' ⟨cs ++ [((t.1 : Int), (t.2.1 : Int), .slice A t.2.2.length C)], by simp [h0], ?_, fun r hr => ?_⟩ hgb
  · rw [List.length_append, flat3_append]; exact g1
  · by_cases e : r < bs.length
    · obtain ⟨u', h3, h4⟩ := h2 r e
      rw [bkt_snoc_lt e]
      exact ⟨u', by rw [List.getElem?_append_left (by omega)]; exact h3, h4.kept hgb (hnr r e u' h4)⟩
    · have : r = bs.length := by simp at hr; omega
      subst this
      rw [bkt_snoc_eq]
      exact ⟨_, by rw [List.getElem?_append_right (by omega)]; simp [h0], ht.kept hgb hne⟩
end Go.Proofs.Ytoaiaindcmihjaa
