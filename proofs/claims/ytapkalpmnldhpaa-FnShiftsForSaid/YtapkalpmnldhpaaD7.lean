/-
  Rows that grow by append, each in a block of its own.
-/
import Derived.Test.YtapkalpmnldhpaaDt
import Derived.Test.YtapkalpmnldhpaaTe
namespace Go.Proofs.Ytapkalpmnldhpaa
open Go.RowKit

theorem one_lit7 (g p : Nat) (w : World) (l : List Int) (n : Nat) (hR : Rdr w g p) (hp : p ≤ 1000000) (h0 : 0 < l.length) (hl : l.length ≤ 1000000) (hn : l.length = n) :
    Calls Try.prog 75 #[.pointer (some ⟨g, 0, none⟩), .slice (some ⟨w.heap.size, 0, none⟩) n n] (w.alloc (.cells (l.map (Value.int .i64)).toArray 3)) fun e w' => ∃ y, e = .returned (.int .i64 y) ∧ y ∈ l ∧ Rdr w' g (p + 1) ∧ w.grownBy w' (some g) := by
  have hlt := hR.lt
  refine (one_any g p w.heap.size n l _ (hR.below ((Below.refl _ _).alloc (Nat.le_refl _) _)) hp (CellsAt.lit w l) hlt h0 hl n hn).mono ?_
  rintro e w' ⟨y, rfl, hy, hR', hg⟩
  exact ⟨y, rfl, hy, hR', grownBy_trans (World.grownBy_alloc w _ _) hg⟩

/-- A slice of rows and a slice of ints are never in one block. -/
theorem rows_ne {w : World} {base base' n : Nat} {v x : Value} {vs : List Value} {l : List Int} (h1 : w.ownsRow base 24 1 v n vs) (h2 : Own w base' x l) : v.ownBlock = none ∨ v.ownBlock ≠ x.ownBlock := by
  rcases h1.2 with ⟨rfl, _⟩ | ⟨g, c, cur, rfl, _, hg, _⟩
  · exact .inl rfl
  · refine .inr fun e => ?_
    rcases h2.2 with ⟨rfl, _⟩ | ⟨q, c2, cur2, rfl, _, hg2, _⟩
    · cases e
    · have : g = q := by simpa [Value.ownBlock] using e
      subst this
      rw [hg] at hg2
      injection hg2 with hg2
      injection hg2 with _ h3
      exact absurd h3 (by decide)

/-- Rows of the call's own that grow: all blocks lie from base to hi, no two rows in one. -/
structure OwnR (w : World) (base hi : Nat) (v : Value) (vs : List Value) (ts : List (List Int)) : Prop where
  own : w.ownsRow base 24 1 v ts.length vs
  top : ∀ k, v.ownBlock = some k → k < hi
  row : ∀ r, r < ts.length → ∃ x, vs[r]? = some x ∧ Own w base x (tr ts r) ∧ ∀ k, x.ownBlock = some k → k < hi
  far : ∀ (r r' : Nat) (x x' : Value), r ≠ r' → vs[r]? = some x → vs[r']? = some x' → x.ownBlock = none ∨ x.ownBlock ≠ x'.ownBlock
section
variable {w w' : World} {base hi : Nat} {v : Value} {vs : List Value} {ts : List (List Int)}
theorem OwnR.kept (h : OwnR w base hi v vs ts) {row : Option Nat} (hg : w.grownBy w' row) (hr : ∀ k, row = some k → k < base ∨ hi ≤ k) : OwnR w' base hi v vs ts := by
  have hne : ∀ x : Value, (∀ k, x.ownBlock = some k → base ≤ k ∧ k < hi) → x.ownBlock = none ∨ x.ownBlock ≠ row := by
    intro x hx
    cases hq : x.ownBlock with
    | none => exact .inl rfl
    | some q =>
      refine .inr fun e => ?_
      have h1 := hr q e.symm
      have h2 := hx q hq
      omega
  refine ⟨World.ownsRow.kept h.own hg (hne v fun k hk => ⟨(World.ownsRow.lt h.own k hk).1, h.top k hk⟩), h.top, fun r hr' => ?_, h.far⟩
  obtain ⟨x, h1, h2, h3⟩ := h.row r hr'
  exact ⟨x, h1, h2.kept hg (hne x fun k hk => ⟨(h2.lt k hk).1, h3 k hk⟩), h3⟩
theorem OwnR.alloc (h : OwnR w base hi v vs ts) (o : Obj) : OwnR (w.alloc o) base hi v vs ts := h.kept (row := none) (World.grownBy_alloc w o none) (fun _ e => by cases e)
theorem OwnR.lit0 (w : World) (base : Nat) (hb : base ≤ w.heap.size) : OwnR (w.alloc (.cells #[] 24)) base (w.heap.size + 1) (.slice (some ⟨w.heap.size, 0, none⟩) 0 0) [] [] :=
  ⟨World.ownsRow_lit w #[] 0 hb (by unfold maxLen; omega) rfl, fun k hk => by simp [Value.ownBlock] at hk; omega, fun r hr => by simp at hr, fun r r' x x' _ h => by simp at h⟩
theorem OwnR.lit0' (w : World) (base : Nat) (hb : base ≤ w.heap.size) : OwnR (w.alloc (.cells #[] 24)) base (w.alloc (.cells #[] 24)).heap.size (.slice (some ⟨w.heap.size, 0, none⟩) 0 0) [] [] := by
  rw [World.size_alloc]; exact OwnR.lit0 w base hb
theorem OwnR.form (h : OwnR w base hi v vs ts) : ∃ a cap, v = .slice a ts.length cap ∧ ts.length ≤ cap ∧ cap ≤ maxLen ∧ ReadsS w a ts := by
  have h1 := h.own
  have hc := h1
  rcases h1.2 with ⟨rfl, h0⟩ | ⟨g, cap, cur, rfl, hb, hg, hn, hm, _⟩
  · rw [h0]; exact ⟨none, 0, rfl, Nat.le_refl _, by unfold maxLen; omega, .inl (List.length_eq_zero_iff.1 h0)⟩
  · refine ⟨_, cap, rfl, hn, hm, .inr ⟨g, 0, rfl, (Array.getElem?_eq_some_iff.1 hg).1, fun r hr => ?_⟩⟩
    obtain ⟨x, h3, h4, _⟩ := h.row r hr
    obtain ⟨A, C, rfl, h5, h6, _⟩ := h4.form
    refine ⟨A, C, ?_, h6, h5⟩
    rw [Nat.zero_add, World.ownsRow.cellAt hc r (by omega)]
    exact h3
end
theorem grownBy_ownR {a b c : World} {row : Option Nat} {base hi : Nat} {v : Value} {vs : List Value} {ts : List (List Int)} (h : a.grownBy b row) (ho : OwnR b base hi v vs ts) (hb : a.heap.size ≤ base) (k : b.grownBy c v.ownBlock) : a.grownBy c row :=
  ⟨k.os.trans h.os, k.tape.trans h.tape, k.output.trans h.output, Nat.le_trans h.size k.size, fun i hi hne => (k.block i (Nat.lt_of_lt_of_le hi h.size) (fun e => by have := (World.ownsRow.lt ho.own i e.symm).1; omega)).trans (h.block i hi hne)⟩

/-- 'append(s, r)' of one row onto a slice of the call's own; the row was made behind all the others. -/
theorem push_rowR {wr : World} {ops : Array Oper} {rest : List Oper} {o : Oper} {a : Act} {Q : Exit → Act → World → Prop} (hgd : o.guard = none) (s x : Operand)
    (ho : o.op = .call { callee := .builtin .append, args := #[s, x], argTypes := #[38, 38] })
    (base hi : Nat) (v : Value) (vs : List Value) (ts : List (List Int)) (t : List Int) (y : Value) (hs : a.eval s = v) (hown : OwnR wr base hi v vs ts) (ht : Own wr hi y t) (hx : a.eval x = .slice (some ⟨wr.heap.size, 0, none⟩) 1 1)
    (hl : ts.length < 1000000000) (hbase : base ≤ hi) (hhi : hi ≤ wr.heap.size)
    (h : ∀ v' w', OwnR w' base w'.heap.size v' (vs ++ [y]) (ts ++ [t]) → wr.grownBy w' v.ownBlock → wpList Try.prog ops Q rest (a.put o.dst v') w') :
    wpList Try.prog ops Q (o :: rest) a (wr.alloc (.cells #[y] 24)) := by
  obtain ⟨i0, hi', hz0, hz1, hz2⟩ := info_parts infoSl
  have hy1 : y.oneCell' = true := by obtain ⟨_, _, rfl, _⟩ := ht.form; rfl
  refine wpList_append_own _ hgd s x 38 ho base 24 i0 (.slice none 0 0) 1 24 Try.underlying38 hi' hz0 hz1 hz2 rfl (by decide) v ts.length vs hs (World.ownsRow.alloc hown.own _) ⟨wr.heap.size, 0, none⟩ 1 1 [y] hx rfl (cell_one_new _ _ _) (fun u hu => by simp at hu; subst hu; exact hy1) (by unfold maxLen; omega) (by omega) (by simp; omega) fun v' w' g1 g2 _ => ?_
  have hgb : wr.grownBy w' v.ownBlock := by
    refine ⟨g2.os, g2.tape, g2.output, Nat.le_trans (by simp) g2.size, fun k hk hne => ?_⟩
    rw [g2.block k (by simp; omega) hne]; exact Below.heap_alloc _ _ _ hk
  have hsz := hgb.size
  have hvl : vs.length = ts.length := by simpa using hown.own.1
  have hty : y.ownBlock = none ∨ y.ownBlock ≠ v.ownBlock := by
    rcases rows_ne hown.own ht with h | h
    · cases hq : y.ownBlock with
      | none => exact .inl rfl
      | some q => right; rw [h]; simp
    · exact .inr (Ne.symm h)
  have hylt := ht.lt
  refine h v' w' ⟨by rw [List.length_append]; exact g1, fun k hk => (World.ownsRow.lt g1 k hk).2, fun r hr => ?_, fun r r' x x' hne h1 h2 => ?_⟩ hgb
  · by_cases e : r < ts.length
    · obtain ⟨z, h3, h4, h5⟩ := hown.row r e
      rw [tr_snoc_lt e]
      have hzv : z.ownBlock = none ∨ z.ownBlock ≠ v.ownBlock := by
        rcases rows_ne hown.own h4 with h | h
        · cases hq : z.ownBlock with
          | none => exact .inl rfl
          | some q => right; rw [h]; simp
        · exact .inr (Ne.symm h)
      refine ⟨z, by rw [List.getElem?_append_left (by omega)]; exact h3, h4.kept hgb hzv, fun k hk => ?_⟩
      have := (h4.lt k hk).2
      omega
    · have : r = ts.length := by simp at hr; omega
      subst this
      rw [tr_snoc_eq]
      refine ⟨y, by rw [List.getElem?_append_right (by omega)]; simp [hvl], (ht.mono hbase).kept hgb hty, fun k hk => ?_⟩
      have := (hylt k hk).2
      omega
  · have hcase : ∀ (q : Nat) (z : Value), (vs ++ [y])[q]? = some z → (q < vs.length ∧ vs[q]? = some z) ∨ (q = vs.length ∧ z = y) := by
      intro q z hz
      by_cases e : q < vs.length
      · left; rw [List.getElem?_append_left e] at hz; exact ⟨e, hz⟩
      · right
        have hq : q < (vs ++ [y]).length := (List.getElem?_eq_some_iff.1 hz).1
        have : q = vs.length := by simp at hq; omega
        subst this
        rw [List.getElem?_append_right (by omega)] at hz
        simp at hz
        exact ⟨rfl, hz.symm⟩
    have hold : ∀ (q : Nat) (z : Value), q < vs.length → vs[q]? = some z → ∀ k, z.ownBlock = some k → k < hi := by
      intro q z hq hz k hk
      obtain ⟨z', h3, _, h5⟩ := hown.row q (by omega)
      rw [hz] at h3
      cases h3
      exact h5 k hk
    rcases hcase r x h1 with ⟨e1, e2⟩ | ⟨e1, rfl⟩
    · rcases hcase r' x' h2 with ⟨e3, e4⟩ | ⟨e3, rfl⟩
      · exact hown.far r r' x x' hne e2 e4
      · cases hq : x.ownBlock with
        | none => exact .inl rfl
        | some q =>
          refine .inr fun e => ?_
          have h6 := hold r x e1 e2 q hq
          have h7 := (hylt q e.symm).1
          omega
    · rcases hcase r' x' h2 with ⟨e3, e4⟩ | ⟨e3, rfl⟩
      · cases hq : x.ownBlock with
        | none => exact .inl rfl
        | some q =>
          refine .inr fun e => ?_
          have h6 := hold r' x' e3 e4 q e.symm
          have h7 := (hylt q hq).1
          omega
      · omega

/-- The first row is put anew: it has grown by one. -/
theorem set_row0 {wa w5 w6 : World} {G hi g6 c6 gr : Nat} {vs : List Value} {ts : List (List Int)} {x0 v' : Value} {y : Int} (ho : OwnR wa G hi (.slice (some ⟨g6, 0, none⟩) ts.length c6) vs ts) (h0 : 0 < ts.length) (hx0 : vs[0]? = some x0)
    (hg5 : wa.grownBy w5 (some gr)) (hgr : gr < G) (hg6 : w5.grownBy w6 x0.ownBlock) (ho6 : Own w6 G v' (tr ts 0 ++ [y])) :
    ReadsS (w6.setCell ⟨g6, 0, none⟩ v') (some ⟨g6, 0, none⟩) ((tr ts 0 ++ [y]) :: ts.drop 1) := by
  have ho5 := ho.kept hg5 (fun k hk => by cases hk; exact .inl hgr)
  obtain ⟨x0', e0, hO0, _⟩ := ho5.row 0 h0
  rw [hx0] at e0
  cases e0
  have hown6 := World.ownsRow.kept ho5.own hg6 (rows_ne ho5.own hO0)
  have hcell6 : ∀ r, r < ts.length → w6.cell? ⟨g6, r, none⟩ = vs[r]? := fun r hr => World.ownsRow.cellAt hown6 r (by omega)
  have hlt6 := (World.ownsRow.lt hown6 g6 rfl).2
  have hne : ∀ (x : Value) (l : List Int), Own w6 G x l → x.ownBlock ≠ some g6 := by
    intro x l hx
    rcases rows_ne hown6 hx with h | h
    · cases h
    · exact fun e => h (by rw [e]; rfl)
  refine .inr ⟨g6, 0, rfl, by simpa using hlt6, fun r hr => ?_⟩
  cases r with
  | zero =>
    have e1 : tr ((tr ts 0 ++ [y]) :: ts.drop 1) 0 = tr ts 0 ++ [y] := by simp [tr, List.getD]
    rw [e1]
    have hO := ho6.otherB (hne _ _ ho6) 0 v'
    obtain ⟨a8, c8, hv, h1, h2, _, _⟩ := hO.form
    refine ⟨a8, c8, ?_, h2, h1⟩
    rw [Nat.zero_add, World.cell?_setCell_same _ _ _ ((hcell6 0 h0).trans hx0), ← hv]
  | succ r =>
    have hr1 : r + 1 < ts.length := by simp at hr; omega
    have e1 : tr ((tr ts 0 ++ [y]) :: ts.drop 1) (r + 1) = tr ts (r + 1) := by
      simp [tr, List.getD]
    rw [e1]
    obtain ⟨x, hx, hO5, _⟩ := ho5.row (r + 1) hr1
    have hO6 := hO5.kept hg6 (ho5.far (r + 1) 0 x x0 (by omega) hx hx0)
    have hO := hO6.otherB (hne _ _ hO6) 0 v'
    obtain ⟨a8, c8, hv, h1, h2, _, _⟩ := hO.form
    refine ⟨a8, c8, ?_, h2, h1⟩
    rw [Nat.zero_add, World.cell?_setCell_other _ _ _ _ (by intro e; injection e with _ e2; omega), hcell6 _ hr1, hx, hv]
end Go.Proofs.Ytapkalpmnldhpaa
