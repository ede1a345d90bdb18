/-
  spec.someTrips, and PeelKeys' draw.
-/
import Derived.Test.YtjkcahmbocjacaaD2
import Derived.Test.YtjkcahmbocjacaaTc
import Derived.Deep.DeepCutAuto
import Derived.Deep.LoopGhost
import Derived.Deep.AppendLies
namespace Go.Proofs.Ytjkcahmbocjacaa
open Go.RowKit

theorem tr_snoc_lt {ts : List (List Int)} {t : List Int} {r : Nat} (h : r < ts.length) : tr (ts ++ [t]) r = tr ts r := by
  unfold tr; simp [List.getD, List.getElem?_append_left h]
theorem tr_snoc_eq (ts : List (List Int)) (t : List Int) : tr (ts ++ [t]) ts.length = t := by
  unfold tr; simp [List.getD]
theorem bulk_snoc (ts : List (List Int)) (t : List Int) : bulk (ts ++ [t]) = bulk ts + 1 + t.length := by
  unfold bulk; simp; omega

/-- A slice of rows of the call's own, that grows. -/
def OwnT (w : World) (base : Nat) (v : Value) (ts : List (List Int)) : Prop :=
  ∃ vs : List Value, w.ownsRow base 36 1 v ts.length vs ∧ ∀ r, r < ts.length → ∃ G, vs[r]? = some (.slice (some ⟨G, 0, none⟩) (tr ts r).length (tr ts r).length) ∧ Tab w base G (tr ts r).length (tr ts r).length (tr ts r)
section
variable {w w' : World} {base : Nat} {v : Value} {ts : List (List Int)}
theorem OwnT.lt (h : OwnT w base v ts) : ∀ k, v.ownBlock = some k → base ≤ k ∧ k < w.heap.size := by
  obtain ⟨vs, h1, _⟩ := h
  exact World.ownsRow.lt h1
theorem OwnT.kept (h : OwnT w base v ts) {row : Option Nat} (hg : w.grownBy w' row) (hr : ∀ k, row = some k → k < base) : OwnT w' base v ts := by
  have hlt := h.lt
  obtain ⟨vs, h1, h2⟩ := h
  refine ⟨vs, World.ownsRow.kept h1 hg ?_, fun r hr' => ?_⟩
  · cases hv : v.ownBlock with
    | none => exact .inl rfl
    | some q =>
      refine .inr fun e => ?_
      have := hr q e.symm
      have := (hlt q hv).1
      omega
  · obtain ⟨G, h3, h4⟩ := h2 r hr'
    refine ⟨G, h3, World.ownsRow.kept h4 hg (.inr fun e => ?_)⟩
    have h5 := hr G (by rw [← e]; rfl)
    have h6 := h4.block.1
    omega
theorem OwnT.alloc (h : OwnT w base v ts) (o : Obj) : OwnT (w.alloc o) base v ts := h.kept (row := none) (World.grownBy_alloc w o none) (fun _ e => by cases e)
theorem OwnT.baseLe (h : OwnT w base v ts) {base' : Nat} (hb : base' ≤ base) : OwnT w base' v ts := by
  obtain ⟨vs, h1, h2⟩ := h
  refine ⟨vs, ?_, fun r hr' => ?_⟩
  · refine ⟨h1.1, ?_⟩
    rcases h1.2 with h | ⟨g, cap, cur, e1, e2, e3⟩
    · exact .inl h
    · exact .inr ⟨g, cap, cur, e1, Nat.le_trans hb e2, e3⟩
  · obtain ⟨G, h3, h4⟩ := h2 r hr'
    exact ⟨G, h3, h4.own.base hb⟩
theorem OwnT.lit0 (w : World) (base : Nat) (hb : base ≤ w.heap.size) : OwnT (w.alloc (.cells #[] 36)) base (.slice (some ⟨w.heap.size, 0, none⟩) 0 0) [] :=
  ⟨[], World.ownsRow_lit w #[] 0 hb (by unfold maxLen; omega) rfl, fun r hr => by simp at hr⟩
theorem OwnT.ne_row (h : OwnT w base v ts) {G n cap : Nat} {l : List Int} {base' : Nat} (ht : Tab w base' G n cap l) : v.ownBlock ≠ some G := by
  obtain ⟨vs, h1, _⟩ := h
  rcases h1.2 with ⟨rfl, _⟩ | ⟨g, c, cur, rfl, _, hg, _⟩
  · simp [Value.ownBlock]
  · intro e
    have : g = G := by simpa [Value.ownBlock] using e
    subst this
    rcases ht.2 with ⟨e, _⟩ | ⟨q, c2, cur2, e2, _, hg2, _⟩
    · cases e
    · injection e2 with e2
      injection e2 with e2
      injection e2 with e2
      subst e2
      rw [hg] at hg2
      injection hg2 with hg2
      injection hg2 with _ h3
      exact absurd h3 (by decide)
theorem OwnT.form (h : OwnT w base v ts) : ∃ a cap, v = .slice a ts.length cap ∧ ts.length ≤ cap ∧ cap ≤ maxLen ∧ ReadsS w a ts := by
  obtain ⟨vs, h1, h2⟩ := h
  have hl := h1.1
  have hc := h1
  rcases h1.2 with ⟨rfl, h0⟩ | ⟨g, cap, cur, rfl, hb, hg, hn, hm, _⟩
  · rw [h0]; exact ⟨none, 0, rfl, Nat.le_refl _, by unfold maxLen; omega, .inl (List.length_eq_zero_iff.1 h0)⟩
  · refine ⟨_, cap, rfl, hn, hm, .inr ⟨g, 0, rfl, (Array.getElem?_eq_some_iff.1 hg).1, fun r hr => ?_⟩⟩
    obtain ⟨G, h3, h4⟩ := h2 r hr
    refine ⟨_, _, ?_, Nat.le_refl _, h4.reads⟩
    rw [Nat.zero_add, World.ownsRow.cellAt hc r (by omega)]
    exact h3
end
theorem grownBy_ownT {a b c : World} {row : Option Nat} {base : Nat} {v : Value} {ts : List (List Int)} (h : a.grownBy b row) (ho : OwnT b base v ts) (hb : a.heap.size ≤ base) (k : b.grownBy c v.ownBlock) : a.grownBy c row :=
  ⟨k.os.trans h.os, k.tape.trans h.tape, k.output.trans h.output, Nat.le_trans h.size k.size, fun i hi hne => (k.block i (Nat.lt_of_lt_of_le hi h.size) (fun e => by have := (ho.lt i e.symm).1; omega)).trans (h.block i hi hne)⟩

/-- 'append(s, r)' of one row onto a slice of the call's own. -/
theorem push_row {wr : World} {ops : Array Oper} {rest : List Oper} {o : Oper} {a : Act} {Q : Exit → Act → World → Prop} (hgd : o.guard = none) (s x : Operand)
    (ho : o.op = .call { callee := .builtin .append, args := #[s, x], argTypes := #[39, 39] })
    (base : Nat) (v : Value) (ts : List (List Int)) (t : List Int) (hs : a.eval s = v) (hown : OwnT wr base v ts) (G n : Nat) (hn : t.length = n) (ht : Tab wr base G n n t) (H : Nat) (hx : a.eval x = .slice (some ⟨H, 0, none⟩) 1 1) (hH : wr.heap.size = H)
    (hl : ts.length < 1000000000) (hbase : base ≤ wr.heap.size)
    (h : ∀ v' w', OwnT w' base v' (ts ++ [t]) → wr.grownBy w' v.ownBlock → wpList Try.prog ops Q rest (a.put o.dst v') w') :
    wpList Try.prog ops Q (o :: rest) a (wr.alloc (.cells #[.slice (some ⟨G, 0, none⟩) n n] 36)) := by
  subst hH
  subst hn
  have hne := hown.ne_row ht
  have hnr : ∀ r, r < ts.length → ∀ G', Tab wr base G' (tr ts r).length (tr ts r).length (tr ts r) → v.ownBlock ≠ some G' := fun r _ G' h => hown.ne_row h
  obtain ⟨vs, h1, h2⟩ := hown
  obtain ⟨i0, hi, hz0, hz1, hz2⟩ := info_parts infoSl
  refine wpList_append_own _ hgd s x 39 ho base 36 i0 (.slice none 0 0) 1 24 Try.underlying39 hi hz0 hz1 hz2 rfl (by decide) v ts.length vs hs (World.ownsRow.alloc h1 _) ⟨wr.heap.size, 0, none⟩ 1 1 [.slice (some ⟨G, 0, none⟩) t.length t.length] hx rfl (cell_one_new _ _ _) (fun u hu => by simp at hu; subst hu; rfl) (by unfold maxLen; omega) (by omega) (by simp; omega) fun v' w' g1 g2 _ => ?_
  have hgb : wr.grownBy w' v.ownBlock := by
    refine ⟨g2.os, g2.tape, g2.output, Nat.le_trans (by simp) g2.size, fun k hk hne => ?_⟩
    rw [g2.block k (by simp; omega) hne]; exact Below.heap_alloc _ _ _ hk
  refine h v' w' ⟨vs ++ [.slice (some ⟨G, 0, none⟩) t.length t.length], by rw [List.length_append]; exact g1, fun r hr => ?_⟩ hgb
  have hvl : vs.length = ts.length := by simpa using h1.1
  by_cases e : r < ts.length
  · obtain ⟨G', h3, h4⟩ := h2 r e
    rw [tr_snoc_lt e]
    refine ⟨G', by rw [List.getElem?_append_left (by omega)]; exact h3, World.ownsRow.kept h4 hgb (.inr ?_)⟩
    exact fun e2 => hnr r e G' h4 (by rw [← e2]; rfl)
  · have : r = ts.length := by simp at hr; omega
    subst this
    rw [tr_snoc_eq]
    refine ⟨G, by rw [List.getElem?_append_right (by omega)]; simp [hvl], World.ownsRow.kept ht hgb (.inr ?_)⟩
    exact fun e2 => hne (by rw [← e2]; rfl)

/-- The next slot round the table, and how far c is from being none of a and b. -/
def nx (m c : Int) : Int := if c + 1 = m then 0 else c + 1
def wt (m a b c : Int) : Nat := if c = a then (if nx m a = b then 2 else 1) else if c = b then (if nx m b = a then 2 else 1) else 0
theorem tmod_nx {m c : Int} (h : 0 ≤ c) (h2 : c < m) : (c + 1).tmod m = nx m c := by
  rw [Int.tmod_eq_emod_of_nonneg (by omega)]
  unfold nx
  split
  · rename_i e; rw [e]; exact Int.emod_self
  · exact Int.emod_eq_of_lt (by omega) (by omega)
theorem nx_in {m c : Int} (h : 0 ≤ c) (h2 : c < m) : 0 ≤ nx m c ∧ nx m c < m := by unfold nx; split <;> omega
theorem wt_lt {m a b c : Int} (hm : 3 ≤ m) (hc : 0 ≤ c ∧ c < m) (h : c = a ∨ c = b) : wt m a b (nx m c) < wt m a b c := by
  unfold wt nx
  rcases h with rfl | rfl
  · repeat' split
    all_goals omega
  · repeat' split
    all_goals omega
theorem wt_le (m a b c : Int) : wt m a b c ≤ 2 := by unfold wt; repeat' split
                                                     all_goals omega
theorem tab_lit (w : World) (base : Nat) (l : List Int) (n : Nat) (hn : l.length = n) (h9 : n ≤ 1000) (hb : base ≤ w.heap.size) : Tab (w.alloc (.cells (l.map (Value.int .i64)).toArray 3)) base w.heap.size n n l := by
  subst hn
  have := World.ownsRow_lit (base := base) (e := 3) (size := 1) w (l.map (Value.int .i64)).toArray l.length hb (by unfold maxLen; omega) (by simp)
  simpa [Tab] using this

end Go.Proofs.Ytjkcahmbocjacaa
