/-
  Two slices that grow side by side; which keys are gone; spec.peel, spec.PeelKeys.
-/
import Derived.Test.YtbldfhfciihddabTd
import Derived.Deep.AppendLies
import Derived.Deep.LoopGhost
namespace Go.Proofs.Ytbldfhfciihddab
open Go.RowKit

/-- Two values own no block together. -/
def Ap (va vb : Value) : Prop := va.ownBlock = none ∨ va.ownBlock ≠ vb.ownBlock
theorem Ap.symm {va vb : Value} (h : Ap va vb) : Ap vb va := by
  unfold Ap at h ⊢
  cases hb : vb.ownBlock with
  | none => exact .inl rfl
  | some q =>
    refine .inr fun e => ?_
    rcases h with h | h
    · rw [h] at e; cases e
    · exact h (by rw [hb]; exact e.symm)

/-- 'append(s, y)' onto one of two slices of the call's own that lie apart. -/
theorem push_side {wr : World} {ops : Array Oper} {rest : List Oper} {o : Oper} {a : Act} {Q : Exit → Act → World → Prop} (hgd : o.guard = none) (s x : Operand)
    (ho : o.op = .call { callee := .builtin .append, args := #[s, x], argTypes := #[24, 24] })
    (base : Nat) (v vb : Value) (l lb : List Int) (y : Int) (hs : a.eval s = v) (hown : Own wr base v l) (hownb : Own wr base vb lb) (hap : Ap v vb) (H : Nat) (hx : a.eval x = .slice (some ⟨H, 0, none⟩) 1 1) (hH : wr.heap.size = H)
    (hl : l.length < 1000000000000) (hbase : base ≤ wr.heap.size)
    (h : ∀ v' w', Own w' base v' (l ++ [y]) → Own w' base vb lb → Ap v' vb → v' ≠ .slice none 0 0 → wr.grownBy w' v.ownBlock → wpList Try.prog ops Q rest (a.put o.dst v') w') :
    wpList Try.prog ops Q (o :: rest) a (wr.alloc (.cells #[.int .i64 y] 3)) := by
  subst hH
  obtain ⟨i0, hi, hz0, hz1, hz2⟩ := info_parts infoInt
  refine wpList_append_lies _ hgd s x 24 ho base 3 i0 (.int .i64 0) 1 8 Try.underlying24 hi hz0 hz1 hz2 rfl (by decide) v l.length (l.map (Value.int .i64)) hs (World.ownsRow.alloc hown _) ⟨wr.heap.size, 0, none⟩ 1 1 [.int .i64 y] hx rfl (cell_one_new _ _ _) (fun u hu => by simp at hu; subst hu; rfl) (by omega) (by unfold maxLen; omega) (by omega) (by simp; omega) (wr.heap.size + 1) (World.size_alloc _ _) fun g cap w' h1 h2 h3 h4 => ?_
  have hgb : wr.grownBy w' v.ownBlock := by
    refine ⟨h2.os, h2.tape, h2.output, Nat.le_trans (by simp) h2.size, fun k hk hne => ?_⟩
    rw [h2.block k (by simp; omega) hne]; exact Below.heap_alloc _ _ _ hk
  have hlb := hownb.lt
  refine h _ w' ?_ (hownb.kept hgb hap.symm) ?_ (by simp) hgb
  · unfold Own
    rw [List.length_append, List.map_append]
    exact h1
  · refine .inr fun e => ?_
    have e2 : vb.ownBlock = some g := e.symm
    rcases h3 with h3 | h3
    · rcases hap with h5 | h5
      · rw [h5] at h3; cases h3
      · exact h5 (by rw [h3, e2])
    · have := (hlb g e2).2
      omega

/-- Which of n keys are gone. -/
def gn (n : Nat) (ks : List Nat) : List Bool := (List.range n).map fun k => ks.contains k
theorem gn_len (n : Nat) (ks : List Nat) : (gn n ks).length = n := by simp [gn]
theorem gn_zero (n : Nat) : gn n [] = List.replicate n false := by
  refine List.ext_getElem (by simp [gn]) fun i h1 h2 => by simp [gn]
theorem gn_get {n k : Nat} {ks : List Nat} (h : k < n) : (gn n ks).getD k false = ks.contains k := by simp [gn, List.getD, h]
theorem gn_set {n k : Nat} {ks : List Nat} (h : k < n) : (gn n ks).set k true = gn n (ks ++ [k]) := by
  refine List.ext_getElem (by simp [gn]) fun i h1 h2 => ?_
  rw [List.getElem_set]
  simp only [gn, List.getElem_map, List.getElem_range, List.contains_append]
  by_cases e : k = i
  · subst e; simp
  · have : ([k] : List Nat).contains i = false := by simp; omega
    rw [if_neg e, this, Bool.or_false]
/-- A block of bools is none of a slice of ints. -/
theorem BArr.ne_own {w : World} {t g base : Nat} {l : List Bool} {v : Value} {li : List Int} (h : BArr w t g l) (ho : Own w base v li) (ht : t ≠ 3) : v.ownBlock ≠ some g := by
  rcases ho.2 with ⟨rfl, _⟩ | ⟨q, cap, cur, rfl, _, hg, _⟩
  · simp [Value.ownBlock]
  · intro e
    have : q = g := by simpa [Value.ownBlock] using e
    subst this
    unfold BArr at h
    rw [h] at hg
    injection hg with hg
    injection hg with _ h2
    exact ht h2
/-- The last of keys, or d. -/
def lastI (l : List Nat) (d : Int) : Int := match l.getLast? with
  | some x => (x : Int)
  | none => d
theorem lastI_nil (d : Int) : lastI [] d = d := rfl
theorem lastI_push (l : List Nat) (x : Nat) (d : Int) : lastI (l ++ [x]) d = x := by simp [lastI]
theorem alone_yes {ts : List (List Int)} {ks : List Nat} {s : Nat} (h : (lf ts ks s ts.length).length = 1) : ∃ k, alone ts ks s = some k ∧ lf ts ks s ts.length = [k] := by
  obtain ⟨x, hx⟩ := List.length_eq_one_iff.1 h
  exact ⟨x, by unfold alone; rw [if_pos h, hx]; rfl, hx⟩
theorem alone_no {ts : List (List Int)} {ks : List Nat} {s : Nat} (h : ¬ (lf ts ks s ts.length).length = 1) : alone ts ks s = none := by unfold alone; rw [if_neg h]
/-- What is known between the rounds over the slots. -/
def Mid (M : Nat) (ts : List (List Int)) (R : List Nat × List Nat) (ks ss : List Nat) (at0 : Nat) (b : Bool) (ks' ss' : List Nat) : Prop :=
  (b = false ∧ ks' = ks ∧ ss' = ss ∧ nxt ts ks M 0 = nxt ts ks (M - at0) at0) ∨ (b = true ∧ more ts ks' < more ts ks ∧ PelAt M ts R ks' ss' ∧ Taken M ts ks' ss')
theorem Mid.found {M : Nat} {ts : List (List Int)} {R : List Nat × List Nat} {ks ss : List Nat} {at0 k : Nat} (hp : PelAt M ts R ks ss) (ht : Taken M ts ks ss) (h : nxt ts ks M 0 = nxt ts ks (M - at0) at0) (hM : at0 < M) (ha : alone ts ks at0 = some k) :
    Mid M ts R ks ss (at0 + 1) true (ks ++ [k]) (ss ++ [at0]) := by
  have hn : nxt ts ks M 0 = some (k, at0) := by rw [h, show M - at0 = (M - (at0 + 1)) + 1 by omega, nxt_yes ha]
  obtain ⟨a1, a2, _⟩ := alone_some ha
  exact .inr ⟨rfl, more_lt a1 a2, hp.step hn, ht.step hn⟩
theorem Mid.skip {M : Nat} {ts : List (List Int)} {R : List Nat × List Nat} {ks ss : List Nat} {at0 : Nat} (h : nxt ts ks M 0 = nxt ts ks (M - at0) at0) (hM : at0 < M) (ha : alone ts ks at0 = none) : Mid M ts R ks ss (at0 + 1) false ks ss :=
  .inl ⟨rfl, rfl, rfl, by rw [h, show M - at0 = (M - (at0 + 1)) + 1 by omega, nxt_no ha]⟩
theorem at_gone {ts : List (List Int)} {ks : List Nat} {s k : Nat} (h : ks.contains k = true) : at_ ts ks s k = false := by
  unfold at_; rw [h]; rfl
theorem at_left {ts : List (List Int)} {ks : List Nat} {s k : Nat} (h : ks.contains k = false) : at_ ts ks s k = (tr ts k).contains (s : Int) := by
  unfold at_; rw [h]; rfl

theorem infoBool : (Try.prog.info? 4).map (fun i => (i.zero, i.size, i.bytes)) = some (some (.bool false), 1, 1) := by kernel_rfl
theorem made_bools (n : Nat) : madeCells #[.bool false] n = ((List.replicate n false).map Value.bool).toArray := by
  apply Array.ext'
  rw [toList_madeCells_one]
  simp
theorem Own.otherB {w : World} {base : Nat} {v : Value} {l : List Int} (h : Own w base v l) {g : Nat} (hne : v.ownBlock ≠ some g) (k : Nat) (x : Value) : Own (w.setCell ⟨g, k, none⟩ x) base v l := by
  refine ⟨h.1, ?_⟩
  rcases h.2 with hn | ⟨q, c, cur, hv, hb, hg, r⟩
  · exact .inl hn
  · refine .inr ⟨q, c, cur, hv, hb, ?_, r⟩
    have e : q ≠ g := fun e => hne (by rw [hv, ← e]; rfl)
    rw [heap_setCell_other w ⟨g, k, none⟩ q x e]; exact hg
end Go.Proofs.Ytbldfhfciihddab
