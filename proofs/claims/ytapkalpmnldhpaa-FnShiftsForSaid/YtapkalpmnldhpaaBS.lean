/-
  Slices of truth values; append of a whole slice to an empty one.
-/
import Derived.Test.YtapkalpmnldhpaaArr
import Derived.Test.YtapkalpmnldhpaaTe
namespace Go.Proofs.Ytapkalpmnldhpaa
open Go.RowKit

/-- The slice value is the call's own (its block lies from base on) and reads as the list. -/
def OwnB (w : World) (base : Nat) (v : Value) (l : List Bool) : Prop := w.ownsRow base 4 1 v l.length (l.map (Value.bool))

theorem OwnB.nil (w : World) (base : Nat) : OwnB w base (.slice none 0 0) [] := World.ownsRow_nil _ _ _ _

theorem getDB_map {l : List Bool} {i : Nat} (h : i < l.length) : (l.map (Value.bool))[i]? = some (.bool (l.getD i false)) := by
  simp [List.getD, h]

/-- What is owned stays owned where nothing below a later base is written. -/
theorem OwnB.below {w w' : World} {base : Nat} {v : Value} {l : List Bool} (hb : Below w.heap.size w w') (h : OwnB w base v l) : OwnB w' base v l := by
  refine ⟨h.1, ?_⟩
  rcases h.2 with hn | ⟨g, cap, cur, hv, hbg, hg, r⟩
  · exact .inl hn
  · exact .inr ⟨g, cap, cur, hv, hbg, (hb.block g (Array.getElem?_eq_some_iff.1 hg).1).trans hg, r⟩

theorem OwnB.mono {w : World} {base base' : Nat} {v : Value} {l : List Bool} (h : OwnB w base v l) (hb : base' ≤ base) : OwnB w base' v l := by
  refine ⟨h.1, ?_⟩
  rcases h.2 with hn | ⟨g, cap, cur, hv, hbg, r⟩
  · exact .inl hn
  · exact .inr ⟨g, cap, cur, hv, by omega, r⟩

/-- A table: a slice of n ints at the head of block g, one of the call's own. -/
def TabB (w : World) (base g n cap : Nat) (l : List Bool) : Prop := w.ownsRow base 4 1 (.slice (some ⟨g, 0, none⟩) n cap) n (l.map (Value.bool))

section
variable {w : World} {base g n cap : Nat} {l : List Bool}
theorem TabB.len (h : TabB w base g n cap l) : l.length = n := by simpa using h.1
theorem TabB.get (h : TabB w base g n cap l) {k : Nat} (hk : k < n) : ∃ x, w.cell? ⟨g, k, none⟩ = some (.bool x) ∧ Hid (l.getD k false = x) :=
  ⟨_, by rw [World.ownsRow.cellAt h k (by omega)]; exact getDB_map (by rw [h.len]; exact hk), rfl⟩
theorem TabB.frozen (h : TabB w base g n cap l) (k : Nat) : w.frozen? ⟨g, k, none⟩ = false := World.ownsRow.frozenAt h k
theorem TabB.store (h : TabB w base g n cap l) (k : Nat) (x : Bool) : TabB (w.setCell ⟨g, k, none⟩ (.bool x)) base g n cap (l.set k x) := by
  unfold TabB; rw [List.map_set]; exact (World.ownsRow.stored h k _).1
theorem TabB.block (h : TabB w base g n cap l) : base ≤ g ∧ g < w.heap.size := World.ownsRow.lt h g rfl
theorem TabB.own (h : TabB w base g n cap l) : OwnB w base (.slice (some ⟨g, 0, none⟩) n cap) l := by
  have e := h.len; unfold OwnB; rw [e]; exact h
theorem TabB.below {w' : World} (hb : Below w.heap.size w w') (h : TabB w base g n cap l) : TabB w' base g n cap l := by
  have e := h.len; have := h.own.below hb; unfold OwnB at this; rw [e] at this; exact this
end
theorem OwnB.tab {w : World} {base : Nat} {v : Value} {l : List Bool} (h : OwnB w base v l) (hl : l.length ≠ 0) : ∃ g cap, v = .slice (some ⟨g, 0, none⟩) l.length cap ∧ TabB w base g l.length cap l := by
  have h' := h
  rcases h.2 with ⟨_, h0⟩ | ⟨g, cap, cur, rfl, r⟩
  · exact absurd h0 hl
  · exact ⟨g, cap, rfl, h'⟩

theorem OwnB.kept {w w' : World} {base : Nat} {v : Value} {l : List Bool} {row : Option Nat} (h : OwnB w base v l) (hg : w.grownBy w' row) (hne : v.ownBlock = none ∨ v.ownBlock ≠ row) : OwnB w' base v l :=
  World.ownsRow.kept h hg hne
theorem OwnB.lt {w : World} {base : Nat} {v : Value} {l : List Bool} (h : OwnB w base v l) : ∀ k, v.ownBlock = some k → base ≤ k ∧ k < w.heap.size := World.ownsRow.lt h
/-- An empty slice, written out. -/
theorem OwnB.lit0 (w : World) (base : Nat) (hb : base ≤ w.heap.size) : OwnB (w.alloc (.cells #[] 4)) base (.slice (some ⟨w.heap.size, 0, none⟩) 0 0) [] :=
  World.ownsRow_lit w #[] 0 hb (by unfold maxLen; omega) rfl

theorem bools_one (l : List Bool) : ∀ u ∈ l.map Value.bool, u.oneCell' = true := fun u hu => by
  obtain ⟨q, _, rfl⟩ := List.mem_map.1 hu
  rfl
/-- 'append([]bool{}, x...)'. -/
theorem copy_bool {wr : World} {ops : Array Oper} {rest : List Oper} {o : Oper} {a : Act} {Q : Exit → Act → World → Prop} (hgd : o.guard = none) (s x : Operand)
    (ho : o.op = .call { callee := .builtin .append, args := #[s, x], argTypes := #[61, 61] })
    (base g n cap : Nat) (l : List Bool) (hs : a.eval s = .slice (some ⟨wr.heap.size, 0, none⟩) 0 0) (hx : a.eval x = .slice (some ⟨g, 0, none⟩) n cap) (hT : TabB wr base g n cap l) (h0 : 0 < n) (hl : n < 1000000)
    (h : ∀ v' w', OwnB w' wr.heap.size v' l → Below wr.heap.size wr w' → wpList Try.prog ops Q rest (a.put o.dst v') w') :
    wpList Try.prog ops Q (o :: rest) a (wr.alloc (.cells #[] 4)) := by
  obtain ⟨i0, hi, hz0, hz1, hz2⟩ := info_parts infoBool
  have hlen := hT.len
  have hlit := OwnB.lit0 wr wr.heap.size (Nat.le_refl _)
  have hbl := hT.block
  refine wpList_append_own _ hgd s x 61 ho wr.heap.size 4 i0 (.bool false) 1 1 Try.underlying61 hi hz0 hz1 hz2 rfl (by decide) _ 0 _ hs hlit ⟨g, 0, none⟩ n cap (l.map Value.bool) hx (by simp [hlen]) ?c1 ?c2 ?c3 ?c4 ?c5 fun v' w' h1 h2 _ => h v' w' ?_ ?_
  case c1 =>
    intro j u hu
    have hj : j < l.length := by simpa using (List.getElem?_eq_some_iff.1 hu).1
    rw [getDB_map hj] at hu
    obtain rfl := Option.some.inj hu
    obtain ⟨q, hc, hq⟩ := hT.get (k := j) (by omega)
    rw [Addr.add_lit, World.cell?_alloc_past _ _ _ hbl.2, Nat.zero_add, hc, ← hq.out]
  case c2 => exact bools_one l
  case c3 => unfold maxLen; omega
  case c4 => omega
  case c5 => simp
  · unfold OwnB
    simpa [hlen] using h1
  · exact ((Below.refl _ _).alloc (Nat.le_refl _) _).grown h2 (by simp) (fun q hq => by simp [Value.ownBlock] at hq; omega)
/-- 'append([]int{}, x...)'. -/
theorem copy_int {wr : World} {ops : Array Oper} {rest : List Oper} {o : Oper} {a : Act} {Q : Exit → Act → World → Prop} (hgd : o.guard = none) (s x : Operand)
    (ho : o.op = .call { callee := .builtin .append, args := #[s, x], argTypes := #[24, 24] })
    (base g n cap : Nat) (l : List Int) (hs : a.eval s = .slice (some ⟨wr.heap.size, 0, none⟩) 0 0) (hx : a.eval x = .slice (some ⟨g, 0, none⟩) n cap) (hT : Tab wr base g n cap l) (h0 : 0 < n) (hl : n < 1000000)
    (h : ∀ v' w', Own w' wr.heap.size v' l → Below wr.heap.size wr w' → wpList Try.prog ops Q rest (a.put o.dst v') w') :
    wpList Try.prog ops Q (o :: rest) a (wr.alloc (.cells #[] 3)) := by
  obtain ⟨i0, hi, hz0, hz1, hz2⟩ := info_parts infoInt
  have hlen := hT.len
  have hlit := Own.lit0 wr wr.heap.size (Nat.le_refl _)
  have hbl := hT.block
  refine wpList_append_own _ hgd s x 24 ho wr.heap.size 3 i0 (.int .i64 0) 1 8 Try.underlying24 hi hz0 hz1 hz2 rfl (by decide) _ 0 _ hs hlit ⟨g, 0, none⟩ n cap (l.map (Value.int .i64)) hx (by simp [hlen]) ?c1 (ints_oneCell _ _) ?c3 ?c4 ?c5 fun v' w' h1 h2 _ => h v' w' ?_ ?_
  case c1 =>
    intro j u hu
    have hj : j < l.length := by simpa using (List.getElem?_eq_some_iff.1 hu).1
    rw [getD_map hj] at hu
    obtain rfl := Option.some.inj hu
    obtain ⟨q, hc, hq⟩ := hT.get (k := j) (by omega)
    rw [Addr.add_lit, World.cell?_alloc_past _ _ _ hbl.2, Nat.zero_add, hc, ← hq.out]
  case c3 => unfold maxLen; omega
  case c4 => omega
  case c5 => simp
  · unfold Own
    simpa [hlen] using h1
  · exact ((Below.refl _ _).alloc (Nat.le_refl _) _).grown h2 (by simp) (fun q hq => by simp [Value.ownBlock] at hq; omega)
end Go.Proofs.Ytapkalpmnldhpaa
