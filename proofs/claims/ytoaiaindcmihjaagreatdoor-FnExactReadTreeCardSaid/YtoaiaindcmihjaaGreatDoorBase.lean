/-
  THE WORDS OF ALL THESE PROOFS: a slice of ints that reads as a list; small facts on worlds.
-/
import Derived.Test.YtoaiaindcmihjaaGreatDoorRows
import Derived.WalkKit
import Derived.WalkSpells
import Derived.WalkLawsBesides
import Derived.Lib.Hide
import Derived.BigQuiet
import Derived.Deep.QuietTactic
import Derived.Deep.LoopGhost
import Derived.StillTailTactics
namespace Go.Proofs.YtoaiaindcmihjaaGreatDoor
open Go.RowKit

theorem ret_int {k : IntKind} {a b : Int} (h : a = b) : Ending.returned (.int k a) = .returned (.int k b) := by rw [h]
theorem ret_bool {a b : Bool} (h : a = b) : Ending.returned (.bool a) = .returned (.bool b) := by rw [h]

/-- A number that an int holds. -/
def In64 (n : Int) : Prop := -9223372036854775808 ≤ n ∧ n ≤ 9223372036854775807

/-- The cells from an address on hold the numbers of a list. -/
def CellsAt (w : World) (b off : Nat) (l : List Int) : Prop := ∀ i, i < l.length → w.cell? ⟨b, off + i, none⟩ = some (.int .i64 (l.getD i 0))

theorem CellsAt.below {B : Nat} {w w' : World} (h : Below B w w') {b off : Nat} {l : List Int} (hb : b < B) (hc : CellsAt w b off l) : CellsAt w' b off l :=
  fun i hi => (h.cell (p := ⟨b, off + i, none⟩) hb).trans (hc i hi)

/-- The slice (its address, its length) reads as the list. -/
def Reads (w : World) (a : Option Addr) (l : List Int) : Prop := l = [] ∨ ∃ b off, a = some ⟨b, off, none⟩ ∧ b < w.heap.size ∧ CellsAt w b off l

theorem Reads.below {w w' : World} (h : Below w.heap.size w w') {a : Option Addr} {l : List Int} (hc : Reads w a l) : Reads w' a l := by
  rcases hc with h0 | ⟨b, off, ha, hb, hc⟩
  · exact .inl h0
  · exact .inr ⟨b, off, ha, Nat.lt_of_lt_of_le hb h.size, hc.below h hb⟩

/-- An element, by a name of its own. -/
theorem Reads.get {w : World} {a : Option Addr} {l : List Int} (h : Reads w a l) {k : Nat} (hk : k < l.length) :
    ∃ b off x, a = some ⟨b, off, none⟩ ∧ b < w.heap.size ∧ w.cell? ⟨b, off + k, none⟩ = some (.int .i64 x) ∧ Hid (l.getD k 0 = x) := by
  rcases h with rfl | ⟨b, off, ha, hb, hc⟩
  · simp at hk
  · exact ⟨b, off, _, ha, hb, hc k hk, rfl⟩

theorem Reads.at_ {w : World} {b off : Nat} {l : List Int} (h : Reads w (some ⟨b, off, none⟩) l) {k : Nat} (hk : k < l.length) :
    ∃ x, w.cell? ⟨b, off + k, none⟩ = some (.int .i64 x) ∧ Hid (l.getD k 0 = x) := by
  obtain ⟨b', off', x, e, _, hc, hx⟩ := h.get hk
  cases e
  exact ⟨x, hc, hx⟩
theorem Reads.nil (w : World) (a : Option Addr) : Reads w a [] := .inl rfl

/-- The slice value is the call's own (its block lies from base on) and reads as the list. -/
def Own (w : World) (base : Nat) (v : Value) (l : List Int) : Prop := w.ownsRow base 3 1 v l.length (l.map (Value.int .i64))

theorem Own.nil (w : World) (base : Nat) : Own w base (.slice none 0 0) [] := World.ownsRow_nil _ _ _ _

theorem getD_map {l : List Int} {i : Nat} (h : i < l.length) : (l.map (Value.int .i64))[i]? = some (.int .i64 (l.getD i 0)) := by
  simp [List.getD, h]

/-- Its shape, and that it can be read. -/
theorem Own.form {w : World} {base : Nat} {v : Value} {l : List Int} (h : Own w base v l) :
    ∃ a cap, v = .slice a l.length cap ∧ Reads w a l ∧ l.length ≤ cap ∧ cap ≤ maxLen ∧ (∀ x, a = some x → x.off = 0 ∧ x.spot = none ∧ base ≤ x.block ∧ x.block < w.heap.size) := by
  rcases h.2 with ⟨rfl, h0⟩ | ⟨g, cap, cur, rfl, hb, hg, hn, hm, hs, ht⟩
  · refine ⟨none, 0, by rw [h0], .inl (List.eq_nil_of_length_eq_zero h0), by omega, by unfold maxLen; omega, fun x hx => by cases hx⟩
  · refine ⟨some ⟨g, 0, none⟩, cap, rfl, .inr ⟨g, 0, rfl, (Array.getElem?_eq_some_iff.1 hg).1, fun i hi => ?_⟩, hn, hm, fun x hx => by cases hx; exact ⟨rfl, rfl, hb, (Array.getElem?_eq_some_iff.1 hg).1⟩⟩
    rw [World.ownsRow.cellAt h (0 + i) (by omega), Nat.zero_add]
    exact getD_map hi

theorem Own.reads {w : World} {base : Nat} {a : Option Addr} {n cap : Nat} {l : List Int} (h : Own w base (.slice a n cap) l) : Reads w a l := by
  obtain ⟨a', cap', hv, hr, _⟩ := h.form
  cases hv; exact hr

/-- What is owned stays owned where nothing below a later base is written. -/
theorem Own.below {w w' : World} {base : Nat} {v : Value} {l : List Int} (hb : Below w.heap.size w w') (h : Own w base v l) : Own w' base v l := by
  refine ⟨h.1, ?_⟩
  rcases h.2 with hn | ⟨g, cap, cur, hv, hbg, hg, r⟩
  · exact .inl hn
  · exact .inr ⟨g, cap, cur, hv, hbg, (hb.block g (Array.getElem?_eq_some_iff.1 hg).1).trans hg, r⟩

theorem Own.mono {w : World} {base base' : Nat} {v : Value} {l : List Int} (h : Own w base v l) (hb : base' ≤ base) : Own w base' v l := by
  refine ⟨h.1, ?_⟩
  rcases h.2 with hn | ⟨g, cap, cur, hv, hbg, r⟩
  · exact .inl hn
  · exact .inr ⟨g, cap, cur, hv, by omega, r⟩

theorem bcell {B : Nat} {W w1 : World} (hb : Below B W w1) : (∀ b o, b < B → w1.cell? ⟨b, o, none⟩ = W.cell? ⟨b, o, none⟩) ∧ (∀ b o, b < B → w1.frozen? ⟨b, o, none⟩ = W.frozen? ⟨b, o, none⟩) :=
  ⟨fun b o h => hb.cell (p := ⟨b, o, none⟩) h, fun b o h => hb.frozen (p := ⟨b, o, none⟩) h⟩

/-- The element type int in the program's table. -/
theorem infoInt : (Tryz.prog.info? 3).map (fun i => (i.zero, i.size, i.bytes)) = some (some (.int .i64 0), 1, 8) := by kernel_rfl

/-- What the row's frame says of a slice of ints that came in: it reads as a list. -/
theorem reads_of_row {w : World} {a : Option Addr} {len cap : Nat} {zs : List Int}
    (h : (a = none ∧ len = 0 ∧ cap = 0 ∧ zs = []) ∨
      ∃ x, a = some x ∧ len ≤ cap ∧ cap ≤ maxLen ∧ zs.length = cap ∧ (∀ i, i < zs.length → w.cell? (x.add i) = some (.int .i64 (zs.getD i 0))) ∧ ∀ n ∈ zs, (Lit.int .i64 n).wf = true) :
    ∃ l : List Int, l.length = len ∧ Reads w a l ∧ (∀ n ∈ l, In64 n) ∧ len ≤ 9223372036854775807 := by
  rcases h with ⟨rfl, rfl, rfl, rfl⟩ | ⟨x, rfl, h1, h2, h3, h4, h5⟩
  · exact ⟨[], rfl, .inl rfl, by simp, by omega⟩
  · have hlen : (zs.take len).length = len := by simp; omega
    unfold maxLen at h2
    refine ⟨zs.take len, hlen, ?_, ?_, by omega⟩
    · by_cases h0 : len = 0
      · exact .inl (by rw [h0]; rfl)
      · obtain ⟨b, off, spot⟩ := x
        have hc := h4 0 (by omega)
        have hspot : spot = none := by simpa [Addr.add] using World.cell?_spot hc
        subst hspot
        refine .inr ⟨b, off, rfl, ?_, fun i hi => ?_⟩
        · have := World.block_lt_of_cell? w _ hc
          simpa [Addr.add] using this
        · rw [hlen] at hi
          have := h4 i (by omega)
          rw [Addr.add_lit] at this
          rw [this]
          simp [List.getD, hi]
    · intro n hn
      have := h5 n (List.mem_of_mem_take hn)
      simp [Lit.wf, IntKind.min, IntKind.max, IntKind.signed, IntKind.bits] at this
      exact this

/-- A table: a slice of n ints at the head of block g, one of the call's own. -/
def Tab (w : World) (base g n cap : Nat) (l : List Int) : Prop := w.ownsRow base 3 1 (.slice (some ⟨g, 0, none⟩) n cap) n (l.map (Value.int .i64))

section
variable {w : World} {base g n cap : Nat} {l : List Int}
theorem Tab.len (h : Tab w base g n cap l) : l.length = n := by simpa using h.1
theorem Tab.get (h : Tab w base g n cap l) {k : Nat} (hk : k < n) : ∃ x, w.cell? ⟨g, k, none⟩ = some (.int .i64 x) ∧ Hid (l.getD k 0 = x) :=
  ⟨_, by rw [World.ownsRow.cellAt h k (by omega)]; exact getD_map (by rw [h.len]; exact hk), rfl⟩
theorem Tab.frozen (h : Tab w base g n cap l) (k : Nat) : w.frozen? ⟨g, k, none⟩ = false := World.ownsRow.frozenAt h k
theorem Tab.store (h : Tab w base g n cap l) (k : Nat) (x : Int) : Tab (w.setCell ⟨g, k, none⟩ (.int .i64 x)) base g n cap (l.set k x) := by
  unfold Tab; rw [List.map_set]; exact (World.ownsRow.stored h k _).1
theorem Tab.block (h : Tab w base g n cap l) : base ≤ g ∧ g < w.heap.size := World.ownsRow.lt h g rfl
theorem Tab.own (h : Tab w base g n cap l) : Own w base (.slice (some ⟨g, 0, none⟩) n cap) l := by
  have e := h.len; unfold Own; rw [e]; exact h
theorem Tab.below {w' : World} (hb : Below w.heap.size w w') (h : Tab w base g n cap l) : Tab w' base g n cap l := by
  have e := h.len; have := h.own.below hb; unfold Own at this; rw [e] at this; exact this
theorem Tab.reads (h : Tab w base g n cap l) : Reads w (some ⟨g, 0, none⟩) l := h.own.reads
end
theorem Own.tab {w : World} {base : Nat} {v : Value} {l : List Int} (h : Own w base v l) (hl : l.length ≠ 0) : ∃ g cap, v = .slice (some ⟨g, 0, none⟩) l.length cap ∧ Tab w base g l.length cap l := by
  have h' := h
  rcases h.2 with ⟨_, h0⟩ | ⟨g, cap, cur, rfl, r⟩
  · exact absurd h0 hl
  · exact ⟨g, cap, rfl, h'⟩

/-- 'append(s, y)' of one int onto a slice of the call's own: the new element lies in a block of its own. -/
theorem push_int {wr : World} {ops : Array Oper} {rest : List Oper} {o : Oper} {a : Act} {Q : Exit → Act → World → Prop} (hgd : o.guard = none) (s x : Operand)
    (ho : o.op = .call { callee := .builtin .append, args := #[s, x], argTypes := #[23, 23] })
    (base : Nat) (v : Value) (l : List Int) (y : Int) (hs : a.eval s = v) (hown : Own wr base v l) (hx : a.eval x = .slice (some ⟨wr.heap.size, 0, none⟩) 1 1)
    (hl : l.length < 1000000000000) (hbase : base ≤ wr.heap.size)
    (h : ∀ v' w', Own w' base v' (l ++ [y]) → v' ≠ .slice none 0 0 → wr.grownBy w' v.ownBlock → wpList Tryz.prog ops Q rest (a.put o.dst v') w') :
    wpList Tryz.prog ops Q (o :: rest) a (wr.alloc (.cells #[.int .i64 y] 3)) := by
  obtain ⟨i0, hi, hz0, hz1, hz2⟩ := info_parts infoInt
  refine wpList_append_own _ hgd s x 23 ho base 3 i0 (.int .i64 0) 1 8 Tryz.underlying23 hi hz0 hz1 hz2 rfl (by decide) v l.length (l.map (Value.int .i64)) hs (World.ownsRow.alloc hown _) ⟨wr.heap.size, 0, none⟩ 1 1 [.int .i64 y] hx rfl (cell_one_new _ _ _) (fun u hu => by simp at hu; subst hu; rfl) (by unfold maxLen; omega) (by omega) (by simp; omega) fun v' w' h1 h2 h3 => h v' w' ?_ ?_ ?_
  · unfold Own
    rw [List.length_append, List.map_append]
    exact h1
  · intro e
    have := (h3.1 e).2
    omega
  · refine ⟨h2.os, h2.tape, h2.output, Nat.le_trans (by simp) h2.size, fun k hk hne => ?_⟩
    rw [h2.block k (by simp; omega) hne]; exact Below.heap_alloc _ _ _ hk

theorem Own.kept {w w' : World} {base : Nat} {v : Value} {l : List Int} {row : Option Nat} (h : Own w base v l) (hg : w.grownBy w' row) (hne : v.ownBlock = none ∨ v.ownBlock ≠ row) : Own w' base v l :=
  World.ownsRow.kept h hg hne
theorem Own.lt {w : World} {base : Nat} {v : Value} {l : List Int} (h : Own w base v l) : ∀ k, v.ownBlock = some k → base ≤ k ∧ k < w.heap.size := World.ownsRow.lt h
/-- An empty slice, written out. -/
theorem Own.lit0 (w : World) (base : Nat) (hb : base ≤ w.heap.size) : Own (w.alloc (.cells #[] 3)) base (.slice (some ⟨w.heap.size, 0, none⟩) 0 0) [] :=
  World.ownsRow_lit w #[] 0 hb (by unfold maxLen; omega) rfl
theorem Below.grownB {B : Nat} {a w w' : World} {base : Nat} {v : Value} {l : List Int} (h : Below B a w) (ho : Own w base v l) (hg : w.grownBy w' v.ownBlock) (hB : B ≤ w.heap.size) (hb : B ≤ base) : Below B a w' :=
  h.grown hg hB fun k hk => Nat.le_trans hb (ho.lt k hk).1

theorem Reads.mono {w w' : World} {B : Nat} (h : Below B w w') (hB : w.heap.size ≤ B) {a : Option Addr} {l : List Int} (hc : Reads w a l) : Reads w' a l := hc.below (h.mono hB)
/-- Two slices that were made one behind the other lie apart. -/
theorem apart_of {a b : Option Nat} {lo hi lo' hi' : Nat} (h : Hid (∀ k, a = some k → lo ≤ k ∧ k < hi)) (h' : Hid (∀ k, b = some k → lo' ≤ k ∧ k < hi')) (hd : hi ≤ lo' ∨ hi' ≤ lo) : a = none ∨ a ≠ b := by
  cases a with
  | none => exact .inl rfl
  | some k =>
    refine .inr fun e => ?_
    have h1 := h.out k rfl
    have h2 := h'.out k e.symm
    omega

theorem below_all {p : Nat → Prop} {k : Nat} (h : ∀ i, i < k → p i) (hk : p k) : ∀ i, i < k + 1 → p i := by
  intro i hi
  by_cases e : i = k
  · subst e; exact hk
  · exact h i (by omega)

/-- A region that draws: reads and quiet calls, then a tail (a store). The world by its name. -/
theorem region_tail {P : Program} {id : Nat} {Q : Exit → Act → World → Prop} {a : Act} {w : World} {l : List Oper} (n : Nat) (hm : P.follows .mixedOrders = true) (hB : Region.lexTailB .any l.toArray n = true)
    (h : wpStill P l.toArray w.drew (fun a' => wpList P l.toArray Q (l.drop n) a' w.drew) (l.take n) a) : (Code.region id l.toArray true).wp P Q a w :=
  wp_region_still_tail n hm hB h
/-- A contract that leaves the world alone, as a quiet region wants it. -/
theorem still_of {P : Program} {f : FuncId} {args : Array Value} {w : World} {v : Value} (h : Calls P f args w fun e w' => e = .returned v ∧ w = w') : Calls P f args w fun e w' => e = .returned v ∧ w' = w :=
  h.mono fun _ _ ⟨a, b⟩ => ⟨a, b.symm⟩

theorem in64_of_wf {n : Int} (h : (Lit.int .i64 n).wf = true) : In64 n := by
  simp [Lit.wf, IntKind.min, IntKind.max, IntKind.signed, IntKind.bits] at h
  exact h

end Go.Proofs.YtoaiaindcmihjaaGreatDoor
