
import Derived.Test.YtoaiaindcmihjaaGreatDoorRows
import Derived.WalkKit
import Derived.WalkSpells
import Derived.WalkLawsBesides
import Derived.Lib.Hide
import Derived.BigQuiet
import Derived.Deep.QuietTactic
import Derived.Deep.LoopGhost
import Derived.StillTailTactics
/-
  THE WORDS OF ALL THESE PROOFS: a slice of ints that reads as a list; small facts on worlds.
-/
namespace Go.Proofs.YtoaiaindcmihjaaGreatDoor
open Go.RowKit

theorem ret_int {k : IntKind} {a b : Int} (h : a = b) : Ending.returned (.int k a) = .returned (.int k b) := by rw [h]
theorem ret_bool {a b : Bool} (h : a = b) : Ending.returned (.bool a) = .returned (.bool b) := by rw [h]

/-- A number that an int holds. -/
def In64 (n : Int) : Prop := -9223372036854775808 ≤ n ∧ n ≤ 9223372036854775807

/-- The cells from an address on hold the numbers of a list. -/
def CellsAt (w : World) (b off : Nat) (l : List Int) : Prop := ∀ i, i < l.length → w.cell? ⟨b, off + i, none⟩ = some (.int .i64 (l.getD i 0))

theorem CellsAt.below {B : Nat} {w w' : World} (h : Below B w w') {b off : Nat} {l : List Int} (hb : b < B) (hc : CellsAt w b off l) : CellsAt w' b off l :=
  fun i hi => (h.cell (p := ⟨b, off + i, none⟩) hb).trans (hc i hi)

/-- The slice (its address, its length) reads as the list. -/
def Reads (w : World) (a : Option Addr) (l : List Int) : Prop := l = [] ∨ ∃ b off, a = some ⟨b, off, none⟩ ∧ b < w.heap.size ∧ CellsAt w b off l

theorem Reads.below {w w' : World} (h : Below w.heap.size w w') {a : Option Addr} {l : List Int} (hc : Reads w a l) : Reads w' a l := by
  rcases hc with h0 | ⟨b, off, ha, hb, hc⟩
  · exact .inl h0
  · exact .inr ⟨b, off, ha, Nat.lt_of_lt_of_le hb h.size, hc.below h hb⟩

/-- An element, by a name of its own. -/
theorem Reads.get {w : World} {a : Option Addr} {l : List Int} (h : Reads w a l) {k : Nat} (hk : k < l.length) :
    ∃ b off x, a = some ⟨b, off, none⟩ ∧ b < w.heap.size ∧ w.cell? ⟨b, off + k, none⟩ = some (.int .i64 x) ∧ Hid (l.getD k 0 = x) := by
  rcases h with rfl | ⟨b, off, ha, hb, hc⟩
  · simp at hk
  · exact ⟨b, off, _, ha, hb, hc k hk, rfl⟩

theorem Reads.at_ {w : World} {b off : Nat} {l : List Int} (h : Reads w (some ⟨b, off, none⟩) l) {k : Nat} (hk : k < l.length) :
    ∃ x, w.cell? ⟨b, off + k, none⟩ = some (.int .i64 x) ∧ Hid (l.getD k 0 = x) := by
  obtain ⟨b', off', x, e, _, hc, hx⟩ := h.get hk
  cases e
  exact ⟨x, hc, hx⟩
theorem Reads.nil (w : World) (a : Option Addr) : Reads w a [] := .inl rfl

/-- The slice value is the call's own (its block lies from base on) and reads as the list. -/
def Own (w : World) (base : Nat) (v : Value) (l : List Int) : Prop := w.ownsRow base 3 1 v l.length (l.map (Value.int .i64))

theorem Own.nil (w : World) (base : Nat) : Own w base (.slice none 0 0) [] := World.ownsRow_nil _ _ _ _

theorem getD_map {l : List Int} {i : Nat} (h : i < l.length) : (l.map (Value.int .i64))[i]? = some (.int .i64 (l.getD i 0)) := by
  simp [List.getD, h]

/-- Its shape, and that it can be read. -/
theorem Own.form {w : World} {base : Nat} {v : Value} {l : List Int} (h : Own w base v l) :
    ∃ a cap, v = .slice a l.length cap ∧ Reads w a l ∧ l.length ≤ cap ∧ cap ≤ maxLen ∧ (∀ x, a = some x → x.off = 0 ∧ x.spot = none ∧ base ≤ x.block ∧ x.block < w.heap.size) := by
  rcases h.2 with ⟨rfl, h0⟩ | ⟨g, cap, cur, rfl, hb, hg, hn, hm, hs, ht⟩
  · refine ⟨none, 0, by rw [h0], .inl (List.eq_nil_of_length_eq_zero h0), by omega, by unfold maxLen; omega, fun x hx => by cases hx⟩
  · refine ⟨some ⟨g, 0, none⟩, cap, rfl, .inr ⟨g, 0, rfl, (Array.getElem?_eq_some_iff.1 hg).1, fun i hi => ?_⟩, hn, hm, fun x hx => by cases hx; exact ⟨rfl, rfl, hb, (Array.getElem?_eq_some_iff.1 hg).1⟩⟩
    rw [World.ownsRow.cellAt h (0 + i) (by omega), Nat.zero_add]
    exact getD_map hi

theorem Own.reads {w : World} {base : Nat} {a : Option Addr} {n cap : Nat} {l : List Int} (h : Own w base (.slice a n cap) l) : Reads w a l := by
  obtain ⟨a', cap', hv, hr, _⟩ := h.form
  cases hv; exact hr

/-- What is owned stays owned where nothing below a later base is written. -/
theorem Own.below {w w' : World} {base : Nat} {v : Value} {l : List Int} (hb : Below w.heap.size w w') (h : Own w base v l) : Own w' base v l := by
  refine ⟨h.1, ?_⟩
  rcases h.2 with hn | ⟨g, cap, cur, hv, hbg, hg, r⟩
  · exact .inl hn
  · exact .inr ⟨g, cap, cur, hv, hbg, (hb.block g (Array.getElem?_eq_some_iff.1 hg).1).trans hg, r⟩

theorem Own.mono {w : World} {base base' : Nat} {v : Value} {l : List Int} (h : Own w base v l) (hb : base' ≤ base) : Own w base' v l := by
  refine ⟨h.1, ?_⟩
  rcases h.2 with hn | ⟨g, cap, cur, hv, hbg, r⟩
  · exact .inl hn
  · exact .inr ⟨g, cap, cur, hv, by omega, r⟩

theorem bcell {B : Nat} {W w1 : World} (hb : Below B W w1) : (∀ b o, b < B → w1.cell? ⟨b, o, none⟩ = W.cell? ⟨b, o, none⟩) ∧ (∀ b o, b < B → w1.frozen? ⟨b, o, none⟩ = W.frozen? ⟨b, o, none⟩) :=
  ⟨fun b o h => hb.cell (p := ⟨b, o, none⟩) h, fun b o h => hb.frozen (p := ⟨b, o, none⟩) h⟩

/-- The element type int in the program's table. -/
theorem infoInt : (Tryz.prog.info? 3).map (fun i => (i.zero, i.size, i.bytes)) = some (some (.int .i64 0), 1, 8) := by kernel_rfl

/-- What the row's frame says of a slice of ints that came in: it reads as a list. -/
theorem reads_of_row {w : World} {a : Option Addr} {len cap : Nat} {zs : List Int}
    (h : (a = none ∧ len = 0 ∧ cap = 0 ∧ zs = []) ∨
      ∃ x, a = some x ∧ len ≤ cap ∧ cap ≤ maxLen ∧ zs.length = cap ∧ (∀ i, i < zs.length → w.cell? (x.add i) = some (.int .i64 (zs.getD i 0))) ∧ ∀ n ∈ zs, (Lit.int .i64 n).wf = true) :
    ∃ l : List Int, l.length = len ∧ Reads w a l ∧ (∀ n ∈ l, In64 n) ∧ len ≤ 9223372036854775807 := by
  rcases h with ⟨rfl, rfl, rfl, rfl⟩ | ⟨x, rfl, h1, h2, h3, h4, h5⟩
  · exact ⟨[], rfl, .inl rfl, by simp, by omega⟩
  · have hlen : (zs.take len).length = len := by simp; omega
    unfold maxLen at h2
    refine ⟨zs.take len, hlen, ?_, ?_, by omega⟩
    · by_cases h0 : len = 0
      · exact .inl (by rw [h0]; rfl)
      · obtain ⟨b, off, spot⟩ := x
        have hc := h4 0 (by omega)
        have hspot : spot = none := by simpa [Addr.add] using World.cell?_spot hc
        subst hspot
        refine .inr ⟨b, off, rfl, ?_, fun i hi => ?_⟩
        · have := World.block_lt_of_cell? w _ hc
          simpa [Addr.add] using this
        · rw [hlen] at hi
          have := h4 i (by omega)
          rw [Addr.add_lit] at this
          rw [this]
          simp [List.getD, hi]
    · intro n hn
      have := h5 n (List.mem_of_mem_take hn)
      simp [Lit.wf, IntKind.min, IntKind.max, IntKind.signed, IntKind.bits] at this
      exact this

/-- A table: a slice of n ints at the head of block g, one of the call's own. -/
def Tab (w : World) (base g n cap : Nat) (l : List Int) : Prop := w.ownsRow base 3 1 (.slice (some ⟨g, 0, none⟩) n cap) n (l.map (Value.int .i64))

section
variable {w : World} {base g n cap : Nat} {l : List Int}
theorem Tab.len (h : Tab w base g n cap l) : l.length = n := by simpa using h.1
theorem Tab.get (h : Tab w base g n cap l) {k : Nat} (hk : k < n) : ∃ x, w.cell? ⟨g, k, none⟩ = some (.int .i64 x) ∧ Hid (l.getD k 0 = x) :=
  ⟨_, by rw [World.ownsRow.cellAt h k (by omega)]; exact getD_map (by rw [h.len]; exact hk), rfl⟩
theorem Tab.frozen (h : Tab w base g n cap l) (k : Nat) : w.frozen? ⟨g, k, none⟩ = false := World.ownsRow.frozenAt h k
theorem Tab.store (h : Tab w base g n cap l) (k : Nat) (x : Int) : Tab (w.setCell ⟨g, k, none⟩ (.int .i64 x)) base g n cap (l.set k x) := by
  unfold Tab; rw [List.map_set]; exact (World.ownsRow.stored h k _).1
theorem Tab.block (h : Tab w base g n cap l) : base ≤ g ∧ g < w.heap.size := World.ownsRow.lt h g rfl
theorem Tab.own (h : Tab w base g n cap l) : Own w base (.slice (some ⟨g, 0, none⟩) n cap) l := by
  have e := h.len; unfold Own; rw [e]; exact h
theorem Tab.below {w' : World} (hb : Below w.heap.size w w') (h : Tab w base g n cap l) : Tab w' base g n cap l := by
  have e := h.len; have := h.own.below hb; unfold Own at this; rw [e] at this; exact this
theorem Tab.reads (h : Tab w base g n cap l) : Reads w (some ⟨g, 0, none⟩) l := h.own.reads
end
theorem Own.tab {w : World} {base : Nat} {v : Value} {l : List Int} (h : Own w base v l) (hl : l.length ≠ 0) : ∃ g cap, v = .slice (some ⟨g, 0, none⟩) l.length cap ∧ Tab w base g l.length cap l := by
  have h' := h
  rcases h.2 with ⟨_, h0⟩ | ⟨g, cap, cur, rfl, r⟩
  · exact absurd h0 hl
  · exact ⟨g, cap, rfl, h'⟩

/-- 'append(s, y)' of one int onto a slice of the call's own: the new element lies in a block of its own. -/
theorem push_int {wr : World} {ops : Array Oper} {rest : List Oper} {o : Oper} {a : Act} {Q : Exit → Act → World → Prop} (hgd : o.guard = none) (s x : Operand)
    (ho : o.op = .call { callee := .builtin .append, args := #[s, x], argTypes := #[23, 23] })
    (base : Nat) (v : Value) (l : List Int) (y : Int) (hs : a.eval s = v) (hown : Own wr base v l) (hx : a.eval x = .slice (some ⟨wr.heap.size, 0, none⟩) 1 1)
    (hl : l.length < 1000000000000) (hbase : base ≤ wr.heap.size)
    (h : ∀ v' w', Own w' base v' (l ++ [y]) → v' ≠ .slice none 0 0 → wr.grownBy w' v.ownBlock → wpList Tryz.prog ops Q rest (a.put o.dst v') w') :
    wpList Tryz.prog ops Q (o :: rest) a (wr.alloc (.cells #[.int .i64 y] 3)) := by
  obtain ⟨i0, hi, hz0, hz1, hz2⟩ := info_parts infoInt
  refine wpList_append_own _ hgd s x 23 ho base 3 i0 (.int .i64 0) 1 8 Tryz.underlying23 hi hz0 hz1 hz2 rfl (by decide) v l.length (l.map (Value.int .i64)) hs (World.ownsRow.alloc hown _) ⟨wr.heap.size, 0, none⟩ 1 1 [.int .i64 y] hx rfl (cell_one_new _ _ _) (fun u hu => by simp at hu; subst hu; rfl) (by unfold maxLen; omega) (by omega) (by simp; omega) fun v' w' h1 h2 h3 => h v' w' ?_ ?_ ?_
  · unfold Own
    rw [List.length_append, List.map_append]
    exact h1
  · intro e
    have := (h3.1 e).2
    omega
  · refine ⟨h2.os, h2.tape, h2.output, Nat.le_trans (by simp) h2.size, fun k hk hne => ?_⟩
    rw [h2.block k (by simp; omega) hne]; exact Below.heap_alloc _ _ _ hk

theorem Own.kept {w w' : World} {base : Nat} {v : Value} {l : List Int} {row : Option Nat} (h : Own w base v l) (hg : w.grownBy w' row) (hne : v.ownBlock = none ∨ v.ownBlock ≠ row) : Own w' base v l :=
  World.ownsRow.kept h hg hne
theorem Own.lt {w : World} {base : Nat} {v : Value} {l : List Int} (h : Own w base v l) : ∀ k, v.ownBlock = some k → base ≤ k ∧ k < w.heap.size := World.ownsRow.lt h
/-- An empty slice, written out. -/
theorem Own.lit0 (w : World) (base : Nat) (hb : base ≤ w.heap.size) : Own (w.alloc (.cells #[] 3)) base (.slice (some ⟨w.heap.size, 0, none⟩) 0 0) [] :=
  World.ownsRow_lit w #[] 0 hb (by unfold maxLen; omega) rfl
theorem Below.grownB {B : Nat} {a w w' : World} {base : Nat} {v : Value} {l : List Int} (h : Below B a w) (ho : Own w base v l) (hg : w.grownBy w' v.ownBlock) (hB : B ≤ w.heap.size) (hb : B ≤ base) : Below B a w' :=
  h.grown hg hB fun k hk => Nat.le_trans hb (ho.lt k hk).1

theorem Reads.mono {w w' : World} {B : Nat} (h : Below B w w') (hB : w.heap.size ≤ B) {a : Option Addr} {l : List Int} (hc : Reads w a l) : Reads w' a l := hc.below (h.mono hB)
/-- Two slices that were made one behind the other lie apart. -/
theorem apart_of {a b : Option Nat} {lo hi lo' hi' : Nat} (h : Hid (∀ k, a = some k → lo ≤ k ∧ k < hi)) (h' : Hid (∀ k, b = some k → lo' ≤ k ∧ k < hi')) (hd : hi ≤ lo' ∨ hi' ≤ lo) : a = none ∨ a ≠ b := by
  cases a with
  | none => exact .inl rfl
  | some k =>
    refine .inr fun e => ?_
    have h1 := h.out k rfl
    have h2 := h'.out k e.symm
    omega

theorem below_all {p : Nat → Prop} {k : Nat} (h : ∀ i, i < k → p i) (hk : p k) : ∀ i, i < k + 1 → p i := by
  intro i hi
  by_cases e : i = k
  · subst e; exact hk
  · exact h i (by omega)

/-- A region that draws: reads and quiet calls, then a tail (a store). The world by its name. -/
theorem region_tail {P : Program} {id : Nat} {Q : Exit → Act → World → Prop} {a : Act} {w : World} {l : List Oper} (n : Nat) (hm : P.follows .mixedOrders = true) (hB : Region.lexTailB .any l.toArray n = true)
    (h : wpStill P l.toArray w.drew (fun a' => wpList P l.toArray Q (l.drop n) a' w.drew) (l.take n) a) : (Code.region id l.toArray true).wp P Q a w :=
  wp_region_still_tail n hm hB h
/-- A contract that leaves the world alone, as a quiet region wants it. -/
theorem still_of {P : Program} {f : FuncId} {args : Array Value} {w : World} {v : Value} (h : Calls P f args w fun e w' => e = .returned v ∧ w = w') : Calls P f args w fun e w' => e = .returned v ∧ w' = w :=
  h.mono fun _ _ ⟨a, b⟩ => ⟨a, b.symm⟩

theorem in64_of_wf {n : Int} (h : (Lit.int .i64 n).wf = true) : In64 n := by
  simp [Lit.wf, IntKind.min, IntKind.max, IntKind.signed, IntKind.bits] at h
  exact h

end Go.Proofs.YtoaiaindcmihjaaGreatDoor
/-
  spec.inRange, spec.validHomes, spec.ValidHomes, impl.ValidHomes: one function of Lean for all of them.
-/
namespace Go.Proofs.YtoaiaindcmihjaaGreatDoor
open Go.RowKit

def inR (n lo hi : Int) : Bool := decide (lo ≤ n) && decide (n ≤ hi)
theorem inR_yes {n lo hi : Int} (h1 : lo ≤ n) (h2 : n ≤ hi) : inR n lo hi = true := by simp [inR, h1, h2]
theorem inR_no1 {n lo hi : Int} (h1 : n < lo) : inR n lo hi = false := by
  have h : ¬ lo ≤ n := by omega
  simp [inR, h]
theorem inR_no2 {n lo hi : Int} (h1 : hi < n) : inR n lo hi = false := by
  have h : ¬ n ≤ hi := by omega
  simp [inR, h]
theorem inR_iff {n lo hi : Int} : inR n lo hi = true ↔ lo ≤ n ∧ n ≤ hi := by simp [inR]

set_option maxHeartbeats 400000 in
theorem inRange_any (n lo hi : Int) (w : World) :
    Calls Tryz.prog 58 #[.int .i64 n, .int .i64 lo, .int .i64 hi] w fun e w' => e = .returned (.bool (inR n lo hi)) ∧ w = w' := by
  by_cases h1 : lo ≤ n
  · go_enter Tryz.func58, Tryz.ntmps58
    go_wp2
    go_ret
    exact ⟨ret_bool (by simp [inR, h1]), rfl⟩
  · go_enter Tryz.func58, Tryz.ntmps58
    go_wp2
    go_ret
    exact ⟨ret_bool (inR_no1 (by omega)).symm, rfl⟩

/-- ValidHomes, as a function of Lean. -/
def VH (m : Int) (l : List Int) : Bool := decide (1 ≤ m) && decide (m ≤ 10) && decide ((l.length : Int) ≤ m) && l.all fun x => decide (0 ≤ x) && decide (x < m)

theorem VH_iff {m : Int} {l : List Int} : VH m l = true ↔ 1 ≤ m ∧ m ≤ 10 ∧ (l.length : Int) ≤ m ∧ ∀ x ∈ l, 0 ≤ x ∧ x < m := by
  simp [VH, and_assoc]
theorem VH_false {m : Int} {l : List Int} (h : ¬ (1 ≤ m ∧ m ≤ 10 ∧ (l.length : Int) ≤ m ∧ ∀ x ∈ l, 0 ≤ x ∧ x < m)) : VH m l = false := by
  rw [← VH_iff] at h; simpa using h

theorem getD_mem {l : List Int} {k : Nat} (h : k < l.length) : l.getD k 0 ∈ l := by
  rw [List.getD_eq_getElem?_getD, List.getElem?_eq_getElem h]; exact List.getElem_mem h

/-- The first k elements are in range. -/
def Fit (m : Int) (l : List Int) (k : Nat) : Prop := ∀ i, i < k → 0 ≤ l.getD i 0 ∧ l.getD i 0 < m
theorem Fit.succ {m : Int} {l : List Int} {k : Nat} (h : Fit m l k) (h1 : 0 ≤ l.getD k 0) (h2 : l.getD k 0 < m) : Fit m l (k + 1) := by
  intro i hi
  by_cases e : i = k
  · subst e; exact ⟨h1, h2⟩
  · exact h i (by omega)
theorem Fit.all {m : Int} {l : List Int} (h : Fit m l l.length) : ∀ x ∈ l, 0 ≤ x ∧ x < m := by
  intro x hx
  obtain ⟨i, hi, rfl⟩ := List.getElem_of_mem hx
  have := h i hi
  rwa [List.getD_eq_getElem?_getD, List.getElem?_eq_getElem hi] at this
theorem notAll {m : Int} {l : List Int} {k : Nat} (hk : k < l.length) (h : ¬ (0 ≤ l.getD k 0 ∧ l.getD k 0 < m)) : VH m l = false :=
  VH_false fun hh => h (hh.2.2.2 _ (getD_mem hk))

set_option maxHeartbeats 400000 in
theorem implValidHomes_any (m : Int) (a : Option Addr) (l : List Int) (cap : Nat) (w : World) (hr : Reads w a l) :
    Calls Tryz.prog 124 #[.int .i64 m, .slice a l.length cap] w fun e w' => e = .returned (.bool (VH m l)) ∧ w = w' := by
  by_cases h1 : m < 1
  · go_enter Tryz.func124, Tryz.ntmps124
    go_wp2
    go_ret
    exact ⟨ret_bool (VH_false (by omega)).symm, rfl⟩
  by_cases h2 : 10 < m
  · go_enter Tryz.func124, Tryz.ntmps124
    go_wp2
    go_ret
    exact ⟨ret_bool (VH_false (by omega)).symm, rfl⟩
  by_cases h3 : m < (l.length : Int)
  · go_enter Tryz.func124, Tryz.ntmps124
    go_wp2
    go_ret
    exact ⟨ret_bool (VH_false (by omega)).symm, rfl⟩
  go_enter Tryz.func124, Tryz.ntmps124
  go_wp2
  go_loop [21] (fun i => ∃ k : Nat, k ≤ l.length ∧ i = .int .i64 k ∧ Fit m l k) (fun i => l.length - (intOf i).toNat)
  case atStart => exact ⟨0, Nat.zero_le _, rfl, fun i hi => by omega⟩
  case round =>
    obtain ⟨k, hk, rfl, hf⟩ := hrel
    by_cases hlt : k < l.length
    · obtain ⟨b, off, x, rfl, hb, hcell, hx⟩ := hr.get hlt
      by_cases g1 : x < 0
      · go_wp2
        go_ret
        exact ⟨ret_bool (notAll hlt (by rw [hx.out]; omega)).symm, rfl⟩
      by_cases g2 : m ≤ x
      · go_wp2
        go_ret
        exact ⟨ret_bool (notAll hlt (by rw [hx.out]; omega)).symm, rfl⟩
      go_wp2
      go_round
      case rel => exact ⟨k + 1, by omega, by go_num, hf.succ (by rw [hx.out]; omega) (by rw [hx.out]; omega)⟩
      case measure => simp [intOf]; omega
    · obtain rfl : k = l.length := by omega
      go_wp2
      go_ret
      exact ⟨ret_bool (VH_iff.2 ⟨by omega, by omega, by omega, hf.all⟩).symm, rfl⟩

set_option maxHeartbeats 400000 in
theorem specvalidHomes_pos (m : Int) (a : Option Addr) (l : List Int) (cap : Nat) (w : World) (hr : Reads w a l) (hm : 1 ≤ m) (hl : l.length ≤ 1048586) (hm' : m ≤ 9223372036854775807) :
    Calls Tryz.prog 77 #[.int .i64 m, .slice a l.length cap] w fun e w' => e = .returned (.bool (VH m l)) ∧ w = w' := by
  go_enter Tryz.func77, Tryz.ntmps77
  go_wp2
  go_loop [5] (fun i => ∃ k : Nat, k ≤ l.length ∧ i = .int .i64 k ∧ Fit m l k) (fun i => l.length - (intOf i).toNat)
  case atStart => exact ⟨0, Nat.zero_le _, rfl, fun i hi => by omega⟩
  case round =>
    obtain ⟨k, hk, rfl, hf⟩ := hrel
    by_cases hlt : k < l.length
    · obtain ⟨b, off, x, rfl, hb, hcell, hx⟩ := hr.get hlt
      by_cases g1 : inR x 0 (m - 1) = true
      · go_wp2_with (go_at_call 58; refine (inRange_any _ _ _ _).mono ?_; rintro e w' ⟨rfl, rfl⟩)
        go_round
        case rel => exact ⟨k + 1, by omega, by go_num, hf.succ (by rw [hx.out]; rw [inR_iff] at g1; omega) (by rw [hx.out]; rw [inR_iff] at g1; omega)⟩
        case measure => simp [intOf]; omega
      · have g2 : inR x 0 (m - 1) = false := by simpa using g1
        go_wp2_with (go_at_call 58; refine (inRange_any _ _ _ _).mono ?_; rintro e w' ⟨rfl, rfl⟩)
        go_ret
        exact ⟨ret_bool (notAll hlt (by rw [hx.out]; rw [inR_iff] at g1; omega)).symm, rfl⟩
    · obtain rfl : k = l.length := by omega
      by_cases g1 : inR m 1 10 = true
      · go_wp2_with (go_at_call 58; refine (inRange_any _ _ _ _).mono ?_; rintro e w' ⟨rfl, rfl⟩)
        go_ret
        refine ⟨ret_bool ?_, rfl⟩
        rw [inR_iff] at g1
        by_cases h3 : (l.length : Int) ≤ m
        · rw [VH_iff.2 ⟨g1.1, g1.2, h3, hf.all⟩]; simp [h3]
        · rw [VH_false (by omega)]; simp [h3]
      · have g2 : inR m 1 10 = false := by simpa using g1
        go_wp2_with (go_at_call 58; refine (inRange_any _ _ _ _).mono ?_; rintro e w' ⟨rfl, rfl⟩)
        go_ret
        exact ⟨ret_bool (VH_false (by rw [inR_iff] at g1; omega)).symm, rfl⟩

set_option maxHeartbeats 400000 in
theorem specvalidHomes_neg (m : Int) (a : Option Addr) (l : List Int) (cap : Nat) (w : World) (hr : Reads w a l) (hm : m < 1) (hl : l.length ≤ 1048586) :
    Calls Tryz.prog 77 #[.int .i64 m, .slice a l.length cap] w fun e w' => e = .returned (.bool (VH m l)) ∧ w = w' := by
  have hv : VH m l = false := VH_false (by omega)
  have H := Lib.hid hv
  clear hv
  go_enter Tryz.func77, Tryz.ntmps77
  go_wp2
  go_loop [5] (fun i => ∃ k : Nat, k ≤ l.length ∧ i = .int .i64 k) (fun i => l.length - (intOf i).toNat)
  case atStart => exact ⟨0, Nat.zero_le _, rfl⟩
  case round =>
    obtain ⟨k, hk, rfl⟩ := hrel
    by_cases hlt : k < l.length
    · obtain ⟨b, off, x, rfl, hb, hcell, hx⟩ := hr.get hlt
      go_wp2_with fail
      refine (inRange_any _ _ _ _).mono ?_
      rintro e w' ⟨rfl, rfl⟩
      go_wp2
      · go_ret
        exact ⟨ret_bool H.out.symm, rfl⟩
      · go_round
        case rel => exact ⟨k + 1, by omega, by go_num⟩
        case measure => simp [intOf]; omega
    · obtain rfl : k = l.length := by omega
      have g2 : inR m 1 10 = false := inR_no1 (by omega)
      go_wp2_with (go_at_call 58; refine (inRange_any _ _ _ _).mono ?_; rintro e w' ⟨rfl, rfl⟩)
      go_ret
      exact ⟨ret_bool H.out.symm, rfl⟩

theorem specvalidHomes_any (m : Int) (a : Option Addr) (l : List Int) (cap : Nat) (w : World) (hr : Reads w a l) (hm : In64 m) (hl : l.length ≤ 1048586) :
    Calls Tryz.prog 77 #[.int .i64 m, .slice a l.length cap] w fun e w' => e = .returned (.bool (VH m l)) ∧ w = w' := by
  by_cases h : 1 ≤ m
  · exact specvalidHomes_pos m a l cap w hr h hl hm.2
  · exact specvalidHomes_neg m a l cap w hr (by omega) hl

end Go.Proofs.YtoaiaindcmihjaaGreatDoor
/-
  The plain mathematics of chapter 1: tables as lists, the first free slot, the linear and the fair table.
-/
namespace Go.Proofs.YtoaiaindcmihjaaGreatDoor
open Go.RowKit

/-- From d steps behind a on: the first step at which a slot is free. -/
def look (t : List Int) (m a : Nat) : Nat → Nat → Nat
  | d, 0 => d
  | d, f + 1 => if t.getD ((a + d) % m) 0 < 0 then d else look t m a (d + 1) f

theorem look_from {t : List Int} {m a : Nat} : ∀ (f d e : Nat), d ≤ e → e < d + f → (∀ i, d ≤ i → i < e → ¬ t.getD ((a + i) % m) 0 < 0) → t.getD ((a + e) % m) 0 < 0 → look t m a d f = e := by
  intro f
  induction f with
  | zero => intro d e h1 h2; omega
  | succ f ih =>
    intro d e h1 h2 h3 h4
    unfold look
    by_cases hde : d = e
    · subst hde; rw [if_pos h4]
    · rw [if_neg (h3 d (Nat.le_refl _) (by omega))]
      exact ih (d + 1) e (by omega) (by omega) (fun i hi => h3 i (by omega)) h4

theorem look_eq {t : List Int} {m a e : Nat} (h : e < m) (h3 : ∀ i, i < e → ¬ t.getD ((a + i) % m) 0 < 0) (h4 : t.getD ((a + e) % m) 0 < 0) : look t m a 0 m = e :=
  look_from m 0 e (by omega) (by omega) (fun i _ => h3 i) h4

/-- How many slots have keys. -/
def held (t : List Int) : Nat := t.countP fun x => decide (0 ≤ x)

theorem held_le (t : List Int) : held t ≤ t.length := List.countP_le_length

/-- Where not all slots have keys one is free. -/
theorem free_slot {t : List Int} (h : held t < t.length) : ∃ i, i < t.length ∧ t.getD i 0 < 0 := by
  unfold held at h
  apply Classical.byContradiction
  intro hn
  have : t.countP (fun x => decide (0 ≤ x)) = t.length := by
    rw [List.countP_eq_length]
    intro x hx
    obtain ⟨i, hi, rfl⟩ := List.getElem_of_mem hx
    simp only [decide_eq_true_eq]
    apply Classical.byContradiction
    intro hlt
    exact hn ⟨i, hi, by simp [List.getD, hi]; omega⟩
  omega

/-- Each slot is met within m steps. -/
theorem met {m a i : Nat} (ha : a < m) (hi : i < m) : ∃ d, d < m ∧ (a + d) % m = i := by
  by_cases h : a ≤ i
  · exact ⟨i - a, by omega, by rw [show a + (i - a) = i by omega]; exact Nat.mod_eq_of_lt hi⟩
  · refine ⟨i + m - a, by omega, ?_⟩
    rw [show a + (i + m - a) = i + m by omega, Nat.add_mod_right]; exact Nat.mod_eq_of_lt hi

theorem free_met {t : List Int} {m a : Nat} (hm : t.length = m) (ha : a < m) (h : held t < m) : ∃ d, d < m ∧ t.getD ((a + d) % m) 0 < 0 := by
  obtain ⟨i, hi, hx⟩ := free_slot (t := t) (by omega)
  obtain ⟨d, hd, e⟩ := met (m := m) ha (by omega : i < m)
  exact ⟨d, hd, by rw [e]; exact hx⟩

/-- The walk to the free slot is not longer than the table. -/
theorem not_all {t : List Int} {m a d : Nat} (hm : t.length = m) (ha : a < m) (h : held t < m) (h3 : ∀ i, i < d → ¬ t.getD ((a + i) % m) 0 < 0) : d < m := by
  obtain ⟨e, he, hx⟩ := free_met hm ha h
  apply Classical.byContradiction
  intro hn
  exact h3 e (by omega) hx

theorem look_spec {t : List Int} {m a : Nat} (hm : t.length = m) (ha : a < m) (h : held t < m) :
    look t m a 0 m < m ∧ t.getD ((a + look t m a 0 m) % m) 0 < 0 ∧ ∀ i, i < look t m a 0 m → ¬ t.getD ((a + i) % m) 0 < 0 := by
  have hex := free_met hm ha h
  have key : ∀ n, (∃ d, d < m ∧ d ≤ n ∧ t.getD ((a + d) % m) 0 < 0) → ∃ d, d < m ∧ t.getD ((a + d) % m) 0 < 0 ∧ ∀ i, i < d → ¬ t.getD ((a + i) % m) 0 < 0 := by
    intro n
    induction n with
    | zero => rintro ⟨d, h1, h2, h3⟩; exact ⟨d, h1, h3, fun i hi => by omega⟩
    | succ n ih =>
      rintro ⟨d, h1, h2, h3⟩
      by_cases hb : ∃ d, d < m ∧ d ≤ n ∧ t.getD ((a + d) % m) 0 < 0
      · exact ih hb
      · exact ⟨d, h1, h3, fun i hi hx => hb ⟨i, by omega, by omega, hx⟩⟩
  obtain ⟨d, hd, hx⟩ := hex
  obtain ⟨e, h1, h2, h3⟩ := key d ⟨d, hd, Nat.le_refl _, hx⟩
  rw [look_eq h1 h3 h2]
  exact ⟨h1, h2, h3⟩

theorem countP_set {α : Type} (p : α → Bool) : ∀ (l : List α) (i : Nat) (x : α) (h : i < l.length), (l.set i x).countP p + (if p l[i] then 1 else 0) = l.countP p + (if p x then 1 else 0) := by
  intro l
  induction l with
  | nil => intro i x h; simp at h
  | cons y l ih =>
    intro i x h
    cases i with
    | zero => simp only [List.set_cons_zero, List.countP_cons, List.getElem_cons_zero]; omega
    | succ i =>
      have := ih i x (by simpa using h)
      simp only [List.set_cons_succ, List.countP_cons, List.getElem_cons_succ]; omega

theorem held_set {t : List Int} {i : Nat} {x : Int} (h : i < t.length) (hf : t.getD i 0 < 0) (hx : 0 ≤ x) : held (t.set i x) = held t + 1 := by
  have := countP_set (fun x : Int => decide (0 ≤ x)) t i x h
  have e : t[i] = t.getD i 0 := by simp [List.getD, h]
  rw [e] at this
  have c1 : decide (0 ≤ t.getD i 0) = false := by rw [decide_eq_false_iff_not]; omega
  have c2 : decide (0 ≤ x) = true := by rw [decide_eq_true_eq]; exact hx
  simp only [c1, c2, if_true, Bool.false_eq_true, if_false] at this
  unfold held; omega

theorem held_replicate (m : Nat) : held (List.replicate m (-1 : Int)) = 0 := by simp [held, List.countP_replicate]

/-- The home of key k. -/
def home (l : List Int) (k : Nat) : Nat := (l.getD k 0).toNat

/-- LinearTable's table and looks after k keys. -/
def lin (m : Nat) (l : List Int) : Nat → List Int × Nat
  | 0 => (List.replicate m (-1), 0)
  | k + 1 => (((lin m l k).1.set ((home l k + look (lin m l k).1 m (home l k) 0 m) % m) (k : Int)), (lin m l k).2 + look (lin m l k).1 m (home l k) 0 m + 1)

theorem lin_len (m : Nat) (l : List Int) (k : Nat) : (lin m l k).1.length = m := by
  induction k with
  | zero => simp [lin]
  | succ k ih => simp [lin, ih]

/-- The homes are slots, and no more than slots. -/
structure Homes (m : Nat) (l : List Int) : Prop where
  pos : 1 ≤ m
  le : m ≤ 10
  len : l.length ≤ m
  fit : ∀ i, i < l.length → 0 ≤ l.getD i 0 ∧ l.getD i 0 < m

theorem Homes.home_lt {m : Nat} {l : List Int} (h : Homes m l) {k : Nat} (hk : k < l.length) : home l k < m := by
  have := h.fit k hk
  unfold home; omega
theorem Homes.home_cast {m : Nat} {l : List Int} (h : Homes m l) {k : Nat} (hk : k < l.length) : ((home l k : Nat) : Int) = l.getD k 0 := by
  have := h.fit k hk
  unfold home; omega

theorem lin_held {m : Nat} {l : List Int} (h : Homes m l) : ∀ k, k ≤ l.length → held (lin m l k).1 = k := by
  intro k
  induction k with
  | zero => intro _; simp [lin, held_replicate]
  | succ k ih =>
    intro hk
    have hk' := ih (by omega)
    have hl := lin_len m l k
    have hlt : held (lin m l k).1 < m := by have := h.len; omega
    obtain ⟨s1, s2, s3⟩ := look_spec hl (h.home_lt (by omega : k < l.length)) hlt
    simp only [lin]
    rw [held_set (by rw [hl]; exact Nat.mod_lt _ h.pos) s2 (by omega), hk']

theorem Homes.of_VH {m : Int} {l : List Int} (h : 1 ≤ m ∧ m ≤ 10 ∧ (l.length : Int) ≤ m ∧ ∀ x ∈ l, 0 ≤ x ∧ x < m) : Homes m.toNat l := by
  obtain ⟨h1, h2, h3, h4⟩ := h
  refine ⟨by omega, by omega, by omega, fun i hi => ?_⟩
  have := h4 (l.getD i 0) (by rw [List.getD_eq_getElem?_getD, List.getElem?_eq_getElem hi]; exact List.getElem_mem hi)
  omega

theorem lin_bound {m : Nat} {l : List Int} (h : Homes m l) : ∀ k, k ≤ l.length → (lin m l k).2 ≤ 10 * k := by
  intro k
  induction k with
  | zero => intro _; simp [lin]
  | succ k ih =>
    intro hk
    have := ih (by omega)
    have hlt : held (lin m l k).1 < m := by rw [lin_held h k (by omega)]; have := h.len; omega
    obtain ⟨s1, _, _⟩ := look_spec (lin_len m l k) (h.home_lt (by omega : k < l.length)) hlt
    have := h.le
    simp only [lin]
    omega

/-- Slots hold keys or -1. -/
def Slots (t : List Int) : Prop := ∀ i, i < t.length → t.getD i 0 = -1 ∨ 0 ≤ t.getD i 0
theorem Slots.rep (m : Nat) : Slots (List.replicate m (-1)) := by
  intro i hi
  rw [List.length_replicate] at hi
  simp [List.getD, hi]
theorem getD_set {t : List Int} {i j : Nat} {x : Int} (hi : i < t.length) : (t.set i x).getD j 0 = if i = j then x else t.getD j 0 := by
  simp only [List.getD, List.getElem?_set]
  by_cases h : i = j
  · subst h; simp [hi]
  · simp [h]
theorem Slots.set {t : List Int} (h : Slots t) {i : Nat} {x : Int} (hx : x = -1 ∨ 0 ≤ x) : Slots (t.set i x) := by
  intro j hj
  rw [List.length_set] at hj
  by_cases hi : i < t.length
  · rw [getD_set hi]
    split
    · exact hx
    · exact h j hj
  · rw [List.set_eq_of_length_le (by omega)]; exact h j hj
theorem lin_slots (m : Nat) (l : List Int) : ∀ k, Slots (lin m l k).1 := by
  intro k
  induction k with
  | zero => exact Slots.rep m
  | succ k ih => exact ih.set (.inr (by omega))

/-- LinearTable. -/
def LT (m : Int) (l : List Int) : List Int × Int := if VH m l = true then ((lin m.toNat l l.length).1, ((lin m.toNat l l.length).2 : Int)) else ([], -1)
theorem LT_len (m : Int) (l : List Int) : (LT m l).1.length ≤ 1048586 := by
  unfold LT
  split
  · rename_i h
    rw [VH_iff] at h
    simp only [lin_len]; omega
  · simp

/-- One step on, round the table. -/
theorem step_mod (a d m : Nat) : ((a + d) % m + 1) % m = (a + (d + 1)) % m := by rw [Nat.mod_add_mod, Nat.add_assoc]
theorem cast_step (a m : Nat) : ((a : Int) + 1) % (m : Int) = ((a + 1) % m : Nat) := by rw [Int.natCast_emod]; rfl

/-- The walk to the first free slot, said with names: D steps, none of them to a free slot, the slot behind them free. -/
structure Way (t : List Int) (m a D : Nat) : Prop where
  lt : D < m
  free : ∀ p, p = (a + D) % m → t.getD p 0 < 0
  full : ∀ d p, d < D → p = (a + d) % m → ¬ t.getD p 0 < 0
  is : look t m a 0 m = D

theorem way {t : List Int} {m a : Nat} (hm : t.length = m) (ha : a < m) (h : held t < m) : ∃ D, Way t m a D := by
  obtain ⟨h1, h2, h3⟩ := look_spec hm ha h
  exact ⟨_, h1, fun p hp => by rw [hp]; exact h2, fun d p hd hp => by rw [hp]; exact h3 d hd, rfl⟩

/-- lin's next state, said with names. -/
theorem lin_succ {m : Nat} {l : List Int} {k D p : Nat} (hw : Way (lin m l k).1 m (home l k) D) (hp : p = (home l k + D) % m) :
    (lin m l (k + 1)).1 = (lin m l k).1.set p k ∧ (lin m l (k + 1)).2 = (lin m l k).2 + D + 1 := by
  simp only [lin, hw.is, ← hp]
  exact ⟨trivial, trivial⟩

end Go.Proofs.YtoaiaindcmihjaaGreatDoor
/-
  laws.toIntS, eqIntS, markIntS, heldIntS.
-/
namespace Go.Proofs.YtoaiaindcmihjaaGreatDoor
open Go.RowKit

/-- What toIntS has copied. -/
def cop (l : List Int) (k : Nat) : List Int := l.take k ++ List.replicate (l.length - k) 0
theorem cop_len (l : List Int) (k : Nat) (h : k ≤ l.length) : (cop l k).length = l.length := by simp [cop]; omega
theorem cop_zero (l : List Int) : cop l 0 = List.replicate l.length 0 := by simp [cop]
theorem cop_all (l : List Int) : cop l l.length = l := by simp [cop]
theorem cop_succ (l : List Int) (k : Nat) (h : k < l.length) : (cop l k).set k (l.getD k 0) = cop l (k + 1) := by
  apply List.ext_getElem?
  intro i
  have e : (l.take k).length = k := by simp; omega
  by_cases h1 : i < k
  · rw [List.getElem?_set_ne (by omega)]
    simp [cop, List.getElem?_append, e, h1, show i < k + 1 by omega, Nat.min_eq_left (show k + 1 ≤ l.length by omega)]
  by_cases h2 : i = k
  · subst h2
    rw [List.getElem?_set_self (by rw [cop_len _ _ (by omega)]; exact h)]
    simp [cop, List.getElem?_append, h, Nat.min_eq_left (show i + 1 ≤ l.length by omega)]
  · rw [List.getElem?_set_ne (by omega)]
    simp only [cop, List.getElem?_append, List.length_take, Nat.min_eq_left (show k + 1 ≤ l.length by omega), Nat.min_eq_left (show k ≤ l.length by omega)]
    rw [if_neg (by omega), if_neg (by omega)]
    simp only [List.getElem?_replicate]
    by_cases h3 : i < l.length
    · rw [if_pos (by omega), if_pos (by omega)]
    · rw [if_neg (by omega), if_neg (by omega)]

/-- The lists are equal. -/
def eqL (l l' : List Int) : Bool := decide (l = l')
theorem eqL_self (l : List Int) : eqL l l = true := by simp [eqL]
theorem eqL_len {l l' : List Int} (h : ¬ l.length = l'.length) : eqL l l' = false := by
  simp only [eqL, decide_eq_false_iff_not]; intro e; exact h (by rw [e])
theorem eqL_ne {l l' : List Int} {k : Nat} (h : l.getD k 0 ≠ l'.getD k 0) : eqL l l' = false := by
  simp only [eqL, decide_eq_false_iff_not]; intro e; exact h (by rw [e])
theorem eqL_all {l l' : List Int} (hl : l.length = l'.length) (h : ∀ i, i < l.length → l.getD i 0 = l'.getD i 0) : eqL l l' = true := by
  simp only [eqL, decide_eq_true_eq]
  refine List.ext_getElem hl fun i h1 h2 => ?_
  have := h i h1
  simpa [List.getD, h1, h2] using this
set_option maxHeartbeats 400000 in
theorem eqIntS_any (a a' : Option Addr) (l l' : List Int) (cap cap' : Nat) (w : World) (hr : Reads w a l) (hr' : Reads w a' l') (hl : l.length ≤ 1048586) (hl' : l'.length ≤ 1048586) :
    Calls Tryz.prog 22 #[.slice a l.length cap, .slice a' l'.length cap'] w fun e w' => e = .returned (.bool (eqL l l')) ∧ ∃ n, w' = w.drewN n := by
  by_cases hne : l.length = l'.length
  · have hlen : ((l.length : Int) != (l'.length : Int)) = false := by simp [hne]
    have hne' : l'.length = l.length := hne.symm
    have H := Lib.hid hne
    clear hne
    go_enter Tryz.func22, Tryz.ntmps22
    go_wp2
    go_loopw [5] (fun i wr => ∃ k : Nat, k ≤ l.length ∧ i = .int .i64 k ∧ (∀ i, i < k → l.getD i 0 = l'.getD i 0) ∧ ∃ n, wr = w.drewN n) (fun i _ => l.length - (intOf i).toNat)
    case atStart => exact ⟨0, Nat.zero_le _, rfl, fun i hi => by omega, 0, rfl⟩
    case round =>
      obtain ⟨k, hk, rfl, hf, n, rfl⟩ := hrel
      have HF := Lib.hid hf
      clear hf
      by_cases hlt : k < l.length
      · obtain ⟨b, off, x, rfl, hbb, hcell, hx⟩ := hr.get hlt
        obtain ⟨b', off', x', rfl, hbb', hcell', hx'⟩ := hr'.get (k := k) (by omega)
        by_cases hxx : x = x'
        · have hd : (x != x') = false := by simp [hxx]
          have HX := Lib.hid hxx
          clear hxx
          go_wp2
          go_quiet (fail)
          go_wp2
          go_roundw
          case rel => exact ⟨k + 1, by omega, by go_num, below_all HF.out (by rw [hx.out, hx'.out, HX.out]), _, rfl⟩
          case measure => simp [intOf]; omega
        · have hd : (x != x') = true := by simp [hxx]
          go_wp2
          go_quiet (fail)
          go_wp2
          go_ret
          exact ⟨ret_bool (eqL_ne (by rw [hx.out, hx'.out]; exact hxx)).symm, _, by rw [World.drewN_drewN]⟩
      · obtain rfl : k = l.length := by omega
        go_wp2
        go_ret
        exact ⟨ret_bool (eqL_all H.out HF.out).symm, _, rfl⟩
  · have hlen : ((l.length : Int) != (l'.length : Int)) = true := by simp; omega
    go_enter Tryz.func22, Tryz.ntmps22
    go_wp2
    go_ret
    exact ⟨ret_bool (eqL_len hne).symm, 0, rfl⟩
/-- What markIntS writes. -/
def marks (k : Int) (n : Nat) : List Int := (List.range n).map fun i : Nat => k + i
theorem marks_len (k : Int) (n : Nat) : (marks k n).length = n := by simp [marks]
theorem marks_get (k : Int) (n i : Nat) (h : i < n) : (marks k n).getD i 0 = k + i := by simp [marks, List.getD, h]
/-- What markIntS has written so far. -/
def mk (k : Int) (l : List Int) (j : Nat) : List Int := marks k j ++ l.drop j
theorem mk_len (k : Int) (l : List Int) (j : Nat) (h : j ≤ l.length) : (mk k l j).length = l.length := by simp [mk, marks_len]; omega
theorem mk_zero (k : Int) (l : List Int) : mk k l 0 = l := by simp [mk, marks]
theorem mk_all (k : Int) (l : List Int) : mk k l l.length = marks k l.length := by simp [mk]
theorem mk_succ (k : Int) (l : List Int) (j : Nat) (h : j < l.length) : (mk k l j).set j (k + j) = mk k l (j + 1) := by
  have e : marks k (j + 1) = marks k j ++ [k + j] := by simp [marks, List.range_succ]
  have e2 : l.drop j = l[j] :: l.drop (j + 1) := by rw [List.drop_eq_getElem_cons h]
  unfold mk
  rw [e, e2, List.set_append_right _ _ (by rw [marks_len]; exact Nat.le_refl _), marks_len, Nat.sub_self, List.set_cons_zero, List.append_assoc]
  rfl

set_option maxHeartbeats 400000 in
theorem markIntS_any (v : Value) (l : List Int) (k : Int) (base : Nat) (w : World) (hown : Own w base v l) (hl : l.length ≤ 1048586) (hk0 : 0 ≤ k) (hk1 : k ≤ 20000000) :
    Calls Tryz.prog 23 #[v, .int .i64 k] w fun e w' => e = .returned (.int .i64 (k + l.length)) ∧ Own w' base v (marks k l.length) ∧ w.grownBy w' v.ownBlock := by
  rcases hown.2 with ⟨rfl, h0⟩ | ⟨g, cap, cur, rfl, hb, hg, hn, hm, hs, ht⟩
  · obtain rfl := List.eq_nil_of_length_eq_zero h0
    go_enter Tryz.func23, Tryz.ntmps23
    go_wp2
    refine wp_loop_rounds 1 ?_
    rw [rounds_succ]
    go_wp2
    go_ret
    exact ⟨ret_int (by simp), Own.nil _ _, World.grownBy.refl _ _⟩
  · clear hg hs ht hb
    go_enter Tryz.func23, Tryz.ntmps23
    go_wp2
    go_loopw [1, 5] (fun kk i wr => ∃ j : Nat, j ≤ l.length ∧ i = .int .i64 j ∧ kk = .int .i64 (k + j) ∧ wr.ownsRow base 3 1 (.slice (some ⟨g, 0, none⟩) l.length cap) l.length ((mk k l j).map (Value.int .i64)) ∧ w.grownBy wr (some g)) (fun _ i _ => l.length - (intOf i).toNat)
    case atStart => exact ⟨0, Nat.zero_le _, rfl, by simp, by rw [mk_zero]; exact hown, World.grownBy.refl _ _⟩
    case round =>
      obtain ⟨j, hj, rfl, rfl, ho, hgr⟩ := hrel
      by_cases hlt : j < l.length
      · obtain ⟨y, hy⟩ : ∃ y, (mk k l j).getD j 0 = y := ⟨_, rfl⟩
        have hc2 : wr.cell? ⟨g, j, none⟩ = some (.int .i64 y) := by
          rw [ho.cellAt j (by omega), ← hy]; exact getD_map (by rw [mk_len _ _ _ hj]; exact hlt)
        have hf2 := ho.frozenAt j
        clear hy
        have hst := ho.stored j (.int .i64 (k + j))
        obtain ⟨hst1, hst2⟩ := hst
        have hst3 : (wr.setCell ⟨g, j, none⟩ (.int .i64 (k + j))).ownsRow base 3 1 (.slice (some ⟨g, 0, none⟩) l.length cap) l.length ((mk k l (j + 1)).map (Value.int .i64)) := by
          rw [← mk_succ _ _ _ hlt, List.map_set]; exact hst1
        have hg3 : w.grownBy (wr.setCell ⟨g, j, none⟩ (.int .i64 (k + j))) (some g) :=
          ⟨hst2.os.trans hgr.os, hst2.tape.trans hgr.tape, hst2.output.trans hgr.output, Nat.le_trans hgr.size hst2.size, fun q hq hne => (hst2.block q (Nat.lt_of_lt_of_le hq hgr.size) hne).trans (hgr.block q hq hne)⟩
        clear hst1 hst2
        have hk2 : k + (j : Int) ≤ 90000000 := by omega
        go_wp2
        go_roundw
        case rel => exact ⟨j + 1, by omega, by go_num, by go_num, hst3, hg3⟩
        case measure => simp [intOf]; omega
      · obtain rfl : j = l.length := by omega
        rw [mk_all] at ho
        go_wp2
        go_ret
        refine ⟨rfl, ?_, hgr⟩
        unfold Own
        rw [marks_len]
        exact ho

set_option maxHeartbeats 400000 in
theorem heldIntS_any (a : Option Addr) (n cap : Nat) (k : Int) (w : World) (hr : Reads w a (marks k n)) (hn : n ≤ 1048586) (hk0 : 0 ≤ k) (hk1 : k ≤ 20000000) :
    Calls Tryz.prog 24 #[.slice a n cap, .int .i64 k] w fun e w' => e = .returned (.int .i64 (k + n)) ∧ w = w' := by
  go_enter Tryz.func24, Tryz.ntmps24
  go_wp2
  go_loop [1, 5] (fun kk i => ∃ j : Nat, j ≤ n ∧ i = .int .i64 j ∧ kk = .int .i64 (k + j)) (fun _ i => n - (intOf i).toNat)
  case atStart => exact ⟨0, Nat.zero_le _, rfl, by simp⟩
  case round =>
    obtain ⟨j, hj, rfl, rfl⟩ := hrel
    by_cases hlt : j < n
    · obtain ⟨b, off, x, rfl, hb, hcell, hx⟩ := hr.get (k := j) (by rw [marks_len]; exact hlt)
      have hx' : x = k + j := by rw [← hx.out, marks_get _ _ _ hlt]
      obtain rfl := hx'
      have hd : (k + (j : Int) != k + j) = false := by simp
      have hk2 : k + (j : Int) ≤ 90000000 := by omega
      go_wp2
      go_round
      case rel => exact ⟨j + 1, by omega, by go_num, by go_num⟩
      case measure => simp [intOf]; omega
    · obtain rfl : j = n := by omega
      go_wp2
      go_ret
      exact ⟨rfl, rfl⟩

end Go.Proofs.YtoaiaindcmihjaaGreatDoor
/-
  The laws' helpers: equalInts, keysIn, total, isIn.
-/
namespace Go.Proofs.YtoaiaindcmihjaaGreatDoor
open Go.RowKit

theorem take_succ_getD {l : List Int} {k : Nat} (h : k < l.length) : l.take (k + 1) = l.take k ++ [l.getD k 0] := by
  rw [List.take_succ_eq_append_getElem h]; simp [List.getD, h]

theorem held_take {l : List Int} {k : Nat} (h : k < l.length) : held (l.take (k + 1)) = held (l.take k) + (if 0 ≤ l.getD k 0 then 1 else 0) := by
  rw [take_succ_getD h]; unfold held; rw [List.countP_append]; simp [List.countP_cons]

set_option maxHeartbeats 1000000 in
theorem equalInts_any (a a' : Option Addr) (l l' : List Int) (cap cap' : Nat) (w : World) (hr : Reads w a l) (hr' : Reads w a' l') (hl : l.length ≤ 1048586) (hl' : l'.length ≤ 1048586) :
    Calls Tryz.prog 13 #[.slice a l.length cap, .slice a' l'.length cap'] w fun e w' => e = .returned (.bool (eqL l l')) ∧ ∃ n, w' = w.drewN n := by
  by_cases hne : l.length = l'.length
  · have hlen : ((l.length : Int) != (l'.length : Int)) = false := by simp [hne]
    have hne' : l'.length = l.length := hne.symm
    have H := Lib.hid hne
    clear hne
    go_enter Tryz.func13, Tryz.ntmps13
    go_wp2
    go_loopw [5] (fun i wr => ∃ k : Nat, k ≤ l.length ∧ i = .int .i64 k ∧ (∀ i, i < k → l.getD i 0 = l'.getD i 0) ∧ ∃ n, wr = w.drewN n) (fun i _ => l.length - (intOf i).toNat)
    case atStart => exact ⟨0, Nat.zero_le _, rfl, fun i hi => by omega, 0, rfl⟩
    case round =>
      obtain ⟨k, hk, rfl, hf, n, rfl⟩ := hrel
      have HF := Lib.hid hf
      clear hf
      by_cases hlt : k < l.length
      · obtain ⟨b, off, x, rfl, hbb, hcell, hx⟩ := hr.get hlt
        obtain ⟨b', off', x', rfl, hbb', hcell', hx'⟩ := hr'.get (k := k) (by omega)
        by_cases hxx : x = x'
        · have hd : (x != x') = false := by simp [hxx]
          have HX := Lib.hid hxx
          clear hxx
          go_wp2
          go_quiet (fail)
          go_wp2
          go_roundw
          case rel => exact ⟨k + 1, by omega, by go_num, below_all HF.out (by rw [hx.out, hx'.out, HX.out]), _, rfl⟩
          case measure => simp [intOf]; omega
        · have hd : (x != x') = true := by simp [hxx]
          go_wp2
          go_quiet (fail)
          go_wp2
          go_ret
          exact ⟨ret_bool (eqL_ne (by rw [hx.out, hx'.out]; exact hxx)).symm, _, by rw [World.drewN_drewN]⟩
      · obtain rfl : k = l.length := by omega
        go_wp2
        go_ret
        exact ⟨ret_bool (eqL_all H.out HF.out).symm, _, rfl⟩
  · have hlen : ((l.length : Int) != (l'.length : Int)) = true := by simp; omega
    go_enter Tryz.func13, Tryz.ntmps13
    go_wp2
    go_ret
    exact ⟨ret_bool (eqL_len hne).symm, 0, rfl⟩

end Go.Proofs.YtoaiaindcmihjaaGreatDoor
/-
  The laws' helpers besides: total, isIn, taken, turned.
-/
namespace Go.Proofs.YtoaiaindcmihjaaGreatDoor
open Go.RowKit

/-- The sum of numbers. -/
def summ : List Int → Int
  | [] => 0
  | x :: r => x + summ r
theorem summ_append (a b : List Int) : summ (a ++ b) = summ a + summ b := by
  induction a with
  | nil => simp [summ]
  | cons x r ih => simp only [List.cons_append, summ, ih]; omega
theorem summ_take {l : List Int} {k : Nat} (h : k < l.length) : summ (l.take (k + 1)) = summ (l.take k) + l.getD k 0 := by
  rw [take_succ_getD h, summ_append]; simp [summ]

/-- Is the number in the list? -/
def inL (l : List Int) (n : Int) : Bool := decide (n ∈ l)

/-- Are keys in the same slots? -/
def tkn (a b : List Int) : Bool := decide (∀ i, i < a.length → (a.getD i 0 < 0 ↔ b.getD i 0 < 0))

end Go.Proofs.YtoaiaindcmihjaaGreatDoor
/-
  Chapter 3's plain mathematics: hashes, pairs that meet, counts by slots, first and least ones over the family.
-/
namespace Go.Proofs.YtoaiaindcmihjaaGreatDoor

/-- The slot of a key. -/
def hs (a b m k : Int) : Int := (a * k + b) % 31 % m
def VF (a b m : Int) : Bool := decide (1 ≤ a ∧ a ≤ 30 ∧ 0 ≤ b ∧ b ≤ 30 ∧ 1 ≤ m ∧ m ≤ 31)
def KR (k : Int) : Bool := decide (0 ≤ k ∧ k ≤ 30)
def VK (l : List Int) : Bool := decide (l.length ≤ 8 ∧ (∀ x ∈ l, 0 ≤ x ∧ x ≤ 30) ∧ l.Nodup)
theorem VF_iff {a b m : Int} : VF a b m = true ↔ 1 ≤ a ∧ a ≤ 30 ∧ 0 ≤ b ∧ b ≤ 30 ∧ 1 ≤ m ∧ m ≤ 31 := by simp [VF]
theorem KR_iff {k : Int} : KR k = true ↔ 0 ≤ k ∧ k ≤ 30 := by simp [KR]
theorem VK_iff {l : List Int} : VK l = true ↔ l.length ≤ 8 ∧ (∀ x ∈ l, 0 ≤ x ∧ x ≤ 30) ∧ l.Nodup := by simp [VK]
def HO (a b m k : Int) : Int := if VF a b m = true ∧ KR k = true then hs a b m k else -1

theorem hs_range {a b m k : Int} (h : 1 ≤ m) : 0 ≤ hs a b m k ∧ hs a b m k < m := by
  unfold hs
  exact ⟨Int.emod_nonneg _ (by omega), Int.emod_lt_of_pos _ (by omega)⟩
theorem hs_31 {a b m k : Int} (h : 1 ≤ m) : hs a b m k < 31 := by
  unfold hs
  have h1 : 0 ≤ (a * k + b) % 31 := Int.emod_nonneg _ (by omega)
  have h2 : (a * k + b) % 31 < 31 := Int.emod_lt_of_pos _ (by omega)
  have h3 : (a * k + b) % 31 % m ≤ (a * k + b) % 31 := by
    have := Int.emod_add_mul_ediv ((a * k + b) % 31) m
    have h4 : 0 ≤ (a * k + b) % 31 / m := Int.ediv_nonneg h1 (by omega)
    have h5 : 0 ≤ m * ((a * k + b) % 31 / m) := Int.mul_nonneg (by omega) h4
    omega
  omega

/-- Pairs of equal numbers. -/
def pr : List Int → Nat
  | [] => 0
  | x :: l => l.count x + pr l
theorem pr_snoc (l : List Int) (x : Int) : pr (l ++ [x]) = pr l + l.count x := by
  induction l with
  | nil => simp [pr]
  | cons y l ih =>
    rw [List.cons_append, pr, pr, ih, List.count_append, List.count_cons]
    by_cases h : y = x
    · subst h; simp; omega
    · have h' : ¬ x = y := fun e => h e.symm
      simp [List.count_cons, h, h']; omega
theorem pr_le (l : List Int) : 2 * pr l ≤ l.length * (l.length - 1) := by
  induction l with
  | nil => simp [pr]
  | cons x l ih =>
    rw [pr, List.length_cons]
    have h1 : l.count x ≤ l.length := List.count_le_length
    cases hl : l.length with
    | zero => rw [hl] at ih h1; simp at ih h1 ⊢; omega
    | succ n =>
      rw [hl] at ih h1
      simp only [Nat.add_sub_cancel] at ih ⊢
      have e : (n + 1 + 1) * (n + 1) = (n + 1) * n + 2 * (n + 1) := by
        rw [Nat.add_mul, Nat.mul_add, Nat.one_mul, Nat.mul_one, Nat.add_mul, Nat.one_mul, Nat.mul_add]; omega
      omega
theorem pr_zero {l : List Int} : pr l = 0 ↔ l.Nodup := by
  induction l with
  | nil => simp [pr]
  | cons x l ih =>
    rw [pr, List.nodup_cons, ← ih, Nat.add_eq_zero_iff, List.count_eq_zero]
theorem pr_same {l : List Int} {c : Int} (h : ∀ x ∈ l, x = c) : 2 * pr l = l.length * (l.length - 1) := by
  induction l with
  | nil => simp [pr]
  | cons x l ih =>
    have ih := ih (fun y hy => h y (by simp [hy]))
    have hx : x = c := h x (by simp)
    have hc : l.count x = l.length := by
      rw [List.count_eq_length]
      intro y hy
      have := h y (by simp [hy])
      rw [hx, this]
    rw [pr, hc, List.length_cons]
    cases hl : l.length with
    | zero => rw [hl] at ih; simp at ih ⊢; omega
    | succ n =>
      rw [hl] at ih
      simp only [Nat.add_sub_cancel] at ih ⊢
      have e : (n + 1 + 1) * (n + 1) = (n + 1) * n + 2 * (n + 1) := by
        rw [Nat.add_mul, Nat.mul_add, Nat.one_mul, Nat.mul_one, Nat.add_mul, Nat.one_mul, Nat.mul_add]; omega
      omega

/-- Pairs of the keys that meet. -/
def mt (a b m : Int) (l : List Int) : Nat := pr (l.map (hs a b m))
def MO (a b m : Int) (l : List Int) : Int := if VF a b m = true ∧ VK l = true then (mt a b m l : Int) else -1

/-- A sum of the first numbers. -/
def sumR (f : Nat → Nat) : Nat → Nat
  | 0 => 0
  | n + 1 => sumR f n + f n
theorem sumR_congr {f g : Nat → Nat} {n : Nat} (h : ∀ i, i < n → f i = g i) : sumR f n = sumR g n := by
  induction n with
  | zero => rfl
  | succ n ih => rw [sumR, sumR, ih (fun i hi => h i (by omega)), h n (by omega)]
theorem sumR_le {f : Nat → Nat} {n k : Nat} (h : k ≤ n) : sumR f k ≤ sumR f n := by
  induction n with
  | zero => have : k = 0 := by omega
            subst this; exact Nat.le_refl _
  | succ n ih =>
    by_cases e : k = n + 1
    · subst e; exact Nat.le_refl _
    · have := ih (by omega); rw [sumR]; omega
theorem sumR_add {f g : Nat → Nat} {n : Nat} : sumR (fun i => f i + g i) n = sumR f n + sumR g n := by
  induction n with
  | zero => rfl
  | succ n ih => simp only [sumR, ih]; omega
/-- One place's summand grows. -/
theorem sumR_bump {f g : Nat → Nat} {n k d : Nat} (hk : k < n) (h1 : g k = f k + d) (h2 : ∀ i, i < n → i ≠ k → g i = f i) : sumR g n = sumR f n + d := by
  induction n with
  | zero => omega
  | succ n ih =>
    rw [sumR, sumR]
    by_cases e : k = n
    · subst e
      rw [h1, sumR_congr (fun i hi => h2 i (by omega) (by omega))]; omega
    · rw [ih (by omega) (fun i hi => h2 i (by omega)), h2 n (by omega) (by omega)]; omega

/-- Pairs of c things. -/
def tri (c : Nat) : Nat := c * (c - 1) / 2
theorem tri_succ (c : Nat) : tri (c + 1) = tri c + c := by
  unfold tri
  cases c with
  | zero => rfl
  | succ n =>
    simp only [Nat.add_sub_cancel]
    have e : (n + 1 + 1) * (n + 1) = (n + 1) * n + (n + 1) * 2 := by rw [Nat.mul_comm, ← Nat.mul_add]
    rw [e, Nat.add_mul_div_right _ _ (by omega)]
theorem sq_succ (c : Nat) : (c + 1) * (c + 1) = c * c + (2 * c + 1) := by
  rw [Nat.add_mul, Nat.mul_add]; omega

theorem sum_tri {L : List Int} (h : ∀ x ∈ L, 0 ≤ x ∧ x < 31) : sumR (fun s => tri (L.count (s : Int))) 31 = pr L := by
  induction L with
  | nil => rfl
  | cons x L ih =>
    have ih := ih (fun y hy => h y (by simp [hy]))
    obtain ⟨h0, h1⟩ := h x (by simp)
    obtain ⟨X, rfl⟩ := Int.eq_ofNat_of_zero_le h0
    rw [pr, ← ih, Nat.add_comm]
    refine sumR_bump (k := X) (by omega) ?_ ?_
    · simp only [List.count_cons_self, tri_succ]
    · intro i hi hne
      have : ¬ (X : Int) = (i : Int) := by omega
      simp [List.count_cons, this]
theorem sum_sq {L : List Int} (h : ∀ x ∈ L, 0 ≤ x ∧ x < 31) : sumR (fun s => L.count (s : Int) * L.count (s : Int)) 31 = L.length + 2 * pr L := by
  induction L with
  | nil => rfl
  | cons x L ih =>
    have ih := ih (fun y hy => h y (by simp [hy]))
    obtain ⟨h0, h1⟩ := h x (by simp)
    obtain ⟨X, rfl⟩ := Int.eq_ofNat_of_zero_le h0
    have e : sumR (fun s => (↑X :: L).count (s : Int) * (↑X :: L).count (s : Int)) 31 = sumR (fun s => L.count (s : Int) * L.count (s : Int)) 31 + (2 * L.count (X : Int) + 1) := by
      refine sumR_bump (k := X) (by omega) ?_ ?_
      · simp only [List.count_cons_self, sq_succ]
      · intro i hi hne
        have : ¬ (X : Int) = (i : Int) := by omega
        simp [List.count_cons, this]
    rw [e, ih, pr, List.length_cons]; omega

/-- The counts by slots, as impl's array has them. -/
def cs (L : List Int) : List Int := (List.range 31).map fun s : Nat => ((L.count (s : Int) : Nat) : Int)
theorem cs_len (L : List Int) : (cs L).length = 31 := by simp [cs]
theorem cs_nil : cs [] = List.replicate 31 0 := by decide
theorem cs_get (L : List Int) {s : Nat} (h : s < 31) : (cs L).getD s 0 = (L.count (s : Int) : Int) := by simp [cs, List.getD, h]
theorem cs_snoc {L : List Int} {X : Nat} (h : X < 31) : (cs L).set X ((L.count (X : Int) : Int) + 1) = cs (L ++ [(X : Int)]) := by
  refine List.ext_getElem (by simp [cs]) fun i h1 h2 => ?_
  have hi : i < 31 := by simpa [cs] using h2
  rw [List.getElem_set]
  by_cases e : X = i
  · subst e; simp [cs]
  · have : ¬ (X : Int) = (i : Int) := by omega
    simp [cs, e, List.count_append, List.count_cons, this]

/-- How many of the first numbers are so. -/
def cntN (p : Nat → Bool) : Nat → Nat
  | 0 => 0
  | n + 1 => cntN p n + (if p n = true then 1 else 0)
theorem cntN_le (p : Nat → Bool) (n : Nat) : cntN p n ≤ n := by
  induction n with
  | zero => exact Nat.le_refl _
  | succ n ih => rw [cntN]; split <;> omega
/-- The family: number t is by 1 + t/31 and t%31. -/
def fA (t : Nat) : Nat := 1 + t / 31
def fB (t : Nat) : Nat := t % 31
theorem fA_at (a b : Nat) (h : b < 31) (ha : 1 ≤ a) : fA ((a - 1) * 31 + b) = a := by unfold fA; omega
theorem fB_at (a b : Nat) (h : b < 31) : fB ((a - 1) * 31 + b) = b := by unfold fB; omega
theorem fA_le {t : Nat} (h : t < 930) : 1 ≤ fA t ∧ fA t ≤ 30 := by unfold fA; omega
theorem fB_le (t : Nat) : fB t ≤ 30 := by unfold fB; omega
/-- Two keys meet by function number t. -/
def meet (m x y : Int) (t : Nat) : Bool := decide (hs (fA t) (fB t) m x = hs (fA t) (fB t) m y)
def VX (m x y : Int) : Bool := decide (1 ≤ m ∧ m ≤ 31 ∧ 0 ≤ x ∧ x ≤ 30 ∧ 0 ≤ y ∧ y ≤ 30 ∧ x ≠ y)
theorem VX_iff {m x y : Int} : VX m x y = true ↔ 1 ≤ m ∧ m ≤ 31 ∧ 0 ≤ x ∧ x ≤ 30 ∧ 0 ≤ y ∧ y ≤ 30 ∧ x ≠ y := by simp [VX]
def PC (m x y : Int) : Int := if VX m x y = true then (cntN (meet m x y) 930 : Int) else -1

/-- Pairs that meet by function number t. -/
def mtt (m : Int) (l : List Int) (t : Nat) : Nat := mt (fA t) (fB t) m l
/-- The first function that keeps the keys apart. -/
def ap (m : Int) (l : List Int) : Option Nat := (List.range 930).find? fun t => mtt m l t == 0
theorem ap_some {m : Int} {l : List Int} {t : Nat} (ht : t < 930) (h0 : mtt m l t = 0) (h : ∀ s, s < t → mtt m l s ≠ 0) : ap m l = some t := by
  unfold ap
  rw [List.find?_range_eq_some]
  refine ⟨by simp [h0], by simp [ht], fun j hj => by simp [h j hj]⟩
theorem ap_none {m : Int} {l : List Int} (h : ∀ s, s < 930 → mtt m l s ≠ 0) : ap m l = none := by
  unfold ap
  rw [List.find?_eq_none]
  intro s hs
  have := h s (by simpa using hs)
  simp [this]
theorem ap_spec {m : Int} {l : List Int} {t : Nat} (h : ap m l = some t) : t < 930 ∧ mtt m l t = 0 := by
  unfold ap at h
  rw [List.find?_range_eq_some] at h
  exact ⟨by simpa using h.2.1, by simpa using h.1⟩
def SZ (m : Int) : Bool := decide (1 ≤ m ∧ m ≤ 31)
theorem SZ_iff {m : Int} : SZ m = true ↔ 1 ≤ m ∧ m ≤ 31 := by simp [SZ]
def apR : Option Nat → Int × Int × Bool
  | some t => ((fA t : Int), (fB t : Int), true)
  | none => (0, 0, false)
def AP (m : Int) (l : List Int) : Int × Int × Bool := if SZ m = true ∧ VK l = true then apR (ap m l) else (0, 0, false)

/-- The least of the first numbers of slots that keep the keys apart. -/
def la (l : List Int) : Option Nat := (List.range 31).find? fun i => (ap ((i : Int) + 1) l).isSome
def LA (l : List Int) : Int := if VK l = true then (match la l with | some i => (i : Int) + 1 | none => -1) else -1

theorem hs_one {k : Int} (h0 : 0 ≤ k) (h1 : k ≤ 30) : hs 1 0 31 k = k := by unfold hs; omega
theorem ap_31 {l : List Int} (h : VK l = true) : ap 31 l = some 0 := by
  obtain ⟨_, h1, h2⟩ := VK_iff.1 h
  refine ap_some (by omega) ?_ (fun s hs => by omega)
  show pr (l.map (hs 1 0 31)) = 0
  have e : l.map (hs 1 0 31) = l := by
    conv => rhs; rw [← List.map_id l]
    refine List.map_congr_left fun x hx => ?_
    obtain ⟨a, b⟩ := h1 x hx
    exact hs_one a b
  rw [e, pr_zero]; exact h2
theorem la_some {l : List Int} {i : Nat} (hi : i < 31) (h0 : (ap ((i : Int) + 1) l).isSome = true) (h : ∀ j, j < i → ap ((j : Int) + 1) l = none) : la l = some i := by
  unfold la
  rw [List.find?_range_eq_some]
  refine ⟨h0, by simp [hi], fun j hj => by simp [h j hj]⟩
theorem la_spec {l : List Int} (hv : VK l = true) : ∃ i, i < 31 ∧ la l = some i ∧ (ap ((i : Int) + 1) l).isSome = true ∧ ∀ j, j < i → ap ((j : Int) + 1) l = none := by
  cases hl : la l with
  | none =>
    exfalso
    unfold la at hl
    rw [List.find?_eq_none] at hl
    have := hl 30 (by simp)
    rw [show ((30 : Nat) : Int) + 1 = 31 by omega, ap_31 hv] at this
    simp at this
  | some i =>
    have h2 := hl
    unfold la at h2
    rw [List.find?_range_eq_some] at h2
    refine ⟨i, by simpa using h2.2.1, rfl, h2.1, fun j hj => ?_⟩
    have := h2.2.2 j hj
    simpa using this

/-- A table of two levels by function number t. -/
def TL (a b : Int) (l : List Int) : Int := if l ≠ [] ∧ VF a b l.length = true ∧ VK l = true then 2 * (l.length : Int) + 2 * (mt a b l.length l : Int) else -1
/-- The least of f 0 .. f n. -/
def mn (f : Nat → Nat) : Nat → Nat
  | 0 => f 0
  | n + 1 => if f (n + 1) < mn f n then f (n + 1) else mn f n
theorem mn_le (f : Nat → Nat) (n : Nat) : ∀ i, i ≤ n → mn f n ≤ f i := by
  induction n with
  | zero => intro i hi; have : i = 0 := by omega
            subst this; exact Nat.le_refl _
  | succ n ih =>
    intro i hi
    rw [mn]
    by_cases e : i = n + 1
    · subst e; split <;> omega
    · have := ih i (by omega)
      split <;> omega
theorem mn_mem (f : Nat → Nat) (n : Nat) : ∃ i, i ≤ n ∧ mn f n = f i := by
  induction n with
  | zero => exact ⟨0, by omega, rfl⟩
  | succ n ih =>
    rw [mn]
    split
    · exact ⟨n + 1, by omega, rfl⟩
    · obtain ⟨i, h1, h2⟩ := ih
      exact ⟨i, by omega, h2⟩
/-- What a function's levels cost. -/
def lvl (l : List Int) (t : Nat) : Nat := 2 * l.length + 2 * mtt l.length l t
def BL (l : List Int) : Int := if l ≠ [] ∧ VK l = true then (mn (lvl l) 929 : Int) else -1

/-- The index of the first least one of f 0 .. f n. -/
def am (f : Nat → Nat) : Nat → Nat
  | 0 => 0
  | n + 1 => if f (n + 1) < f (am f n) then n + 1 else am f n
theorem am_le (f : Nat → Nat) (n : Nat) : am f n ≤ n := by
  induction n with
  | zero => exact Nat.le_refl _
  | succ n ih => rw [am]; split <;> omega
theorem am_mn (f : Nat → Nat) (n : Nat) : f (am f n) = mn f n := by
  induction n with
  | zero => rfl
  | succ n ih => rw [am, mn, ih]; split <;> simp [ih]
theorem am_first (f : Nat → Nat) (n : Nat) : ∀ i, i < am f n → mn f n < f i := by
  induction n with
  | zero => intro i hi; exact absurd hi (by simp [am])
  | succ n ih =>
    intro i hi
    rw [am] at hi
    rw [mn]
    rw [am_mn f n] at hi
    split
    · rename_i h
      rw [if_pos h] at hi
      have := mn_le f n i (by omega)
      omega
    · rename_i h
      rw [if_neg h] at hi
      exact ih i hi
/-- The first function with the fewest pairs that meet keeps the keys apart, if any does. -/
theorem ap_am {m : Int} {l : List Int} : ap m l = if mtt m l (am (mtt m l) 929) = 0 then some (am (mtt m l) 929) else none := by
  have h1 := am_le (mtt m l) 929
  have h2 := am_mn (mtt m l) 929
  have h3 := am_first (mtt m l) 929
  have h4 := mn_le (mtt m l) 929
  split
  · rename_i h
    exact ap_some (by omega) h (fun s hs => by have := h3 s hs; omega)
  · rename_i h
    exact ap_none (fun s hs => by have := h4 s (by omega); omega)
end Go.Proofs.YtoaiaindcmihjaaGreatDoor
/-
  Chapter 3's laws in plain mathematics: few functions let two keys meet, as many for all; the averages; as many slots as the prime, and one.
-/
namespace Go.Proofs.YtoaiaindcmihjaaGreatDoor

theorem mul31 : ∀ a : Fin 31, ∀ d : Fin 31, 0 < a.val → 0 < d.val → (a.val * d.val) % 31 ≠ 0 := by decide +kernel
theorem inj31 {a b x y : Int} (ha : 1 ≤ a) (ha' : a ≤ 30) (hx : 0 ≤ x) (hx' : x ≤ 30) (hy : 0 ≤ y) (hy' : y ≤ 30) (h : (a * x + b) % 31 = (a * y + b) % 31) : x = y := by
  obtain ⟨A, rfl⟩ := Int.eq_ofNat_of_zero_le (show 0 ≤ a by omega)
  have key : ∀ u v : Int, 0 ≤ v → v < u → u ≤ 30 → ((A : Int) * u + b) % 31 = ((A : Int) * v + b) % 31 → False := by
    intro u v hv huv hu he
    obtain ⟨D, hD⟩ := Int.eq_ofNat_of_zero_le (show 0 ≤ u - v by omega)
    have h1 : ((A : Int) * u - (A : Int) * v) % 31 = 0 := by omega
    rw [← Int.mul_sub, hD] at h1
    have h2 := mul31 ⟨A, by omega⟩ ⟨D, by omega⟩ (by simp; omega) (by simp; omega)
    apply h2
    simp only
    have : ((A * D : Nat) : Int) % 31 = 0 := by rw [Int.natCast_mul]; exact h1
    omega
  rcases Int.lt_trichotomy x y with hlt | he | hlt
  · exact (key y x hx hlt hy' h.symm).elim
  · exact he
  · exact (key x y hy hlt hx' h).elim

theorem nodup_map {l : List Int} {f : Int → Int} (h : l.Nodup) (hi : ∀ x ∈ l, ∀ y ∈ l, f x = f y → x = y) : (l.map f).Nodup := by
  induction l with
  | nil => simp
  | cons x l ih =>
    rw [List.nodup_cons] at h
    rw [List.map_cons, List.nodup_cons]
    refine ⟨fun hm => ?_, ih h.2 (fun y hy z hz => hi y (by simp [hy]) z (by simp [hz]))⟩
    obtain ⟨y, hy, e⟩ := List.mem_map.1 hm
    have := hi y (by simp [hy]) x (by simp) e
    exact h.1 (this ▸ hy)

theorem mt_31 {a b : Int} {l : List Int} (ha : 1 ≤ a) (ha' : a ≤ 30) (h : VK l = true) : mt a b 31 l = 0 := by
  obtain ⟨_, h1, h2⟩ := VK_iff.1 h
  unfold mt
  rw [pr_zero]
  refine nodup_map h2 fun x hx y hy e => ?_
  have a1 := h1 x hx
  have a2 := h1 y hy
  unfold hs at e
  exact inj31 (b := b) ha ha' a1.1 a1.2 a2.1 a2.2 (by omega)
theorem mt_1 {a b : Int} {l : List Int} : 2 * mt a b 1 l = l.length * (l.length - 1) := by
  unfold mt
  rw [pr_same (c := 0), List.length_map]
  intro x hx
  obtain ⟨y, _, rfl⟩ := List.mem_map.1 hx
  unfold hs; omega
theorem mt_le {a b m : Int} {l : List Int} : 2 * mt a b m l ≤ l.length * (l.length - 1) := by
  unfold mt
  have := pr_le (l.map (hs a b m))
  rwa [List.length_map] at this

/-- Different numbers in 0..m-1 are at most m. -/
theorem nodup_le : ∀ (m : Nat) (l : List Int), l.Nodup → (∀ x ∈ l, 0 ≤ x ∧ x < m) → l.length ≤ m := by
  intro m
  induction m with
  | zero =>
    intro l _ h
    cases l with
    | nil => simp
    | cons x l => have := h x (by simp); omega
  | succ m ih =>
    intro l hn h
    have h1 := ih (l.filter (fun x => x != (m : Int))) (hn.filter _) (fun x hx => by
      rw [List.mem_filter] at hx
      have a1 := h x hx.1
      have a2 : x ≠ (m : Int) := by simpa using hx.2
      omega)
    have h2 : l.length = (l.filter (fun x => x != (m : Int))).length + l.count (m : Int) := by
      clear h1 h hn
      induction l with
      | nil => rfl
      | cons x l ih2 =>
        by_cases e : x = (m : Int)
        · subst e; simp [List.count_cons] at ih2 ⊢; omega
        · simp [List.count_cons, e] at ih2 ⊢; omega
    have h3 : l.count (m : Int) ≤ 1 := List.nodup_iff_count.1 hn _
    omega

/-! Sums over the family. -/
theorem cntN_congr {p q : Nat → Bool} {n : Nat} (h : ∀ i, i < n → p i = q i) : cntN p n = cntN q n := by
  induction n with
  | zero => rfl
  | succ n ih => rw [cntN, cntN, ih (fun i hi => h i (by omega)), h n (by omega)]
theorem cntN_add (p : Nat → Bool) (n k : Nat) : cntN p (n + k) = cntN p n + cntN (fun i => p (n + i)) k := by
  induction k with
  | zero => simp [cntN]
  | succ k ih => rw [← Nat.add_assoc, cntN, ih, cntN]; omega
theorem cntN_mul (p : Nat → Bool) (n : Nat) : cntN p (n * 31) = sumR (fun a => cntN (fun b => p (a * 31 + b)) 31) n := by
  induction n with
  | zero => simp [cntN, sumR]
  | succ n ih => rw [Nat.add_mul, Nat.one_mul, cntN_add, ih, sumR]
theorem cntN_count (p : Nat → Bool) (n : Nat) : cntN p n = (List.range n).countP p := by
  induction n with
  | zero => rfl
  | succ n ih => rw [cntN, List.range_succ, List.countP_append, ih]; simp [List.countP_cons]
theorem sum_snoc (l : List Nat) (x : Nat) : (l ++ [x]).sum = l.sum + x := by simp
theorem sumR_sum (f : Nat → Nat) (n : Nat) : sumR f n = ((List.range n).map f).sum := by
  induction n with
  | zero => rfl
  | succ n ih => rw [sumR, List.range_succ, List.map_append, ih]; simp
theorem perm_sum {l l' : List Nat} (h : l.Perm l') : l.sum = l'.sum := by
  induction h with
  | nil => rfl
  | cons x _ ih => simp [ih]
  | swap x y l => simp; omega
  | trans _ _ h1 h2 => exact h1.trans h2
theorem perm_add : ∀ s : Fin 31, ((List.range 31).map fun b => (s.val + b) % 31).Perm (List.range 31) := by decide +kernel
theorem perm_mul : ∀ d : Fin 31, 0 < d.val → ((List.range 30).map fun a => (a + 1) * d.val % 31).Perm ((List.range 30).map fun a => a + 1) := by decide +kernel
theorem cntN_shift (q : Nat → Bool) (s : Nat) (hs : s < 31) : cntN (fun b => q ((s + b) % 31)) 31 = cntN q 31 := by
  rw [cntN_count, cntN_count, ← (perm_add ⟨s, hs⟩).countP_eq q, List.countP_map]
  rfl
theorem sumR_scale (f : Nat → Nat) (d : Nat) (hd : d < 31) (h0 : 0 < d) : sumR (fun a => f ((a + 1) * d % 31)) 30 = sumR (fun a => f (a + 1)) 30 := by
  rw [sumR_sum, sumR_sum]
  have := perm_sum ((perm_mul ⟨d, hd⟩ h0).map f)
  rw [List.map_map, List.map_map] at this
  exact this

/-- How many u meet the one c further by m slots. -/
def rr (m c : Nat) : Nat := cntN (fun u => decide (u % m = (u + c) % 31 % m)) 31
/-- How many functions let any two keys meet. -/
def qq (m : Nat) : Nat := sumR (fun a => rr m (a + 1)) 30
theorem qq_le : ∀ m : Fin 32, 0 < m.val → qq m.val * m.val ≤ 930 := by decide +kernel

theorem meet_qq {m : Nat} {x y : Int} (hx : 0 ≤ x) (hx' : x ≤ 30) (hy : 0 ≤ y) (hy' : y ≤ 30) (hne : x ≠ y) : cntN (meet m x y) 930 = qq m := by
  obtain ⟨X, rfl⟩ := Int.eq_ofNat_of_zero_le hx
  obtain ⟨Y, rfl⟩ := Int.eq_ofNat_of_zero_le hy
  rw [show (930 : Nat) = 30 * 31 by rfl, cntN_mul]
  obtain ⟨d, hd⟩ : ∃ d, d = (Y + (31 - X)) % 31 := ⟨_, rfl⟩
  have hd0 : 0 < d := by omega
  have hd1 : d < 31 := by omega
  rw [show qq m = sumR (fun a => rr m (a + 1)) 30 from rfl, ← sumR_scale (rr m) d hd1 hd0]
  refine sumR_congr fun a ha => ?_
  refine Eq.trans ?_ (cntN_shift (fun u => decide (u % m = (u + (a + 1) * d % 31) % 31 % m)) ((a + 1) * X % 31) (Nat.mod_lt _ (by omega)))
  refine cntN_congr fun b hb => ?_
  have eA : fA (a * 31 + b) = a + 1 := by unfold fA; omega
  have eB : fB (a * 31 + b) = b := by unfold fB; omega
  have e1 : hs (fA (a * 31 + b)) (fB (a * 31 + b)) m X = ((((a + 1) * X % 31 + b) % 31 % m : Nat) : Int) := by
    rw [eA, eB]
    unfold hs
    have : ((a + 1 : Nat) : Int) * (X : Int) + (b : Int) = (((a + 1) * X + b : Nat) : Int) := by simp
    rw [this]
    have h2 : ((a + 1) * X % 31 + b) % 31 = ((a + 1) * X + b) % 31 := by omega
    rw [h2]; simp
  have e2 : hs (fA (a * 31 + b)) (fB (a * 31 + b)) m Y = (((((a + 1) * X % 31 + b) % 31 + (a + 1) * d % 31) % 31 % m : Nat) : Int) := by
    rw [eA, eB]
    unfold hs
    have : ((a + 1 : Nat) : Int) * (Y : Int) + (b : Int) = (((a + 1) * Y + b : Nat) : Int) := by simp
    rw [this]
    have h2 : (((a + 1) * X % 31 + b) % 31 + (a + 1) * d % 31) % 31 = ((a + 1) * Y + b) % 31 := by
      have h3 : (((a + 1) * X % 31 + b) % 31 + (a + 1) * d % 31) % 31 = ((a + 1) * X + b + (a + 1) * d) % 31 := by omega
      have h4 : (a + 1) * X + b + (a + 1) * d = (a + 1) * (X + d) + b := by rw [Nat.mul_add]; omega
      obtain ⟨k, hk⟩ : ∃ k, X + d = Y + 31 * k ∨ X + d + 31 * k = Y := by
        refine ⟨(X + d) / 31, ?_⟩
        omega
      rw [h3, h4]
      rcases hk with hk | hk
      · rw [hk, Nat.mul_add, Nat.mul_left_comm]; omega
      · rw [← hk, Nat.mul_add (a + 1) (X + d) (31 * k), Nat.mul_left_comm]; omega
    rw [h2]; simp
  unfold meet
  rw [e1, e2]
  simp only [decide_eq_decide]
  omega

/-- The law of PairCount. -/
theorem PC_facts {m x y : Int} (h : VX m x y = true) : 0 ≤ PC m x y ∧ PC m x y * m ≤ 930 ∧ PC m 0 1 = PC m x y ∧ PC m y x = PC m x y := by
  obtain ⟨h1, h2, h3, h4, h5, h6, h7⟩ := VX_iff.1 h
  obtain ⟨M, rfl⟩ := Int.eq_ofNat_of_zero_le (show 0 ≤ m by omega)
  have e : ∀ u v : Int, 0 ≤ u → u ≤ 30 → 0 ≤ v → v ≤ 30 → u ≠ v → PC M u v = (qq M : Int) := by
    intro u v a b c d f
    unfold PC
    rw [if_pos (VX_iff.2 ⟨h1, h2, a, b, c, d, f⟩), meet_qq a b c d f]
  rw [e x y h3 h4 h5 h6 h7, e 0 1 (by omega) (by omega) (by omega) (by omega) (by omega), e y x h5 h6 h3 h4 (fun q => h7 q.symm)]
  have := qq_le ⟨M, by omega⟩ (by simp; omega)
  simp only at this
  refine ⟨by omega, ?_, rfl, rfl⟩
  have h8 : ((qq M * M : Nat) : Int) ≤ 930 := by omega
  rwa [Int.natCast_mul] at h8

theorem cnt_sum (f : Nat → Int) (g : Nat → List Int) (n : Nat) (l : List Int) (p : Int → Nat → Bool) (h : ∀ t, t < n → (g t).count (f t) = (l.map fun y => if p y t = true then 1 else 0).sum) :
    sumR (fun t => (g t).count (f t)) n = (l.map fun y => cntN (p y) n).sum := by
  induction n with
  | zero =>
    rw [sumR]
    clear h
    induction l with
    | nil => rfl
    | cons y l ih => simp [cntN] at ih ⊢; exact ih
  | succ n ih =>
    rw [sumR, ih (fun t ht => h t (by omega)), h n (by omega)]
    clear ih h
    induction l with
    | nil => rfl
    | cons y l ih => simp only [List.map_cons, List.sum_cons, cntN] at ih ⊢; omega
theorem count_map (x : Int) (l : List Int) (f : Int → Int) : (l.map f).count x = (l.map fun y => if decide (x = f y) = true then 1 else 0).sum := by
  induction l with
  | nil => rfl
  | cons y l ih =>
    rw [List.map_cons, List.map_cons, List.sum_cons, List.count_cons, ih]
    by_cases e : x = f y
    · simp [e]; omega
    · have e' : ¬ f y = x := fun q => e q.symm
      simp [e, e']
theorem sum_const (l : List Int) (q : Nat) : (l.map fun _ => q).sum = l.length * q := by
  induction l with
  | nil => simp
  | cons y l ih => rw [List.map_cons, List.sum_cons, ih, List.length_cons, Nat.add_mul]; omega
/-- All pairs of different keys meet by as many functions. -/
theorem sum_mtt {m : Nat} {l : List Int} (h1 : ∀ x ∈ l, 0 ≤ x ∧ x ≤ 30) (h2 : l.Nodup) : 2 * sumR (mtt m l) 930 = l.length * (l.length - 1) * qq m := by
  induction l with
  | nil =>
    have : sumR (mtt m []) 930 = sumR (fun _ => 0) 930 := sumR_congr fun i _ => rfl
    rw [this]
    have h0 : ∀ n, sumR (fun _ => 0) n = 0 := by
      intro n
      induction n with
      | zero => rfl
      | succ n ih => rw [sumR, ih]
    rw [h0]; simp
  | cons x l ih =>
    rw [List.nodup_cons] at h2
    have ih := ih (fun y hy => h1 y (by simp [hy])) h2.2
    have e : sumR (mtt m (x :: l)) 930 = sumR (fun t => (l.map (hs (fA t) (fB t) m)).count (hs (fA t) (fB t) m x)) 930 + sumR (mtt m l) 930 := by
      rw [← sumR_add]
      refine sumR_congr fun t _ => ?_
      rfl
    have e2 : sumR (fun t => (l.map (hs (fA t) (fB t) m)).count (hs (fA t) (fB t) m x)) 930 = l.length * qq m := by
      rw [cnt_sum _ _ _ l (fun y t => meet m x y t) (fun t _ => by rw [count_map]; rfl)]
      have h3 : l.map (fun y => cntN (fun t => meet m x y t) 930) = l.map fun _ => qq m := by
        refine List.map_congr_left fun y hy => ?_
        have a1 := h1 x (by simp)
        have a2 := h1 y (by simp [hy])
        exact meet_qq a1.1 a1.2 a2.1 a2.2 (fun q => h2.1 (q ▸ hy))
      rw [h3, sum_const]
    rw [e, e2, Nat.mul_add, ih, List.length_cons, Nat.add_sub_cancel]
    cases l with
    | nil => simp
    | cons y l =>
      simp only [List.length_cons, Nat.add_sub_cancel]
      rw [← Nat.mul_assoc, ← Nat.add_mul, Nat.mul_comm 2, ← Nat.mul_add, Nat.mul_comm (l.length + 1 + 1)]
      congr 2
      omega

/-- Twice the keys and less than thrice. -/
theorem BL_facts {l : List Int} (h0 : l ≠ []) (h : VK l = true) : BL l < 3 * (l.length : Int) ∧ 2 * (l.length : Int) ≤ BL l ∧ BL l ≤ TL 1 0 l := by
  obtain ⟨hl, h1, h2⟩ := VK_iff.1 h
  have hpos : 0 < l.length := List.length_pos_iff.2 h0
  unfold BL
  rw [if_pos ⟨h0, h⟩]
  refine ⟨?_, ?_, ?_⟩
  · apply Classical.byContradiction
    intro hn
    have hall : ∀ t, t < 930 → l.length ≤ 2 * mtt l.length l t := by
      intro t ht
      have := mn_le (lvl l) 929 t (by omega)
      unfold lvl at this
      unfold lvl at hn
      omega
    have hs : ∀ n, n ≤ 930 → l.length * n ≤ 2 * sumR (mtt l.length l) n := by
      intro n
      induction n with
      | zero => intro _; simp
      | succ n ih =>
        intro hn
        have a1 := ih (by omega)
        have a2 := hall n (by omega)
        rw [sumR, Nat.mul_add, Nat.mul_add]; omega
    have hs := hs 930 (Nat.le_refl _)
    rw [sum_mtt h1 h2] at hs
    have hq := qq_le ⟨l.length, by omega⟩ hpos
    simp only at hq
    have h5 : l.length * (l.length - 1) * qq l.length = (l.length - 1) * (qq l.length * l.length) := by
      rw [Nat.mul_comm l.length, Nat.mul_assoc, Nat.mul_comm l.length]
    rw [h5] at hs
    have h6 := Nat.mul_le_mul_left (l.length - 1) hq
    omega
  · obtain ⟨i, _, hi⟩ := mn_mem (lvl l) 929
    rw [hi]; unfold lvl; omega
  · have := mn_le (lvl l) 929 0 (by omega)
    have e : lvl l 0 = 2 * l.length + 2 * mt 1 0 l.length l := rfl
    unfold TL
    rw [if_pos ⟨h0, VF_iff.2 ⟨by omega, by omega, by omega, by omega, by omega, by omega⟩, h⟩]
    omega
theorem TL_facts {a b : Int} {l : List Int} (h0 : l ≠ []) (hf : VF a b l.length = true) (h : VK l = true) : TL a b l = 2 * (l.length : Int) + 2 * MO a b l.length l ∧ TL a b l ≤ l.length + (l.length : Int) * l.length ∧ 0 ≤ TL a b l := by
  unfold TL MO
  rw [if_pos ⟨h0, hf, h⟩, if_pos ⟨hf, h⟩]
  refine ⟨rfl, ?_, by omega⟩
  have h1 := mt_le (a := a) (b := b) (m := l.length) (l := l)
  have hpos : 0 < l.length := List.length_pos_iff.2 h0
  have h2 : l.length * (l.length - 1) + l.length = l.length * l.length := by
    rw [← Nat.mul_succ]; congr 1; omega
  have h3 : ((l.length * l.length : Nat) : Int) = (l.length : Int) * l.length := by simp
  omega
theorem MO_facts {a b m : Int} {l : List Int} (hf : VF a b m = true) (h : VK l = true) : 0 ≤ MO a b m l ∧ 2 * MO a b m l ≤ (l.length : Int) * (l.length - 1) ∧ 2 * MO a b 1 l = (l.length : Int) * (l.length - 1) ∧ MO a b 31 l = 0 := by
  obtain ⟨f1, f2, f3, f4, f5, f6⟩ := VF_iff.1 hf
  unfold MO
  rw [if_pos ⟨hf, h⟩, if_pos ⟨VF_iff.2 ⟨f1, f2, f3, f4, by omega, by omega⟩, h⟩, if_pos ⟨VF_iff.2 ⟨f1, f2, f3, f4, by omega, by omega⟩, h⟩]
  have h1 := mt_le (a := a) (b := b) (m := m) (l := l)
  have h2 := mt_1 (a := a) (b := b) (l := l)
  have h3 := mt_31 (b := b) f1 f2 h
  have h4 : ((l.length * (l.length - 1) : Nat) : Int) = (l.length : Int) * (l.length - 1) := by
    cases l with
    | nil => simp
    | cons x l => simp only [List.length_cons, Nat.add_sub_cancel, Int.natCast_mul]; congr 1; omega
  exact ⟨by omega, by omega, by omega, by omega⟩
theorem HO_facts {a b m k : Int} (hf : VF a b m = true) (hk : KR k = true) : 0 ≤ HO a b m k ∧ HO a b m k < m ∧ HO a b 31 k = (a * k + b) % 31 ∧ (a * k + b) % 31 % m = HO a b m k ∧ 0 ≤ (a * k + b) % 31 ∧ 0 ≤ a * k + b ∧ a * k + b ≤ 930 := by
  obtain ⟨f1, f2, f3, f4, f5, f6⟩ := VF_iff.1 hf
  have g := KR_iff.1 hk
  have p := hs_range (a := a) (b := b) (k := k) f5
  have q0 : 0 ≤ a * k := Int.mul_nonneg (by omega) (by omega)
  have q1 : a * k ≤ 30 * 30 := Int.mul_le_mul f2 g.2 g.1 (by omega)
  unfold HO
  rw [if_pos ⟨hf, hk⟩, if_pos ⟨VF_iff.2 ⟨f1, f2, f3, f4, by omega, by omega⟩, hk⟩]
  refine ⟨p.1, p.2, ?_, rfl, Int.emod_nonneg _ (by omega), by omega, by omega⟩
  unfold hs; omega
theorem AP_facts {m : Int} {l : List Int} (h : (AP m l).2.2 = true) : VF (AP m l).1 (AP m l).2.1 m = true ∧ VK l = true ∧ MO (AP m l).1 (AP m l).2.1 m l = 0 ∧ (l.length : Int) ≤ m := by
  by_cases hv : SZ m = true ∧ VK l = true
  · obtain ⟨s1, s2⟩ := SZ_iff.1 hv.1
    have e : AP m l = apR (ap m l) := by unfold AP; rw [if_pos hv]
    rw [e] at h ⊢
    cases ha : ap m l with
    | none => rw [ha] at h; simp [apR] at h
    | some t =>
      obtain ⟨t1, t2⟩ := ap_spec ha
      have hA := fA_le t1
      have hB := fB_le t
      have hf : VF (fA t : Int) (fB t : Int) m = true := VF_iff.2 ⟨by omega, by omega, by omega, by omega, s1, s2⟩
      simp only [apR]
      refine ⟨hf, hv.2, ?_, ?_⟩
      · unfold MO; rw [if_pos ⟨hf, hv.2⟩]; have : mt (fA t) (fB t) m l = 0 := t2; omega
      · obtain ⟨M, rfl⟩ := Int.eq_ofNat_of_zero_le (show 0 ≤ m by omega)
        have h2 : (l.map (hs (fA t) (fB t) M)).Nodup := pr_zero.1 t2
        have := nodup_le M _ h2 (fun x hx => by
          obtain ⟨y, _, rfl⟩ := List.mem_map.1 hx
          exact hs_range s1)
        rw [List.length_map] at this; omega
  · unfold AP at h; rw [if_neg hv] at h; simp at h
theorem AP_of {m : Int} {l : List Int} (h1 : 1 ≤ m) (h2 : m ≤ 31) (hv : VK l = true) : (AP m l).2.2 = (ap m l).isSome := by
  unfold AP
  rw [if_pos ⟨SZ_iff.2 ⟨h1, h2⟩, hv⟩]
  cases ap m l <;> rfl
theorem LA_facts {l : List Int} (hv : VK l = true) : 1 ≤ LA l ∧ LA l ≤ 31 ∧ (AP (LA l) l).2.2 = true ∧ (AP (LA l - 1) l).2.2 = false ∧ (l.length : Int) ≤ LA l := by
  obtain ⟨i, hi, h1, h2, h3⟩ := la_spec hv
  have e : LA l = (i : Int) + 1 := by unfold LA; rw [if_pos hv, h1]
  have ha : (AP (LA l) l).2.2 = true := by rw [e, AP_of (by omega) (by omega) hv]; exact h2
  refine ⟨by omega, by omega, ha, ?_, (AP_facts ha).2.2.2⟩
  rw [e]
  cases i with
  | zero =>
    unfold AP
    rw [if_neg (by rintro ⟨q, _⟩; have := (SZ_iff.1 q).1; omega)]
  | succ i =>
    have := h3 i (by omega)
    rw [show ((i + 1 : Nat) : Int) + 1 - 1 = (i : Int) + 1 by omega, AP_of (by omega) (by omega) hv, this]
    rfl
end Go.Proofs.YtoaiaindcmihjaaGreatDoor
/-
  spec.hash, validHash, HashOf, has, validKeys, meetings, MeetingsOf.
-/
namespace Go.Proofs.YtoaiaindcmihjaaGreatDoor
open Go.RowKit

theorem VF_eq (a b m : Int) : VF a b m = (inR a 1 30 && inR b 0 30 && inR m 1 31) := by
  rw [Bool.eq_iff_iff]; simp only [VF_iff, Bool.and_eq_true, inR_iff]; omega
theorem KR_eq (k : Int) : KR k = inR k 0 30 := by rw [Bool.eq_iff_iff, KR_iff, inR_iff]
theorem SZ_eq (m : Int) : SZ m = inR m 1 31 := by rw [Bool.eq_iff_iff, SZ_iff, inR_iff]

set_option maxHeartbeats 1000000 in
theorem hash_any (a b m k : Int) (w : World) (ha : 0 ≤ a) (ha' : a ≤ 30) (hb : 0 ≤ b) (hb' : b ≤ 30) (hm : 1 ≤ m) (hm' : m ≤ 31) (hk : 0 ≤ k) (hk' : k ≤ 30) :
    Calls Tryz.prog 165 #[.int .i64 a, .int .i64 b, .int .i64 m, .int .i64 k] w fun e w' => e = .returned (.int .i64 (hs a b m k)) ∧ w = w' := by
  have h0 : 0 ≤ a * k := Int.mul_nonneg ha hk
  have h1 : a * k ≤ 30 * 30 := Int.mul_le_mul ha' hk' hk (by omega)
  have hne : (m == 0) = false := by simp; omega
  go_enter Tryz.func165, Tryz.ntmps165
  go_wp2
  go_ret
  exact ⟨rfl, rfl⟩

theorem inL_yes {l : List Int} {x : Int} (h : x ∈ l) : inL l x = true := by simp [inL, h]
theorem inL_no {l : List Int} {x : Int} (h : x ∉ l) : inL l x = false := by simp [inL, h]

set_option maxHeartbeats 1000000 in
theorem has_any (a : Option Addr) (l : List Int) (len cap : Nat) (n : Int) (w : World) (hr : Reads w a l) (hn : l.length = len) (hl : len ≤ 9223372036854775806) :
    Calls Tryz.prog 51 #[.slice a len cap, .int .i64 n] w fun e w' => e = .returned (.bool (inL l n)) ∧ w = w' := by
  subst hn
  go_enter Tryz.func51, Tryz.ntmps51
  go_wp2
  go_loop [5] (fun i => ∃ k : Nat, k ≤ l.length ∧ i = .int .i64 k ∧ Hid (∀ j, j < k → l.getD j 0 ≠ n)) (fun i => l.length - (intOf i).toNat)
  case atStart => exact ⟨0, Nat.zero_le _, rfl, fun j hj => by omega⟩
  case round =>
    obtain ⟨k, hk, rfl, hf⟩ := hrel
    by_cases hlt : k < l.length
    · obtain ⟨b, off, y, rfl, hb, hcell, hy⟩ := hr.get hlt
      by_cases g1 : y = n
      · have hd : (y == n) = true := by simp [g1]
        have hin : inL l n = true := by
          have e : l.getD k 0 = l[k] := by simp [List.getD, hlt]
          have := hy.out
          rw [e, g1] at this
          exact inL_yes (this ▸ List.getElem_mem hlt)
        have HIN := Lib.hid hin
        clear hin g1
        go_wp2
        go_ret
        exact ⟨ret_bool HIN.out.symm, rfl⟩
      · have hd : (y == n) = false := by simpa using g1
        have HG := Lib.hid g1
        clear g1
        go_wp2
        go_round
        case rel =>
          refine ⟨k + 1, by omega, by go_num, ?_⟩
          intro j hj
          by_cases e : j = k
          · subst e; rw [hy.out]; exact HG.out
          · exact hf.out j (by omega)
        case measure => simp [intOf]; omega
    · obtain rfl : k = l.length := by omega
      have hin : inL l n = false := by
        apply inL_no
        intro h
        obtain ⟨i, hi, e⟩ := List.getElem_of_mem h
        exact hf.out i hi (by simp [List.getD, hi, e])
      have HIN := Lib.hid hin
      clear hin
      go_wp2
      go_ret
      exact ⟨ret_bool HIN.out.symm, rfl⟩

/-- The first k keys are different ones. -/
def VKp (l : List Int) (k : Nat) : Prop := ∀ i, i < k → (0 ≤ l.getD i 0 ∧ l.getD i 0 ≤ 30) ∧ l.getD i 0 ∉ l.take i
theorem VKp.succ {l : List Int} {k : Nat} (h : VKp l k) (h1 : 0 ≤ l.getD k 0 ∧ l.getD k 0 ≤ 30) (h2 : l.getD k 0 ∉ l.take k) : VKp l (k + 1) := by
  intro i hi
  by_cases e : i = k
  · subst e; exact ⟨h1, h2⟩
  · exact h i (by omega)
theorem take_snoc {l : List Int} {k : Nat} (h : k < l.length) : l.take (k + 1) = l.take k ++ [l.getD k 0] := by
  rw [List.take_succ_eq_append_getElem h]; simp [List.getD, h]
theorem VKp.nodup {l : List Int} : ∀ k, k ≤ l.length → VKp l k → (l.take k).Nodup ∧ ∀ x ∈ l.take k, 0 ≤ x ∧ x ≤ 30 := by
  intro k
  induction k with
  | zero => intro _ _; simp
  | succ k ih =>
    intro hk h
    obtain ⟨i1, i2⟩ := ih (by omega) (fun i hi => h i (by omega))
    obtain ⟨h1, h2⟩ := h k (by omega)
    rw [take_snoc (by omega)]
    refine ⟨?_, ?_⟩
    · rw [List.nodup_append]
      refine ⟨i1, by simp, fun x hx y hy => ?_⟩
      simp only [List.mem_singleton] at hy
      rintro rfl
      exact h2 (hy ▸ hx)
    · intro x hx
      rcases List.mem_append.1 hx with hx | hx
      · exact i2 x hx
      · simp only [List.mem_singleton] at hx; subst hx; exact h1
theorem VK_end {l : List Int} (h : VKp l l.length) : VK l = decide (l.length ≤ 8) := by
  obtain ⟨h1, h2⟩ := VKp.nodup l.length (Nat.le_refl _) h
  rw [List.take_length] at h1 h2
  rw [Bool.eq_iff_iff, VK_iff, decide_eq_true_eq]
  exact ⟨fun h => h.1, fun h => ⟨h, h2, h1⟩⟩
theorem VK_bad1 {l : List Int} {k : Nat} (hk : k < l.length) (h : ¬ (0 ≤ l.getD k 0 ∧ l.getD k 0 ≤ 30)) : VK l = false := by
  rw [← Bool.not_eq_true, VK_iff]
  rintro ⟨_, h2, _⟩
  exact h (h2 _ (getD_mem hk))
theorem VK_bad2 {l : List Int} {k : Nat} (hk : k < l.length) (h : l.getD k 0 ∈ l.take k) : VK l = false := by
  rw [← Bool.not_eq_true, VK_iff]
  rintro ⟨_, _, h3⟩
  have h4 : (l.take (k + 1)).Nodup := h3.sublist (List.take_sublist _ _)
  rw [take_snoc hk, List.nodup_append] at h4
  exact h4.2.2 _ h _ (by simp) rfl

theorem Reads.take' {w : World} {a : Option Addr} {l : List Int} (h : Reads w a l) (k : Nat) : Reads w a (l.take k) := by
  rcases h with rfl | ⟨b, off, ha, hb, hc⟩
  · exact .inl (by simp)
  · refine .inr ⟨b, off, ha, hb, fun i hi => ?_⟩
    rw [List.length_take] at hi
    rw [hc i (by omega)]
    simp [List.getD, List.getElem?_take, show i < k by omega]
theorem quiet_lf {P : Program} {f : FuncId} {args : Array Value} {w : World} {a n : Nat} {v : Value}
    (h : Calls P f args (w.drewN (a + n)) fun e w' => e = .returned v ∧ w.drewN (a + n) = w') :
    Calls P f args (w.drewN (a + n)) fun e w'' => e = .returned v ∧ ∃ m, w'' = w.drewN (a + m) :=
  h.mono fun _ _ ⟨he, hm⟩ => ⟨he, n, hm.symm⟩

set_option maxHeartbeats 4000000 in
theorem specvalidKeys_any (a : Option Addr) (l : List Int) (cap : Nat) (w : World) (hr : Reads w a l) (hl : l.length ≤ 1048586) (hcap : l.length ≤ cap) :
    Calls Tryz.prog 82 #[.slice a l.length cap] w fun e w' => e = .returned (.bool (VK l)) ∧ ∃ n, w' = w.drewN n := by
  go_enter Tryz.func82, Tryz.ntmps82
  go_wp2
  go_loopw [3] (fun i wr => ∃ k n : Nat, k ≤ l.length ∧ i = .int .i64 k ∧ Hid (VKp l k) ∧ wr = w.drewN n) (fun i _ => l.length - (intOf i).toNat)
  case atStart => exact ⟨0, 0, Nat.zero_le _, rfl, fun j hj => by omega, rfl⟩
  case round =>
    obtain ⟨k, n, hk, rfl, hf, rfl⟩ := hrel
    by_cases hlt : k < l.length
    · obtain ⟨b, off, y, rfl, hb, hcell, hy⟩ := hr.get hlt
      by_cases g1 : inR y 0 30 = true
      · have c1 : ∀ wx, Calls Tryz.prog 58 #[.int .i64 y, .int .i64 0, .int .i64 30] wx fun e w' => e = .returned (.bool true) ∧ wx = w' := fun wx => by
          have := inRange_any y 0 30 wx; rwa [g1] at this
        have D1 := Lib.hid (fun n => c1 (w.drewN n))
        have ht := hr.take' k
        have hk1 : (k : Int) ≤ (cap : Int) := by omega
        have hk2 : (k : Int) < (l.length : Int) := by omega
        have hk3 : (0 : Int) ≤ (k : Int) := by omega
        by_cases g2 : inL (l.take k) y = true
        · have c2 : ∀ wx, Reads wx (some ⟨b, off, none⟩) (l.take k) → Calls Tryz.prog 51 #[.slice (some ⟨b, off, none⟩) k cap, .int .i64 y] wx fun e w' => e = .returned (.bool true) ∧ wx = w' := fun wx h => by
            have := has_any (some ⟨b, off, none⟩) (l.take k) k cap y wx h (by rw [List.length_take]; omega) (by omega)
            rwa [g2] at this
          have D2 := Lib.hid (fun n => c2 (w.drewN n) ht)
          have HB := Lib.hid (VK_bad2 hlt (by rw [hy.out]; simpa [inL] using g2))
          clear c1 c2 g1 g2
          go_wp2_with fail
          go_quiet ((with_reducible first | (go_at_call 58; exact quiet_lf (D1.out _)) | (go_at_call 51; exact quiet_lf (D2.out _))))
          all_goals
            go_wp2
            go_ret
            exact ⟨ret_bool HB.out.symm, _, World.drewN_drewN _ _ _⟩
        · have g2' : inL (l.take k) y = false := by simpa using g2
          have c2 : ∀ wx, Reads wx (some ⟨b, off, none⟩) (l.take k) → Calls Tryz.prog 51 #[.slice (some ⟨b, off, none⟩) k cap, .int .i64 y] wx fun e w' => e = .returned (.bool false) ∧ wx = w' := fun wx h => by
            have := has_any (some ⟨b, off, none⟩) (l.take k) k cap y wx h (by rw [List.length_take]; omega) (by omega)
            rwa [g2'] at this
          have D2 := Lib.hid (fun n => c2 (w.drewN n) ht)
          have HB := Lib.hid (hf.out.succ (by rw [hy.out]; exact inR_iff.1 g1) (by rw [hy.out]; simpa [inL] using g2))
          clear c1 c2 g1 g2 g2'
          go_wp2_with fail
          go_quiet ((with_reducible first | (go_at_call 58; exact quiet_lf (D1.out _)) | (go_at_call 51; exact quiet_lf (D2.out _))))
          all_goals
            go_wp2
            go_roundw
            case rel => exact ⟨k + 1, _, by omega, by go_num, HB, rfl⟩
            case measure => simp [intOf]; omega
      · have g1' : inR y 0 30 = false := by simpa using g1
        have c1 : ∀ wx, Calls Tryz.prog 58 #[.int .i64 y, .int .i64 0, .int .i64 30] wx fun e w' => e = .returned (.bool false) ∧ wx = w' := fun wx => by
          have := inRange_any y 0 30 wx; rwa [g1'] at this
        have D1 := Lib.hid (fun n => c1 (w.drewN n))
        have HB := Lib.hid (VK_bad1 hlt (by rw [hy.out]; exact fun h => g1 (inR_iff.2 h)))
        have hk1 : (k : Int) ≤ (cap : Int) := by omega
        have hk2 : (k : Int) < (l.length : Int) := by omega
        have hk3 : (0 : Int) ≤ (k : Int) := by omega
        clear c1 g1 g1'
        go_wp2_with fail
        go_quiet ((with_reducible first | (go_at_call 58; exact quiet_lf (D1.out _))))
        all_goals
          go_wp2
          go_ret
          exact ⟨ret_bool HB.out.symm, _, World.drewN_drewN _ _ _⟩
    · obtain rfl : k = l.length := by omega
      have HB := Lib.hid (VK_end hf.out)
      go_wp2
      go_ret
      exact ⟨ret_bool (by rw [HB.out]; simp; omega), _, rfl⟩

/-- Pairs that meet, while they are counted. -/
def mpart (H : List Int) (i k : Nat) : Nat := pr (H.take i) + (H.take k).count (H.getD i 0)
theorem mpart_zero (H : List Int) (i : Nat) : mpart H i 0 = pr (H.take i) := by simp [mpart]
theorem mpart_full {H : List Int} {i : Nat} (h : i < H.length) : mpart H i i = pr (H.take (i + 1)) := by
  rw [take_snoc h, pr_snoc, mpart]
theorem mpart_succ {H : List Int} {i k : Nat} (h : k < H.length) : mpart H i (k + 1) = mpart H i k + (if H.getD i 0 = H.getD k 0 then 1 else 0) := by
  unfold mpart
  rw [take_snoc h, List.count_append]
  by_cases e : H.getD i 0 = H.getD k 0
  · rw [if_pos e, e]; simp; omega
  · rw [if_neg e]
    have e' : ¬ H.getD k 0 = H.getD i 0 := fun q => e q.symm
    simp only [List.getD] at e' ⊢
    simp [List.count_cons, e']
theorem map_getD {l : List Int} {f : Int → Int} {i : Nat} (h : i < l.length) : (l.map f).getD i 0 = f (l.getD i 0) := by simp [List.getD, h]
theorem pr_le100 {L : List Int} (h : L.length ≤ 8) : pr L ≤ 100 := by
  have h1 := pr_le L
  have h2 : L.length * (L.length - 1) ≤ 8 * 8 := Nat.mul_le_mul h (by omega)
  omega
theorem mpart_le {H : List Int} {i k : Nat} (h : H.length ≤ 8) : mpart H i k ≤ 200 := by
  have h1 := pr_le100 (L := H.take i) (by rw [List.length_take]; omega)
  have h2 : (H.take k).count (H.getD i 0) ≤ (H.take k).length := List.count_le_length
  rw [List.length_take] at h2
  unfold mpart; omega

set_option maxHeartbeats 4000000 in
theorem meetings_any (a b m : Int) (al : Option Addr) (l : List Int) (cap : Nat) (w : World) (hr : Reads w al l) (ha : 1 ≤ a) (ha' : a ≤ 30) (hb : 0 ≤ b) (hb' : b ≤ 30) (hm : 1 ≤ m) (hm' : m ≤ 31) (hv : VK l = true) :
    Calls Tryz.prog 135 #[.int .i64 a, .int .i64 b, .int .i64 m, .slice al l.length cap] w fun e w' => e = .returned (.int .i64 (mt a b m l : Nat)) ∧ ∃ n, w' = w.drewN n := by
  obtain ⟨hl, hfit, _⟩ := VK_iff.1 hv
  obtain ⟨H, hH⟩ : ∃ H, H = l.map (hs a b m) := ⟨_, rfl⟩
  have hHl : H.length = l.length := by rw [hH, List.length_map]
  have hHg : ∀ i, i < l.length → H.getD i 0 = hs a b m (l.getD i 0) := fun i hi => by rw [hH]; exact map_getD hi
  have hmt : mt a b m l = pr H := by rw [hH]; rfl
  have HG := Lib.hid hHg
  have HM := Lib.hid hmt
  have HL := Lib.hid hHl
  have HF := Lib.hid hfit
  clear hmt hH hHl hHg hfit hv
  go_enter Tryz.func135, Tryz.ntmps135
  go_wp2
  go_loopw [9, 10] (fun c i wr => ∃ k n : Nat, k ≤ l.length ∧ i = .int .i64 k ∧ c = .int .i64 (pr (H.take k) : Nat) ∧ wr = w.drewN n) (fun _ i _ => l.length - (intOf i).toNat)
  case atStart => exact ⟨0, 0, Nat.zero_le _, rfl, by simp [pr], rfl⟩
  case round =>
    obtain ⟨i, n, hi, rfl, rfl, rfl⟩ := hrel
    by_cases hlt : i < l.length
    · obtain ⟨bb, off, y, rfl, hbb, hcell, hy⟩ := hr.get hlt
      have hyf := HF.out y (by rw [← hy.out]; exact getD_mem hlt)
      go_wp2
      go_loopw [9, 11] (fun c j wr => ∃ k n : Nat, k ≤ i ∧ j = .int .i64 k ∧ c = .int .i64 (mpart H i k : Nat) ∧ wr = w.drewN n) (fun _ j _ => i - (intOf j).toNat)
      case atStart => exact ⟨0, n, Nat.zero_le _, rfl, by rw [mpart_zero], rfl⟩
      case round =>
        obtain ⟨k, n, hk, rfl, rfl, rfl⟩ := hrel
        have hml := mpart_le (H := H) (i := i) (k := k) (by rw [HL.out]; omega)
        by_cases hlt2 : k < i
        · obtain ⟨z, hcell2, hz⟩ := hr.at_ (k := k) (by omega)
          have hzf := HF.out z (by rw [← hz.out]; exact getD_mem (by omega))
          have hk4 : (k : Int) < (l.length : Int) := by omega
          have hk5 : (0 : Int) ≤ (k : Int) := by omega
          obtain ⟨X, hX⟩ : ∃ X, X = hs a b m y := ⟨_, rfl⟩
          obtain ⟨Z, hZ⟩ : ∃ Z, Z = hs a b m z := ⟨_, rfl⟩
          have D1 := Lib.hid (fun n => (by have := hash_any a b m y (w.drewN n) (by omega) ha' hb hb' hm hm' hyf.1 hyf.2; rwa [← hX] at this : Calls Tryz.prog 165 #[.int .i64 a, .int .i64 b, .int .i64 m, .int .i64 y] (w.drewN n) fun e w' => e = .returned (.int .i64 X) ∧ w.drewN n = w'))
          have D2 := Lib.hid (fun n => (by have := hash_any a b m z (w.drewN n) (by omega) ha' hb hb' hm hm' hzf.1 hzf.2; rwa [← hZ] at this : Calls Tryz.prog 165 #[.int .i64 a, .int .i64 b, .int .i64 m, .int .i64 z] (w.drewN n) fun e w' => e = .returned (.int .i64 Z) ∧ w.drewN n = w'))
          have HS := Lib.hid (mpart_succ (H := H) (i := i) (k := k) (by rw [HL.out]; omega))
          have eX : Hid (H.getD i 0 = X) := by show H.getD i 0 = X; rw [HG.out i hlt, hy.out, hX]
          have eZ : Hid (H.getD k 0 = Z) := by show H.getD k 0 = Z; rw [HG.out k (by omega), hz.out, hZ]
          clear hX hZ hyf hzf
          by_cases e : X = Z
          · have hd : (X == Z) = true := by simp [e]
            have E := Lib.hid e
            clear e
            go_wp2_with fail
            go_quiet ((with_reducible first | (go_at_call 165; exact quiet_lf (D1.out _)) | (go_at_call 165; exact quiet_lf (D2.out _))))
            all_goals
              go_wp2
              go_roundw
              case rel => exact ⟨k + 1, _, by omega, by go_num, by rw [HS.out, if_pos (by rw [eX.out, eZ.out, E.out])]; go_num, rfl⟩
              case measure => simp [intOf]; omega
          · have hd : (X == Z) = false := by simp [e]
            have E := Lib.hid e
            clear e
            go_wp2_with fail
            go_quiet ((with_reducible first | (go_at_call 165; exact quiet_lf (D1.out _)) | (go_at_call 165; exact quiet_lf (D2.out _))))
            all_goals
              go_wp2
              go_roundw
              case rel => exact ⟨k + 1, _, by omega, by go_num, by rw [HS.out, if_neg (by rw [eX.out, eZ.out]; exact E.out)]; rfl, rfl⟩
              case measure => simp [intOf]; omega
        · obtain rfl : k = i := by omega
          have HS := Lib.hid (mpart_full (H := H) (i := k) (by rw [HL.out]; omega))
          go_wp2
          go_roundw
          case rel => exact ⟨k + 1, _, by omega, by go_num, by rw [HS.out], rfl⟩
          case measure => simp [intOf]; omega
    · obtain rfl : i = l.length := by omega
      have hE : pr (H.take l.length) = mt a b m l := by rw [HM.out, ← HL.out, List.take_length]
      rw [hE]
      clear hE
      go_wp2
      go_ret
      exact ⟨rfl, _, rfl⟩

theorem below_q {w : World} {n : Nat} : Below w.heap.size w (w.drewN n) := Go.below_drewN (Below.refl _ _) n

end Go.Proofs.YtoaiaindcmihjaaGreatDoor
/-
  spec.power, laws.power.
-/
namespace Go.Proofs.YtoaiaindcmihjaaGreatDoor
open Go.RowKit

theorem powS {n : Nat} (h : n ≤ 40) : 2 ^ n ≤ 1099511627776 := Nat.pow_le_pow_right (n := 2) (by omega) h
set_option maxHeartbeats 1000000 in
theorem pow_any (n : Nat) (w : World) (hn : n ≤ 40) : Calls Tryz.prog 59 #[.int .i64 (n : Int)] w fun e w' => e = .returned (.int .i64 ((2 ^ n : Nat) : Int)) ∧ w = w' := by
  obtain ⟨T, hT⟩ : ∃ T, T = 2 ^ n := ⟨_, rfl⟩
  rw [← hT]
  have HT := Lib.hid hT
  clear hT
  go_enter Tryz.func59, Tryz.ntmps59
  go_wp2
  go_loop [0, 3] (fun nv ov => ∃ k P : Nat, k ≤ n ∧ nv = .int .i64 ((n : Int) - k) ∧ ov = .int .i64 (P : Int) ∧ Hid (P = 2 ^ k)) (fun nv _ => (intOf nv).toNat)
  case atStart => exact ⟨0, 1, by omega, by simp, rfl, rfl⟩
  case round =>
    obtain ⟨k, P, hk, rfl, rfl, hP⟩ := hrel
    have hs := powS (n := k) (by omega)
    rw [← hP.out] at hs
    by_cases hlt : k < n
    · have hg : (n : Int) - k > 0 := by omega
      have hp2 : Hid (2 * P = 2 ^ (k + 1)) := by show 2 * P = 2 ^ (k + 1); rw [hP.out, Nat.pow_succ]; omega
      go_wp2
      go_round
      case rel => exact ⟨k + 1, 2 * P, by omega, by go_num, by go_num, hp2⟩
      case measure => simp [intOf]; omega
    · obtain rfl : k = n := by omega
      have hg : ¬ (k : Int) - k > 0 := by omega
      go_wp2
      go_ret
      exact ⟨ret_int (by rw [hP.out, HT.out]), rfl⟩
theorem quiet_pfN {P : Program} {f : FuncId} {args : Array Value} {w : World} {n : Nat} {v : Value}
    (h : Calls P f args (w.drewN n) fun e w' => e = .returned v ∧ w.drewN n = w') :
    Calls P f args (w.drewN n) fun e w'' => e = .returned v ∧ ∃ m, w'' = w.drewN m :=
  h.mono fun _ _ ⟨he, hm⟩ => ⟨he, n, hm.symm⟩
theorem quiet_pdN {P : Program} {f : FuncId} {args : Array Value} {w : World} {n : Nat} {v : Value}
    (h : Calls P f args (w.drewN n) fun e w' => e = .returned v ∧ ∃ q, w' = (w.drewN n).drewN q) :
    Calls P f args (w.drewN n) fun e w'' => e = .returned v ∧ ∃ m, w'' = w.drewN m :=
  h.mono fun _ _ ⟨he, q, hm⟩ => ⟨he, n + q, by rw [hm, World.drewN_drewN]⟩
theorem quiet_ldN {P : Program} {f : FuncId} {args : Array Value} {w : World} {a n : Nat} {v : Value}
    (h : Calls P f args (w.drewN (a + n)) fun e w' => e = .returned v ∧ ∃ q, w' = (w.drewN (a + n)).drewN q) :
    Calls P f args (w.drewN (a + n)) fun e w'' => e = .returned v ∧ ∃ m, w'' = w.drewN (a + m) :=
  h.mono fun _ _ ⟨he, q, hm⟩ => ⟨he, n + q, by rw [hm, World.drewN_drewN, Nat.add_assoc]⟩
theorem pow6_any (w : World) : Calls Tryz.prog 59 #[.int .i64 6] w fun e w' => e = .returned (.int .i64 64) ∧ w = w' := pow_any 6 w (by omega)
end Go.Proofs.YtoaiaindcmihjaaGreatDoor
/-
  Chapter 6's plain mathematics: names, and the buckets of a table that grows one by one.
-/
namespace Go.Proofs.YtoaiaindcmihjaaGreatDoor

/-- Names: different numbers of six binary digits. -/
def VNm (l : List Int) : Bool := decide (l.length ≤ 12 ∧ (∀ x ∈ l, 0 ≤ x ∧ x ≤ 63) ∧ l.Nodup)
theorem VNm_iff {l : List Int} : VNm l = true ↔ l.length ≤ 12 ∧ (∀ x ∈ l, 0 ≤ x ∧ x ≤ 63) ∧ l.Nodup := by simp [VNm]
/-- The level of a table of c buckets. -/
def lvc (c : Nat) : Nat := Nat.log2 c
theorem lvc_le {c : Nat} (h : 1 ≤ c) : 2 ^ lvc c ≤ c := Nat.log2_self_le (by omega)
theorem lvc_lt (c : Nat) : c < 2 ^ (lvc c + 1) := Nat.lt_log2_self
theorem lvc_eq {c L : Nat} (h1 : 2 ^ L ≤ c) (h2 : c < 2 ^ (L + 1)) : lvc c = L := by
  have hc : 1 ≤ c := by have := Nat.two_pow_pos L; omega
  have a1 := lvc_le hc
  have a2 := lvc_lt c
  have b1 : lvc c < L + 1 := (Nat.pow_lt_pow_iff_right (a := 2) (by omega)).1 (Nat.lt_of_le_of_lt a1 h2)
  have b2 : L < lvc c + 1 := (Nat.pow_lt_pow_iff_right (a := 2) (by omega)).1 (Nat.lt_of_le_of_lt h1 a2)
  omega
/-- The bucket of a name. -/
def lno (c x : Nat) : Nat := if x % 2 ^ (lvc c + 1) < c then x % 2 ^ (lvc c + 1) else x % 2 ^ lvc c
theorem lno_lt {c : Nat} (h : 1 ≤ c) (x : Nat) : lno c x < c := by
  unfold lno
  split
  · assumption
  · exact Nat.lt_of_lt_of_le (Nat.mod_lt _ (Nat.two_pow_pos _)) (lvc_le h)
theorem mod_mod_pow (x L : Nat) : x % 2 ^ (L + 1) % 2 ^ L = x % 2 ^ L := Nat.mod_mod_of_dvd _ (Nat.pow_dvd_pow 2 (by omega))
/-- With one bucket more a name stays, or it is in the new one. -/
theorem lno_next {c : Nat} (h : 1 ≤ c) (x : Nat) : lno (c + 1) x = lno c x ∨ (lno (c + 1) x = c ∧ lno c x = c % 2 ^ lvc c) := by
  have h1 := lvc_le h
  have h2 := lvc_lt c
  by_cases e : c + 1 < 2 ^ (lvc c + 1)
  · have hl : lvc (c + 1) = lvc c := lvc_eq (by omega) e
    unfold lno
    rw [hl]
    by_cases g : x % 2 ^ (lvc c + 1) < c
    · rw [if_pos g, if_pos (by omega)]; exact .inl rfl
    · rw [if_neg g]
      by_cases g2 : x % 2 ^ (lvc c + 1) = c
      · rw [if_pos (by omega)]
        refine .inr ⟨g2, ?_⟩
        rw [← mod_mod_pow, g2]
      · rw [if_neg (by omega)]; exact .inl rfl
  · have e2 : c + 1 = 2 ^ (lvc c + 1) := by omega
    have hl : lvc (c + 1) = lvc c + 1 := lvc_eq (by omega) (by have := Nat.pow_lt_pow_succ (a := 2) (n := lvc c + 1) (by omega); omega)
    have hm : x % 2 ^ (lvc c + 1) < c + 1 := by rw [e2]; exact Nat.mod_lt _ (Nat.two_pow_pos _)
    have hn : lno (c + 1) x = x % 2 ^ (lvc c + 1) := by
      unfold lno
      rw [hl]
      by_cases g : x % 2 ^ (lvc c + 1 + 1) < c + 1
      · have q := mod_mod_pow x (lvc c + 1)
        rw [Nat.mod_eq_of_lt (a := x % 2 ^ (lvc c + 1 + 1)) (by omega)] at q
        rw [if_pos g, q]
      · rw [if_neg g]
    rw [hn]
    unfold lno
    by_cases g : x % 2 ^ (lvc c + 1) < c
    · rw [if_pos g]; exact .inl rfl
    · have g2 : x % 2 ^ (lvc c + 1) = c := by omega
      rw [if_neg g]
      refine .inr ⟨g2, ?_⟩
      rw [← mod_mod_pow, g2]
/-- The bucket of a name, -1 for other numbers. -/
def LNO (c x : Int) : Int := if (1 ≤ c ∧ c ≤ 40) ∧ 0 ≤ x ∧ x ≤ 63 then (lno c.toNat x.toNat : Nat) else -1
def VLm (c : Int) (l : List Int) : Prop := (1 ≤ c ∧ c ≤ 39) ∧ VNm l = true
instance (c : Int) (l : List Int) : Decidable (VLm c l) := by unfold VLm; infer_instance
/-- The names that move. -/
def LMV (c : Int) (l : List Int) : List Int := if VLm c l then l.filter (fun x => decide (LNO c x ≠ LNO (c + 1) x)) else []
theorem LNO_some {c x : Int} (h : (1 ≤ c ∧ c ≤ 40) ∧ 0 ≤ x ∧ x ≤ 63) : LNO c x = (lno c.toNat x.toNat : Nat) := if_pos h
theorem LNO_none {c x : Int} (h : ¬ ((1 ≤ c ∧ c ≤ 40) ∧ 0 ≤ x ∧ x ≤ 63)) : LNO c x = -1 := if_neg h
/-- The law of LineOf. -/
theorem LNO_law {c x : Int} (h : (1 ≤ c ∧ c ≤ 40) ∧ 0 ≤ x ∧ x ≤ 63) : (0 ≤ LNO c x ∧ LNO c x < c) ∧ (c < 40 → LNO (c + 1) x = LNO c x ∨ LNO (c + 1) x = c) := by
  have h1 := lno_lt (c := c.toNat) (by omega) x.toNat
  rw [LNO_some h]
  refine ⟨by omega, fun h2 => ?_⟩
  rw [LNO_some ⟨⟨by omega, by omega⟩, h.2⟩]
  have e : (c + 1).toNat = c.toNat + 1 := by omega
  rw [e]
  rcases lno_next (c := c.toNat) (by omega) x.toNat with h3 | ⟨h3, _⟩
  · exact .inl (by rw [h3])
  · exact .inr (by rw [h3]; omega)
/-- The law of LineMoves: what moves comes from one bucket, and goes to the new one. -/
theorem LMV_law {c : Int} {l : List Int} (h : VLm c l) {x : Int} (hx : x ∈ LMV c l) : LNO c x = ((c.toNat % 2 ^ lvc c.toNat : Nat) : Int) ∧ LNO (c + 1) x = c ∧ x ∈ l ∧ 0 ≤ x ∧ x ≤ 63 := by
  unfold LMV at hx
  rw [if_pos h] at hx
  obtain ⟨hm, hne⟩ := List.mem_filter.1 hx
  have hne := of_decide_eq_true hne
  have hr := (VNm_iff.1 h.2).2.1 x hm
  have hc := h.1
  have e : (c + 1).toNat = c.toNat + 1 := by omega
  rw [LNO_some ⟨⟨by omega, by omega⟩, hr⟩, LNO_some ⟨⟨by omega, by omega⟩, hr⟩, e] at hne
  rw [LNO_some ⟨⟨by omega, by omega⟩, hr⟩, LNO_some ⟨⟨by omega, by omega⟩, hr⟩, e]
  rcases lno_next (c := c.toNat) (by omega) x.toNat with h3 | ⟨h3, h4⟩
  · exact absurd (by rw [h3]) hne
  · refine ⟨by rw [h4], by rw [h3]; omega, hm, hr⟩
theorem LMV_len (c : Int) (l : List Int) : (LMV c l).length ≤ l.length := by
  unfold LMV; split
  · exact List.length_filter_le _ _
  · simp
end Go.Proofs.YtoaiaindcmihjaaGreatDoor
