/-
  The reader that draws arguments from a code: newReader, pick, one.
-/
import Derived.Test.YtoaiaindcmihjaaBase
import Derived.Laws.BitsAllLaws
namespace Go.Proofs.Ytoaiaindcmihjaa
open Go.RowKit

/-- The slice (its address, its length) holds bytes, in a block below g. -/
def Bytes (w : World) (g : Nat) (a : Option Addr) (n : Nat) : Prop := n = 0 ∨ ∃ b off, a = some ⟨b, off, none⟩ ∧ b < g ∧ ∀ i, i < n → ∃ x : Int, 0 ≤ x ∧ x ≤ 255 ∧ w.cell? ⟨b, off + i, none⟩ = some (.int .u8 x)
theorem Bytes.of_block {w w' : World} {g : Nat} {a : Option Addr} {n : Nat} (h : Bytes w g a n) (hw : ∀ k, k < g → w'.heap[k]? = w.heap[k]?) : Bytes w' g a n := by
  rcases h with h | ⟨b, off, ha, hb, hc⟩
  · exact .inl h
  · refine .inr ⟨b, off, ha, hb, fun i hi => ?_⟩
    obtain ⟨x, h1, h2, h3⟩ := hc i hi
    exact ⟨x, h1, h2, (World.cell?_of_block (w := w) (hw b hb)).trans h3⟩
theorem Bytes.le {w : World} {g g' : Nat} {a : Option Addr} {n : Nat} (h : Bytes w g a n) (hg : g ≤ g') : Bytes w g' a n := by
  rcases h with h | ⟨b, off, ha, hb, hc⟩
  · exact .inl h
  · exact .inr ⟨b, off, ha, by omega, hc⟩

/-- The reader in block g: at most 2000 bytes, p of them read. -/
structure Rdr (w : World) (g p : Nat) : Prop where
  ex : ∃ a n cap, w.heap[g]? = some (.cells #[.slice a n cap, .int .i64 p] 66 (0, 0)) ∧ Bytes w g a n ∧ n ≤ 2000
theorem Rdr.lt {w : World} {g p : Nat} (h : Rdr w g p) : g < w.heap.size := by
  obtain ⟨a, n, cap, h1, _⟩ := h.ex
  exact (Array.getElem?_eq_some_iff.1 h1).1
theorem Rdr.of_block {w w' : World} {g p : Nat} (h : Rdr w g p) (hw : ∀ k, k ≤ g → w'.heap[k]? = w.heap[k]?) : Rdr w' g p := by
  obtain ⟨a, n, cap, h1, h2, h3⟩ := h.ex
  exact ⟨a, n, cap, (hw g (Nat.le_refl _)).trans h1, h2.of_block (fun k hk => hw k (by omega)), h3⟩
theorem Rdr.below {w w' : World} {g p : Nat} (h : Rdr w g p) (hb : Below w.heap.size w w') : Rdr w' g p := h.of_block fun k hk => hb.block k (by have := h.lt; omega)
theorem Rdr.kept {w w' : World} {g p : Nat} {row : Option Nat} (h : Rdr w g p) (hg : w.grownBy w' row) (hr : ∀ k, row = some k → g < k) : Rdr w' g p :=
  h.of_block fun k hk => hg.block k (by have := h.lt; omega) (fun e => by have := hr k e.symm; omega)

theorem bits_xor_i64_nat (a b : Nat) (ha : a < 9223372036854775808) (hb : b < 9223372036854775808) : bits .xor .i64 (a : Int) (b : Int) = ((a ^^^ b : Nat) : Int) := by
  have hx : a ^^^ b < 2 ^ 63 := Nat.xor_lt_two_pow (by omega) (by omega)
  have h1 : (BitVec.ofInt 64 (a : Int)).toNat = a := by
    rw [BitVec.ofInt_natCast, BitVec.toNat_ofNat]; exact Nat.mod_eq_of_lt (by omega)
  have h2 : (BitVec.ofInt 64 (b : Int)).toNat = b := by
    rw [BitVec.ofInt_natCast, BitVec.toNat_ofNat]; exact Nat.mod_eq_of_lt (by omega)
  show IntKind.i64.wrap ((BitVec.ofInt 64 (a : Int) ^^^ BitVec.ofInt 64 (b : Int)).toNat : Int) = _
  rw [BitVec.toNat_xor, h1, h2, IntKind.wrap_i64]
  omega
theorem xor_pos {a b : Int} (h1 : 0 ≤ a) (h2 : a < 9223372036854775808) (h3 : 0 ≤ b) (h4 : b < 9223372036854775808) : 0 ≤ bits .xor .i64 a b := by
  obtain ⟨A, rfl⟩ := Int.eq_ofNat_of_zero_le h1
  obtain ⟨B, rfl⟩ := Int.eq_ofNat_of_zero_le h3
  rw [bits_xor_i64_nat A B (by omega) (by omega)]
  omega

theorem rdr_step {w : World} {g p : Nat} {a : Option Addr} {n cap : Nat} (hg : w.heap[g]? = some (.cells #[.slice a n cap, .int .i64 p] 66 (0, 0))) (hB : Bytes w g a n) (hn : n ≤ 2000) :
    Rdr (w.setCell ⟨g, 1, none⟩ (.int .i64 ((p : Int) + 1))) g (p + 1) ∧ w.grownBy (w.setCell ⟨g, 1, none⟩ (.int .i64 ((p : Int) + 1))) (some g) := by
  refine ⟨⟨a, n, cap, ?_, hB.of_block (fun k hk => heap_setCell_other _ _ _ _ (by show k ≠ g; omega)), hn⟩, rfl, rfl, rfl, by simp, fun k _ hk => heap_setCell_other _ _ _ _ (fun e => hk (by rw [e]))⟩
  rw [heap_setCell_same w g 1 _ _ _ hg]; rfl
theorem Rdr.drewN {w : World} {g p : Nat} (h : Rdr w g p) (n : Nat) : Rdr (w.drewN n) g p := h.of_block fun _ _ => rfl
theorem grownBy_drewN {w w' : World} {row : Option Nat} (h : w.grownBy w' row) (n : Nat) : w.grownBy (w'.drewN n) row := ⟨h.os, h.tape, h.output, h.size, h.block⟩

/-- A number in 0..k-1, or 0. -/
def Picked (k y : Int) : Prop := (1 ≤ k → 0 ≤ y ∧ y < k) ∧ (k < 1 → y = 0)

set_option maxHeartbeats 2000000 in
theorem pick_any (g p : Nat) (k : Int) (w : World) (hR : Rdr w g p) (hp : p ≤ 1000000) (hk : k ≤ 1000000) :
    Calls Try.prog 50 #[.pointer (some ⟨g, 0, none⟩), .int .i64 k] w fun e w' => ∃ y, e = .returned (.int .i64 y) ∧ Picked k y ∧ Rdr w' g (p + 1) ∧ w.grownBy w' (some g) := by
  obtain ⟨a, n, cap, hg, hB, hn⟩ := hR.ex
  have c0 : w.cell? ⟨g, 0, none⟩ = some (.slice a n cap) := by rw [cell_of_row w g 0 _ _ _ hg]; rfl
  have c1 : w.cell? ⟨g, 1, none⟩ = some (.int .i64 (p : Int)) := by rw [cell_of_row w g 1 _ _ _ hg]; rfl
  have f1 : w.frozen? ⟨g, 1, none⟩ = false := frozen_of_row w g 1 _ _ hg
  have hst := rdr_step hg hB hn
  have HST := Lib.hid hst
  clear hst hg
  by_cases h1 : k < 1
  · go_enter Try.func50, Try.ntmps50
    go_wp2
    go_ret
    exact ⟨0, rfl, ⟨fun h => by omega, fun _ => rfl⟩, HST.out.1, HST.out.2⟩
  by_cases h2 : n = 0
  · subst h2
    go_enter Try.func50, Try.ntmps50
    go_wp2
    go_ret
    exact ⟨0, rfl, ⟨fun h => by omega, fun _ => rfl⟩, HST.out.1, HST.out.2⟩
  have hn0 : ((n : Int) == 0) = false := by simp; exact h2
  rcases hB with hB | ⟨b, off, rfl, hb, hc⟩
  · exact absurd hB h2
  have hk0 : (k == 0) = false := by simp; omega
  by_cases h3 : p < n
  · obtain ⟨x, x0, x1, hx⟩ := hc p h3
    have hxs : (w.setCell ⟨g, 1, none⟩ (.int .i64 ((p : Int) + 1))).cell? ⟨b, off + p, none⟩ = some (.int .u8 x) := (World.cell?_of_block (w := w) (heap_setCell_other _ _ _ _ (by show b ≠ g; omega))).trans hx
    clear hc
    go_enter Try.func50, Try.ntmps50
    go_wp2
    go_ret
    exact ⟨_, rfl, ⟨fun h => ⟨Int.emod_nonneg _ (by omega), Int.emod_lt_of_pos _ (by omega)⟩, fun h => by omega⟩, HST.out.1, HST.out.2⟩
  · obtain ⟨q, hq⟩ : ∃ q, q = p % n := ⟨_, rfl⟩
    obtain ⟨s7, h7⟩ : ∃ s, s = p * 7 := ⟨_, rfl⟩
    obtain ⟨s10, h10⟩ : ∃ s, s = s7 + 3 := ⟨_, rfl⟩
    obtain ⟨r, hr⟩ : ∃ r, r = s10 % n := ⟨_, rfl⟩
    obtain ⟨d, hd⟩ : ∃ d, d = p / n := ⟨_, rfl⟩
    have hqn : q < n := by rw [hq]; exact Nat.mod_lt _ (by omega)
    have hrn : r < n := by rw [hr]; exact Nat.mod_lt _ (by omega)
    have hdn : d ≤ p := by rw [hd]; exact Nat.div_le_self _ _
    obtain ⟨x, x0, x1, hx⟩ := hc q hqn
    obtain ⟨z, z0, z1, hz⟩ := hc r hrn
    have hxs : (w.setCell ⟨g, 1, none⟩ (.int .i64 ((p : Int) + 1))).cell? ⟨b, off + q, none⟩ = some (.int .u8 x) := (World.cell?_of_block (w := w) (heap_setCell_other _ _ _ _ (by show b ≠ g; omega))).trans hx
    have hzs : (w.setCell ⟨g, 1, none⟩ (.int .i64 ((p : Int) + 1))).cell? ⟨b, off + r, none⟩ = some (.int .u8 z) := (World.cell?_of_block (w := w) (heap_setCell_other _ _ _ _ (by show b ≠ g; omega))).trans hz
    have e1 : (p : Int).tmod n = (q : Int) := by rw [hq, Int.tmod_eq_emod_of_nonneg (by omega), Int.natCast_emod]
    have e2 : IntKind.i64.wrap ((p : Int) * 7) = (s7 : Int) := by rw [IntWalk.i64_in _ (by omega), h7]; simp
    have e3 : IntKind.i64.wrap ((s7 : Int) + 3) = (s10 : Int) := by rw [IntWalk.i64_in _ (by omega), h10]; simp
    have e4 : (s10 : Int).tmod n = (r : Int) := by rw [hr, Int.tmod_eq_emod_of_nonneg (by omega), Int.natCast_emod]
    have e5 : (p : Int).tdiv n = (d : Int) := by rw [hd, Int.tdiv_eq_ediv_of_nonneg (by omega), Int.natCast_ediv]
    have c1 : (q : Int) < n := by omega
    have c2 : (r : Int) < n := by omega
    have b1 : s7 ≤ 7000000 := by omega
    have b2 : s10 ≤ 7000003 := by omega
    have hn1 : (n : Int) ≠ 0 := by omega
    clear hc hx hz hq h7 h10 hr hd
    go_enter Try.func50, Try.ntmps50
    go_wp2
    go_quiet (fail)
    go_wp2
    go_ret
    exact ⟨_, rfl, ⟨fun h => ⟨Int.tmod_nonneg _ (xor_pos (by omega) (by omega) (by omega) (by omega)), Int.tmod_lt_of_pos _ (by omega)⟩, fun h => by omega⟩, HST.out.1.drewN _, grownBy_drewN HST.out.2 _⟩

theorem Picked.pos {k y : Int} (h : Picked k y) (hk : 1 ≤ k) : 0 ≤ y ∧ y < k := h.1 hk

set_option maxHeartbeats 1000000 in
theorem newReader_any (a : Option Addr) (n cap : Nat) (w : World) (hB : Bytes w w.heap.size a n) (hn : n ≤ 9223372036854775807) (hc : n ≤ cap) :
    Calls Try.prog 36 #[.slice a n cap] w fun e w' => e = .returned (.pointer (some ⟨w.heap.size, 0, none⟩)) ∧ Rdr w' w.heap.size 0 ∧ Below w.heap.size w w' ∧ w.heap.size < w'.heap.size := by
  by_cases h : 2000 < n
  · rcases hB with hB | ⟨b, off, rfl, hb, hcc⟩
    · omega
    · go_enter Try.func36, Try.ntmps36
      go_wp2
      go_ret
      exact ⟨rfl, ⟨_, 2000, cap, heap_alloc_new _ _, (show Bytes w w.heap.size _ 2000 from .inr ⟨b, off, rfl, hb, fun i hi => hcc i (by omega)⟩).of_block (fun k hk => Below.heap_alloc _ _ _ hk), by omega⟩, (Below.refl _ _).alloc (Nat.le_refl _) _, by simp⟩
  · go_enter Try.func36, Try.ntmps36
    go_wp2
    go_ret
    refine ⟨rfl, ⟨a, n, cap, heap_alloc_new _ _, hB.of_block (fun k hk => Below.heap_alloc _ _ _ hk), by omega⟩, (Below.refl _ _).alloc (Nat.le_refl _) _, by simp⟩

set_option maxHeartbeats 1000000 in
theorem one_any (g p : Nat) (gl : Nat) (cap : Nat) (l : List Int) (w : World) (hR : Rdr w g p) (hp : p ≤ 1000000) (hc : CellsAt w gl 0 l) (hgl : g < gl) (h0 : 0 < l.length) (hl : l.length ≤ 1000000) (n : Nat) (hn : l.length = n) :
    Calls Try.prog 38 #[.pointer (some ⟨g, 0, none⟩), .slice (some ⟨gl, 0, none⟩) n cap] w fun e w' => ∃ y, e = .returned (.int .i64 y) ∧ y ∈ l ∧ Rdr w' g (p + 1) ∧ w.grownBy w' (some g) := by
  subst hn
  go_enter Try.func38, Try.ntmps38
  go_wp2_with fail
  refine (pick_any g p _ _ hR hp (by omega)).mono ?_
  rintro e w' ⟨y, rfl, hy, hR', hg⟩
  obtain ⟨y0, y1⟩ := hy.pos (by omega)
  obtain ⟨i, rfl⟩ := Int.eq_ofNat_of_zero_le y0
  have hil : i < l.length := by omega
  have hcell : w'.cell? ⟨gl, i, none⟩ = some (.int .i64 (l.getD i 0)) := by
    have := hc i hil
    rw [Nat.zero_add] at this
    exact hg.cell this (by simp; omega)
  obtain ⟨x, hx⟩ : ∃ x, l.getD i 0 = x := ⟨_, rfl⟩
  rw [hx] at hcell
  have hm : x ∈ l := by rw [← hx, List.getD_eq_getElem?_getD, List.getElem?_eq_getElem hil]; exact List.getElem_mem hil
  clear hx
  go_wp2
  go_ret
  exact ⟨x, rfl, hm, hR', hg⟩

theorem CellsAt.lit (w : World) (l : List Int) : CellsAt (w.alloc (.cells (l.map (Value.int .i64)).toArray 3)) w.heap.size 0 l := by
  intro i hi
  rw [cell_of_row _ _ _ _ _ _ (heap_alloc_new _ _)]
  simp [List.getD, hi]
theorem grownBy_trans {a b c : World} {row : Option Nat} (h : a.grownBy b row) (k : b.grownBy c row) : a.grownBy c row :=
  ⟨k.os.trans h.os, k.tape.trans h.tape, k.output.trans h.output, Nat.le_trans h.size k.size, fun i hi hne => (k.block i (Nat.lt_of_lt_of_le hi h.size) hne).trans (h.block i hi hne)⟩
theorem grownBy_alloc' {a b : World} {row : Option Nat} (h : a.grownBy b row) (o : Obj) : a.grownBy (b.alloc o) row := grownBy_trans h (World.grownBy_alloc b o row)
/-- An append to a slice of the call's own, made behind a. -/
theorem grownBy_own {a b c : World} {row : Option Nat} {base : Nat} {v : Value} {l : List Int} (h : a.grownBy b row) (ho : Own b base v l) (hb : a.heap.size ≤ base) (k : b.grownBy c v.ownBlock) : a.grownBy c row :=
  ⟨k.os.trans h.os, k.tape.trans h.tape, k.output.trans h.output, Nat.le_trans h.size k.size, fun i hi hne => (k.block i (Nat.lt_of_lt_of_le hi h.size) (fun e => by have := (ho.lt i e.symm).1; omega)).trans (h.block i hi hne)⟩

theorem Own.ne_g {w : World} {base : Nat} {v : Value} {l : List Int} (h : Own w base v l) {g : Nat} (hg : g < base) : v.ownBlock = none ∨ v.ownBlock ≠ some g := by
  cases hv : v.ownBlock with
  | none => exact .inl rfl
  | some k =>
    have := h.lt k hv
    exact .inr (fun e => by cases e; omega)
/-- 'append(s, y, z)'. -/
theorem push_two {wr : World} {ops : Array Oper} {rest : List Oper} {o : Oper} {a : Act} {Q : Exit → Act → World → Prop} (hgd : o.guard = none) (s x : Operand)
    (ho : o.op = .call { callee := .builtin .append, args := #[s, x], argTypes := #[23, 23] })
    (base : Nat) (v : Value) (l : List Int) (y z : Int) (hs : a.eval s = v) (hown : Own wr base v l) (hx : a.eval x = .slice (some ⟨wr.heap.size, 0, none⟩) 2 2)
    (hl : l.length < 1000000000000) (hbase : base ≤ wr.heap.size)
    (h : ∀ v' w', Own w' base v' (l ++ [y, z]) → v' ≠ .slice none 0 0 → wr.grownBy w' v.ownBlock → wpList Try.prog ops Q rest (a.put o.dst v') w') :
    wpList Try.prog ops Q (o :: rest) a (wr.alloc (.cells #[.int .i64 y, .int .i64 z] 3)) := by
  obtain ⟨i0, hi, hz0, hz1, hz2⟩ := info_parts infoInt
  refine wpList_append_own _ hgd s x 23 ho base 3 i0 (.int .i64 0) 1 8 Try.underlying23 hi hz0 hz1 hz2 rfl (by decide) v l.length (l.map (Value.int .i64)) hs (World.ownsRow.alloc hown _) ⟨wr.heap.size, 0, none⟩ 2 2 [.int .i64 y, .int .i64 z] hx rfl (fun j u hu => ?_) (fun u hu => by simp at hu; rcases hu with rfl | rfl <;> rfl) (by unfold maxLen; omega) (by omega) (by simp; omega) fun v' w' h1 h2 h3 => h v' w' ?_ ?_ ?_
  · have := CellsAt.lit wr [y, z]
    have hj : j < 2 := by simpa using (List.getElem?_eq_some_iff.1 hu).1
    have h2 := this j hj
    rw [Addr.add_lit]
    rw [show ((List.map (Value.int .i64) [y, z]).toArray) = #[.int .i64 y, .int .i64 z] from rfl] at h2
    rw [h2]
    match j, hj, hu with
    | 0, _, hu => simpa using hu
    | 1, _, hu => simpa using hu
  · unfold Own
    rw [List.length_append, List.map_append]
    exact h1
  · intro e
    have := (h3.1 e).2
    omega
  · refine ⟨h2.os, h2.tape, h2.output, Nat.le_trans (by simp) h2.size, fun k hk hne => ?_⟩
    rw [h2.block k (by simp; omega) hne]; exact Below.heap_alloc _ _ _ hk
end Go.Proofs.Ytoaiaindcmihjaa
