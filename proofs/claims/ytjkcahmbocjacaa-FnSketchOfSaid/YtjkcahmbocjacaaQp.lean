/-
  Keys behind pointers and tables of them; impl.exchanged, choices, beside, keysOf, copyOf, numbersOf.
-/
import Derived.Test.YtjkcahmbocjacaaPd
import Derived.Test.YtjkcahmbocjacaaG3
import Derived.Deep.DeepCutAuto
import Derived.Deep.RegionWith
import Derived.Deep.OwnRows
import Derived.Laws.CopyOwn
namespace Go.Proofs.Ytjkcahmbocjacaa
open Go.RowKit

/-- What a slot with x holds: the pointer to the key, or none. -/
def ptr (ka : Nat → Nat) (x : Int) : Value := if x < 0 then .pointer none else .pointer (some ⟨ka x.toNat, 0, none⟩)
theorem ptr_neg (ka : Nat → Nat) {x : Int} (h : x < 0) : ptr ka x = .pointer none := by unfold ptr; rw [if_pos h]
theorem ptr_nat (ka : Nat → Nat) (k : Nat) : ptr ka k = .pointer (some ⟨ka k, 0, none⟩) := by unfold ptr; rw [if_neg (by omega)]; simp
section
variable {w : World} {base g n cap : Nat} {t : List Int} {ka : Nat → Nat}
end
/-- The different homes. -/
def chs (x y : Int) : List Int := if x = y then [x] else [x, y]

theorem Tab.lit (w : World) (base : Nat) (l : List Int) (hb : base ≤ w.heap.size) (hl : l.length ≤ 1000) : Tab (w.alloc (.cells (l.map (Value.int .i64)).toArray 3)) base w.heap.size l.length l.length l := by
  have := World.ownsRow_lit (base := base) (e := 3) (size := 1) w (l.map (Value.int .i64)).toArray l.length hb (by unfold maxLen; omega) (by simp)
  simpa [Tab] using this
def ChsPost (x y : Int) (w : World) (l : List Int) (e : Ending) (w' : World) : Prop := ∃ g cap, e = .returned (.slice (some ⟨g, 0, none⟩) l.length cap) ∧ Tab w' w.heap.size g l.length cap l ∧ Below w.heap.size w w'

/-- The numbers while they are laid. -/
def nmb (M : Nat) (t : List Int) (k : Nat) : List Int := t.take k ++ List.replicate (M - k) 0
theorem nmb_len {M : Nat} {t : List Int} {k : Nat} (hk : k ≤ M) (ht : t.length = M) : (nmb M t k).length = M := by simp [nmb]; omega
theorem nmb_zero (M : Nat) (t : List Int) : nmb M t 0 = List.replicate M 0 := by simp [nmb]
theorem nmb_all {M : Nat} {t : List Int} (ht : t.length = M) : nmb M t M = t := by simp [nmb, ← ht]
theorem nmb_succ {M : Nat} {t : List Int} {k : Nat} (hk : k < M) (ht : t.length = M) : (nmb M t k).set k (t.getD k 0) = nmb M t (k + 1) := by
  have e : (t.take k).length = k := by simp; omega
  unfold nmb
  rw [List.set_append_right _ _ (by omega), e, Nat.sub_self, show M - k = (M - (k + 1)) + 1 by omega, List.replicate_succ, List.set_cons_zero, List.take_succ_eq_append_getElem (by omega), List.append_assoc]
  have : t.getD k 0 = t[k] := by simp [List.getD, ht, hk]
  rw [this]; rfl

theorem Tab.other {w : World} {base g n cap : Nat} {l : List Int} (h : Tab w base g n cap l) {g' : Nat} (hne : g ≠ g') (k : Nat) (v : Value) : Tab (w.setCell ⟨g', k, none⟩ v) base g n cap l := by
  unfold Tab at h ⊢
  refine ⟨h.1, ?_⟩
  rcases h.2 with hn | ⟨q, c, cur, hv, hb, hg, r⟩
  · exact .inl hn
  · refine .inr ⟨q, c, cur, hv, hb, ?_, r⟩
    have e : q = g := by simp at hv; exact hv.1.symm
    subst e
    rw [heap_setCell_other w ⟨g', k, none⟩ q v hne]; exact hg
theorem Tab.mono {w : World} {base base' g n cap : Nat} {l : List Int} (h : Tab w base g n cap l) (hb : base' ≤ base) : Tab w base' g n cap l := by
  have e := h.len
  have := h.own.mono hb
  unfold Own at this; rw [e] at this; exact this
theorem Tab.zero (w : World) (base M : Nat) (hb : base ≤ w.heap.size) (hM : M ≤ 1000) : Tab (w.alloc (.cells (madeCells #[.int .i64 0] M) 3)) base w.heap.size M M (List.replicate M 0) := by
  have e : ((List.replicate M (0 : Int)).map (Value.int .i64)) = (madeCells #[.int .i64 0] M).toList := by rw [List.map_replicate, toList_madeCells_one]
  unfold Tab
  rw [e]
  exact World.ownsRow_lit (base := base) (e := 3) (size := 1) w (madeCells #[.int .i64 0] M) M hb (by unfold maxLen; omega) (by simp [size_madeCells])

/-- A slice of keys: rem of them from key i on. -/
def KS (w : World) (a : Option Addr) (i rem : Nat) (ka : Nat → Nat) : Prop := rem = 0 ∨ ∃ g, a = some ⟨g, i, none⟩ ∧ g < w.heap.size ∧ ∀ j, j < rem → w.cell? ⟨g, i + j, none⟩ = some (.pointer (some ⟨ka (i + j), 0, none⟩))

end Go.Proofs.Ytjkcahmbocjacaa
