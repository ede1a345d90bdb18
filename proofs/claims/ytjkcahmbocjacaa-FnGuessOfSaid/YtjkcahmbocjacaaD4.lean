/-
  spec.someTable: the draw of homes and a table.
-/
import Derived.Test.YtjkcahmbocjacaaD2
import Derived.Test.YtjkcahmbocjacaaS2
namespace Go.Proofs.Ytjkcahmbocjacaa
open Go.RowKit

/-- What a drawn table's slots are. -/
def Mild (t : List Int) : Prop := ∀ x ∈ t, -2 ≤ x ∧ x ≤ 14
theorem Mild.set {t : List Int} (h : Mild t) {x : Int} (hx : -2 ≤ x ∧ x ≤ 14) (i : Nat) : Mild (t.set i x) := by
  intro y hy
  rcases List.mem_or_eq_of_mem_set hy with h1 | h1
  · exact h y h1
  · rw [h1]; exact hx
theorem Mild.of_keys {k : Nat} {t : List Int} (h : Keys k t) (hk : k ≤ 14) : Mild t := by
  intro y hy
  obtain ⟨i, hi, rfl⟩ := List.getElem_of_mem hy
  have := h i hi
  have e : t.getD i 0 = t[i] := by simp [List.getD, hi]
  rw [e] at this
  omega
theorem Mild.in64 {t : List Int} (h : Mild t) : ∀ x ∈ t, In64 x := fun x hx => by have := h x hx; unfold In64; omega
theorem Small.in64 {t : List Int} (h : Small t) : ∀ x ∈ t, In64 x := fun x hx => by have := h x hx; unfold In64; omega
theorem Mild.get {t : List Int} (h : Mild t) {i : Nat} (hi : i < t.length) : -2 ≤ t.getD i 0 ∧ t.getD i 0 ≤ 14 := by
  have e : t.getD i 0 = t[i] := by simp [List.getD, hi]
  rw [e]; exact h _ (List.getElem_mem hi)

theorem lin_keys (m : Nat) (l : List Int) : ∀ k, Keys k (lin m l k).1 := by
  intro k
  induction k with
  | zero => exact Keys.rep 0 m
  | succ k ih => exact (ih.mono (by omega)).set (by omega)

theorem LT_mild {m : Int} {l : List Int} (hl : l.length ≤ 14) : Mild (LT m l).1 ∧ (LT m l).1.length ≤ 10 := by
  unfold LT
  split
  · rename_i h
    rw [VH_iff] at h
    exact ⟨.of_keys (lin_keys _ _ _) hl, by simp only [lin_len]; omega⟩
  · exact ⟨by intro x hx; simp at hx, by simp⟩
theorem FT_mild {m : Int} {l : List Int} (hl : l.length ≤ 14) : Mild (FT m l) ∧ (FT m l).length ≤ 10 := by
  unfold FT
  split
  · rename_i h
    have hh := Homes.of_VH (VH_iff.1 h)
    obtain ⟨h1, h2, _⟩ := rob_inv hh l.length (Nat.le_refl _)
    rw [VH_iff] at h
    exact ⟨.of_keys h2 hl, by rw [h1]; omega⟩
  · exact ⟨by intro x hx; simp at hx, by simp⟩

theorem grownBy_setCell_any (w : World) (p : Addr) (x : Value) : w.grownBy (w.setCell p x) (some p.block) :=
  ⟨rfl, rfl, rfl, by simp [World.setCell], fun k _ hne => Below.heap_setCell _ _ _ _ (fun e => hne (by rw [e]))⟩

end Go.Proofs.Ytjkcahmbocjacaa
