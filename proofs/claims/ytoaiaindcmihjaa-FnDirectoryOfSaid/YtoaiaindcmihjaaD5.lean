/-
  Chapter 3's draws. (Written by gendraw.py.)
-/
import Derived.Test.YtoaiaindcmihjaaD0
import Derived.Test.YtoaiaindcmihjaaD1
import Derived.Test.YtoaiaindcmihjaaF1
import Derived.Deep.LoopGhost
namespace Go.Proofs.Ytoaiaindcmihjaa
open Go.RowKit

theorem one_lit (g p : Nat) (w : World) (l : List Int) (n : Nat) (hR : Rdr w g p) (hp : p ≤ 1000000) (h0 : 0 < l.length) (hl : l.length ≤ 1000000) (hn : l.length = n) :
    Calls Try.prog 38 #[.pointer (some ⟨g, 0, none⟩), .slice (some ⟨w.heap.size, 0, none⟩) n n] (w.alloc (.cells (l.map (Value.int .i64)).toArray 3)) fun e w' => ∃ y, e = .returned (.int .i64 y) ∧ y ∈ l ∧ Rdr w' g (p + 1) ∧ w.grownBy w' (some g) := by
  have hlt := hR.lt
  refine (one_any g p w.heap.size n l _ (hR.below ((Below.refl _ _).alloc (Nat.le_refl _) _)) hp (CellsAt.lit w l) hlt h0 hl n hn).mono ?_
  rintro e w' ⟨y, rfl, hy, hR', hg⟩
  exact ⟨y, rfl, hy, hR', grownBy_trans (World.grownBy_alloc w _ _) hg⟩

theorem php : ∀ (n : Nat) (l : List Int) (f : Nat → Int), (∀ i j, i ≤ n → j ≤ n → f i = f j → i = j) → (∀ i, i ≤ n → f i ∈ l) → n < l.length := by
  intro n
  induction n with
  | zero => intro l f _ h; exact List.length_pos_of_mem (h 0 (Nat.le_refl _))
  | succ n ih =>
    intro l f hi h
    have h1 := h (n + 1) (Nat.le_refl _)
    have h2 := ih (l.erase (f (n + 1))) f (fun i j a b => hi i j (by omega) (by omega)) (fun i a => by
      rw [List.mem_erase_of_ne]
      · exact h i (by omega)
      · intro e; have := hi i (n + 1) (by omega) (Nat.le_refl _) e; omega)
    rw [List.length_erase_of_mem h1] at h2
    omega
/-- Some number is not among fewer than 31: how far it is. -/
theorem next_free (l : List Int) (x : Int) (hx : 0 ≤ x ∧ x ≤ 30) (hl : l.length ≤ 20) : ∃ D : Nat, D ≤ 30 ∧ (x + D) % 31 ∉ l ∧ ∀ d : Nat, d < D → (x + d) % 31 ∈ l := by
  have hex : ∃ D : Nat, D ≤ 30 ∧ (x + D) % 31 ∉ l := by
    apply Classical.byContradiction
    intro hn
    have := php 30 l (fun d => (x + d) % 31) (fun i j a b e => by have e' : (x + i) % 31 = (x + j) % 31 := e; omega) (fun i a => Classical.byContradiction fun h => hn ⟨i, a, h⟩)
    omega
  have key : ∀ n : Nat, (∃ D : Nat, D ≤ n ∧ D ≤ 30 ∧ (x + D) % 31 ∉ l) → ∃ D : Nat, D ≤ 30 ∧ (x + D) % 31 ∉ l ∧ ∀ d : Nat, d < D → (x + d) % 31 ∈ l := by
    intro n
    induction n with
    | zero =>
      rintro ⟨D, h1, h2, h3⟩
      exact ⟨D, h2, h3, fun d hd => by omega⟩
    | succ n ih =>
      rintro ⟨D, h1, h2, h3⟩
      by_cases e : ∃ D : Nat, D ≤ n ∧ D ≤ 30 ∧ (x + D) % 31 ∉ l
      · exact ih e
      · refine ⟨D, h2, h3, fun d hd => Classical.byContradiction fun h => e ⟨d, by omega, by omega, h⟩⟩
  obtain ⟨D, h1, h2⟩ := hex
  exact key D ⟨D, Nat.le_refl _, h1, h2⟩

end Go.Proofs.Ytoaiaindcmihjaa
