/-
  The draws of chapter 1 that give homes, and AllLooks' two numbers.
-/
import Derived.Test.YtoaiaindcmihjaaD1
namespace Go.Proofs.Ytoaiaindcmihjaa
open Go.RowKit

theorem bytes_of_row {w : World} {a : Option Addr} {len cap : Nat} {zs : List Int}
    (h : (a = none ∧ len = 0 ∧ cap = 0 ∧ zs = []) ∨
      ∃ x, a = some x ∧ len ≤ cap ∧ cap ≤ maxLen ∧ zs.length = cap ∧ (∀ i, i < zs.length → w.cell? (x.add i) = some (.int .u8 (zs.getD i 0))) ∧ ∀ n ∈ zs, (Lit.int .u8 n).wf = true) :
    Bytes w w.heap.size a len ∧ len ≤ 9223372036854775807 ∧ len ≤ cap := by
  rcases h with ⟨rfl, rfl, rfl, rfl⟩ | ⟨x, rfl, h1, h2, h3, h4, h5⟩
  · exact ⟨.inl rfl, by omega, by omega⟩
  · unfold maxLen at h2
    refine ⟨?_, by omega, h1⟩
    by_cases h0 : len = 0
    · exact .inl h0
    · obtain ⟨b, off, spot⟩ := x
      have hc := h4 0 (by omega)
      have hspot : spot = none := by simpa [Addr.add] using World.cell?_spot hc
      subst hspot
      refine .inr ⟨b, off, rfl, ?_, fun i hi => ?_⟩
      · have := World.block_lt_of_cell? w _ hc
        simpa [Addr.add] using this
      · have hm : zs.getD i 0 ∈ zs := by
          have hi2 : i < zs.length := by omega
          simp only [List.getD, List.getElem?_eq_getElem hi2, Option.getD_some]
          exact List.getElem_mem hi2
        have h6 := h5 _ hm
        clear hm
        have h7 := h4 i (by omega)
        rw [Addr.add_lit] at h7
        generalize zs.getD i 0 = y at h6 h7
        refine ⟨y, ?_, ?_, h7⟩
        all_goals (simp [Lit.wf, IntKind.min, IntKind.max, IntKind.signed, IntKind.bits] at h6; omega)

/-- A row of one's own stands above a smaller number too. -/
theorem Own.base {w : World} {base base' : Nat} {v : Value} {l : List Int} (h : Own w base v l) (hb : base' ≤ base) : Own w base' v l := by
  refine ⟨h.1, ?_⟩
  rcases h.2 with h | ⟨g, cap, cur, h1, h2, h3⟩
  · exact .inl h
  · exact .inr ⟨g, cap, cur, h1, Nat.le_trans hb h2, h3⟩

end Go.Proofs.Ytoaiaindcmihjaa
