/-
  A slice of turns that came in by a row.
-/
import Derived.Test.YtbldfhfciihddaaUc
import Derived.Test.YtbldfhfciihddaaW1
import Derived.Deep.SlicePairs
namespace Go.Proofs.Ytbldfhfciihddaa
open Go.RowKit

/-- What the row's frame says of a slice of pairs that came in. -/
def PRow (w : World) (a : Option Addr) (len : Nat) (l : List (Int × Int)) : Prop := l.length = len ∧ ReadsP w a l ∧ len ≤ 9223372036854775807
theorem rowP {H : Type} {enc : TypeId × Value → H} {w : World} {a : Option Addr} {len cap : Nat} {d : DataW H} {p : List MemPlace}
    (h : ∃ fuel, DataW.trod enc Try.prog w 0 (fun _ => true) true fuel 46 (Value.slice a len cap).cells.toList = some (d, p)) : ∃ l, PRow w a len l := by
  obtain ⟨fuel, hf⟩ := h
  have he : ∃ f0 f1 : Field, Try.prog.underlying 70 = some (.struct #[f0, f1]) ∧ f0.offset = 0 ∧ f1.offset = 1 ∧ f0.type = 3 ∧ f1.type = 3 := ⟨_, _, Try.underlying70, rfl, rfl, rfl, rfl⟩
  obtain ⟨f0, f1, hu, o0, o1, t0, t1⟩ := he
  have ci : Try.prog.cellsOf 3 = 1 := by kernel_rfl
  have ch : Try.prog.cellsOf 70 = 2 := by kernel_rfl
  rcases Deep.open_slice_pairs Try.underlying46 hu ch o0 o1 (by rw [t0]; exact ci) (by rw [t1]; exact ci) hf with ⟨hcs, _⟩ | ⟨x, l, c, m, n, V0, V1, D0, D1, P0, P1, hcs, _, hl, hm, hmm, _, hc⟩
  · simp [Value.cells] at hcs
    obtain ⟨rfl, rfl, rfl⟩ := hcs
    exact ⟨[], rfl, .inl rfl, by omega⟩
  · simp [Value.cells] at hcs
    obtain ⟨rfl, rfl, rfl⟩ := hcs
    simp only [if_true] at hmm
    subst hmm
    unfold maxLen at hm
    by_cases h0 : len = 0
    · subst h0; exact ⟨[], rfl, .inl rfl, by omega⟩
    · have each : ∀ i, i < len → ∃ q : Int × Int, w.cell? (x.add (i * 2)) = some (.int .i64 q.1) ∧ w.cell? (x.add (i * 2 + 1)) = some (.int .i64 q.2) := by
        intro i hi
        obtain ⟨h1, h2, h3, h4⟩ := hc i (by omega)
        rw [t0] at h3
        rw [t1] at h4
        obtain ⟨n0, e0, _⟩ := DataW.trod_int Try.underlying3 h3
        obtain ⟨n1, e1, _⟩ := DataW.trod_int Try.underlying3 h4
        refine ⟨(n0, n1), ?_, ?_⟩
        · rw [h1]; simpa using e0
        · rw [h2]; simpa using e1
      obtain ⟨q, hq⟩ := Deep.choose_lt each
      obtain ⟨b, off, spot⟩ := x
      have hc0 := (hq 0 (by omega)).1
      have hspot : spot = none := by simpa [Addr.add] using World.cell?_spot hc0
      subst hspot
      refine ⟨(List.range len).map q, by simp, .inr ⟨b, off, rfl, ?_, fun i hi => ?_⟩, by omega⟩
      · have := World.block_lt_of_cell? w _ hc0
        simpa [Addr.add] using this
      · have hi' : i < len := by simpa using hi
        have := hq i hi'
        rw [Addr.add_lit, Addr.add_lit] at this
        have e : ((List.range len).map q).getD i (0, 0) = q i := by simp [List.getD, hi']
        rw [← Nat.add_assoc] at this
        unfold pA pB
        rw [e]
        exact this

end Go.Proofs.Ytbldfhfciihddaa
