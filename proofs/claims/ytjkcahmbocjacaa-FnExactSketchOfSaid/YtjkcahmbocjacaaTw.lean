/-
  Rows that came in by a row, each number within 64 bits.
-/
import Derived.Test.YtjkcahmbocjacaaTd
namespace Go.Proofs.Ytjkcahmbocjacaa
open Go.RowKit

def TLen64 (ts : List (List Int)) : Prop := TLen ts ∧ ∀ l ∈ ts, ∀ x ∈ l, In64 x
def TRow64 (w : World) (a : Option Addr) (len : Nat) (ts : List (List Int)) : Prop := ts.length = len ∧ ReadsS w a ts ∧ TLen64 ts
theorem rowT64 {H : Type} {enc : TypeId × Value → H} {w : World} {a : Option Addr} {len cap : Nat} {d : DataW H} {p : List MemPlace}
    (h : ∃ fuel, DataW.trod enc Try.prog w 0 (fun _ => true) true fuel 39 (Value.slice a len cap).cells.toList = some (d, p)) : ∃ ts, TRow64 w a len ts := by
  obtain ⟨fuel, hf⟩ := h
  have ci : Try.prog.cellsOf 3 = 1 := by kernel_rfl
  have cs : Try.prog.cellsOf 36 = 1 := by kernel_rfl
  rcases Deep.open_int_rows Try.underlying39 Try.underlying36 Try.underlying3 cs ci hf with ⟨hcs, _⟩ | ⟨x, l, c, A, L, C, Z, hcs, _, hl, hm, _, hc⟩
  · simp [Value.cells] at hcs
    obtain ⟨rfl, rfl, rfl⟩ := hcs
    exact ⟨[], rfl, .inl rfl, by simp [TLen], by simp⟩
  · simp [Value.cells] at hcs
    obtain ⟨rfl, rfl, rfl⟩ := hcs
    unfold maxLen at hm
    have htr : ∀ r, r < len → tr ((List.range len).map fun r => (Z r).take (L r)) r = (Z r).take (L r) := by
      intro r hr'; simp [tr, List.getD, hr']
    have hln : ∀ r, r < len → ((Z r).take (L r)).length = L r := by
      intro r hr'
      obtain ⟨_, h1, h2, h3, _⟩ := hc r (by omega)
      simp; omega
    refine ⟨(List.range len).map fun r => (Z r).take (L r), by simp, ?_, ⟨by simp; omega, fun r hr' => ?_⟩, fun l hl x hx => ?_⟩
    · by_cases h0 : len = 0
      · subst h0; exact .inl rfl
      · obtain ⟨b, off, spot⟩ := x
        have hc0 := (hc 0 (by omega)).1
        have hspot : spot = none := by simpa [Addr.add] using World.cell?_spot hc0
        subst hspot
        refine .inr ⟨b, off, rfl, ?_, fun r hr' => ?_⟩
        · have := World.block_lt_of_cell? w _ hc0
          simpa [Addr.add] using this
        · have hr2 : r < len := by simpa using hr'
          obtain ⟨h1, h2, h3, h4, h5, h6, h7⟩ := hc r (by omega)
          rw [htr r hr2, hln r hr2]
          rw [Addr.add_lit] at h1
          refine ⟨A r, C r, h1, h2, ?_⟩
          by_cases hL0 : L r = 0
          · rw [hL0]; exact .inl rfl
          · cases hA : A r with
            | none => have := h6 hA; omega
            | some ad =>
              obtain ⟨_, h8⟩ := h7 ad hA
              obtain ⟨b2, off2, spot2⟩ := ad
              have hc1 := h8 0 (by omega)
              have hsp2 : spot2 = none := by simpa [Addr.add] using World.cell?_spot hc1
              subst hsp2
              refine .inr ⟨b2, off2, rfl, ?_, fun i hi => ?_⟩
              · have := World.block_lt_of_cell? w _ hc1
                simpa [Addr.add] using this
              · rw [hln r hr2] at hi
                have := h8 i (by omega)
                rw [Addr.add_lit] at this
                rw [this]
                simp [List.getD, hi]
    · have hr2 : r < len := by simpa using hr'
      obtain ⟨_, h1, h2, h3, _⟩ := hc r (by omega)
      unfold maxLen at h2
      rw [htr r hr2, hln r hr2]
      omega
    · obtain ⟨r, hr', rfl⟩ := List.mem_map.1 hl
      have hr2 : r < len := by simpa using hr'
      obtain ⟨_, _, _, _, h5, _⟩ := hc r (by omega)
      exact in64_of_wf (h5 x (List.mem_of_mem_take hx))
end Go.Proofs.Ytjkcahmbocjacaa
