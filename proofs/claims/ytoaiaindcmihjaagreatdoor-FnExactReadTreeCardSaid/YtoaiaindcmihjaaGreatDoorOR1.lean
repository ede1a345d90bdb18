/-
  What the listed variables hold; strconv.Atoi, Itoa; impl.readNumbers.
-/
import Derived.Test.YtoaiaindcmihjaaGreatDoorOSa
import Derived.Test.YtoaiaindcmihjaaGreatDoorOSi
import Derived.Test.YtoaiaindcmihjaaGreatDoorNV
import Derived.Lib.LaidTab
import Derived.Lib.AppendIntMem
import Derived.WalkSmall
namespace Go.Proofs.YtoaiaindcmihjaaGreatDoor
open Go.RowKit

/-- The table of powers of ten, and two errors of strconv's. -/
abbrev GN (w : World) : Prop := Go.Lib.TabIs Tryz.prog w "internal/strconv.uint64pow10" .u64 Go.Lib.pow10Tab ∧ (∃ tp p, w.cell? ⟨3, 0, none⟩ = some (.iface tp p)) ∧ (∃ tp p, w.cell? ⟨4, 0, none⟩ = some (.iface tp p))
theorem gPow : Tryz.prog.globalNamed "internal/strconv.uint64pow10" = some 2 := by kernel_rfl
theorem tab_lt {w : World} (h : Go.Lib.TabIs Tryz.prog w "internal/strconv.uint64pow10" .u64 Go.Lib.pow10Tab) : 2 < w.heap.size := by
  have := Go.Lib.TabIs.cell h gPow 0 (by rw [Go.Lib.pow10Tab_length]; omega)
  exact World.block_lt_of_cell? w _ this
theorem GN.below {w w' : World} (h : GN w) (hb : Below w.heap.size w w') : GN w' := by
  obtain ⟨h1, ⟨t2, p2, h2⟩, ⟨t3, p3, h3⟩⟩ := h
  exact ⟨var?_below hb gPow (tab_lt h1) h1, ⟨t2, p2, (hb.cell (World.block_lt_of_cell? w _ h2)).trans h2⟩, ⟨t3, p3, (hb.cell (World.block_lt_of_cell? w _ h3)).trans h3⟩⟩
theorem itoaAll_any (v : Int) (w : World) (hv : In64 v) (hG : GN w) : Calls Tryz.prog 57 #[.int .i64 v] w fun e w' => e = .returned (.string (B8 (Go.Lib.itoa v))) ∧ Below w.heap.size w w' := by
  refine (Any.strconv_Itoa Tryz.itoaM v hv.1 hv.2 w hG.1).mono ?_
  rintro e w' ⟨rfl, k, os, rfl⟩
  exact ⟨rfl, Go.Lib.below_grow _ w (Nat.le_refl _) k os⟩
theorem atoi_in64 {p : List UInt8} {v : Int} (h : Go.Lib.atoiAll p = .ok v) : In64 v := by
  unfold Go.Lib.atoiAll at h
  split at h
  · cases h
  · simp only at h
    split at h
    · cases h
    · cases h
    · split at h
      · cases h
      · split at h
        · cases h
        · injection h with h
          unfold In64
          split at h <;> omega
theorem atoiAll_any (p : List UInt8) (w : World) (hp : p.length ≤ 100000000) (hG : GN w) :
    Calls Tryz.prog 88 #[.string (B8 p)] w fun e w' => (∃ v er, e = .returned (.tuple #[.int .i64 v, er]) ∧ ((Go.Lib.atoiAll p = .ok v ∧ er = .nilIface) ∨ ((∀ x, Go.Lib.atoiAll p ≠ .ok x) ∧ ∃ t q, er = .iface t q))) ∧ Below w.heap.size w w' := by
  have hs : (B8 p).size = p.length := rfl
  obtain ⟨h1, ⟨t2, p2, h2⟩, ⟨t3, p3, h3⟩⟩ := hG
  cases hA : Go.Lib.atoiAll p with
  | ok v =>
    refine (Any.strconv_Atoi_ok Tryz.atoiA (B8 p) (by omega) v hA w).mono ?_
    rintro e w' ⟨rfl, h⟩
    refine ⟨⟨v, _, rfl, .inl ⟨rfl, rfl⟩⟩, ?_⟩
    rcases h with rfl | ⟨t, rfl⟩
    · exact Below.refl _ _
    · exact Go.Lib.bytesWorld_below w _ t
  | range =>
    refine (Any.strconv_Atoi_range Tryz.atoiA (B8 p) (by omega) hA _ w h3 (.inr ⟨_, _, rfl⟩)).mono ?_
    rintro e w' ⟨N, rfl, _, _, hb⟩
    exact ⟨⟨_, _, rfl, .inr ⟨(fun x h => by cases h), _, _, rfl⟩⟩, hb⟩
  | _ =>
    refine (Any.strconv_Atoi_syntax Tryz.atoiA (B8 p) (by omega) hA _ w h2 (.inr ⟨_, _, rfl⟩)).mono ?_
    rintro e w' ⟨N, rfl, _, _, hb⟩
    exact ⟨⟨_, _, rfl, .inr ⟨(fun x h => by cases h), _, _, rfl⟩⟩, hb⟩
end Go.Proofs.YtoaiaindcmihjaaGreatDoor
