/-
  laws.toIntSS, eqIntSS, markIntSS.
-/
import Derived.Test.YtjkcahmbocjacaaTb
import Derived.Test.YtjkcahmbocjacaaQp
namespace Go.Proofs.Ytjkcahmbocjacaa
open Go.RowKit

theorem Tab.kept' {w w' : World} {base g n cap : Nat} {l : List Int} (h : Tab w base g n cap l) {q : Nat} (hg : w.grownBy w' (some q)) (hne : q ≠ g) : Tab w' base g n cap l :=
  World.ownsRow.kept h hg (.inr (by simp [Value.ownBlock]; omega))
theorem infoSl : (Try.prog.info? 36).map (fun i => (i.zero, i.size, i.bytes)) = some (some (.slice none 0 0), 1, 24) := by kernel_rfl

set_option maxHeartbeats 1000000 in
theorem toIntSS_any (a : Option Addr) (ts : List (List Int)) (cap : Nat) (w : World) (hr : ReadsS w a ts) (hl : bulk ts ≤ 1048586) :
    Calls Try.prog 64 #[.slice a ts.length cap] w fun e w' => ∃ G, e = .returned (.slice (some ⟨w.heap.size, 0, none⟩) ts.length ts.length) ∧ OwnS w' w.heap.size w'.heap.size w.heap.size G ts ∧ Below w.heap.size w w' := by
  have hlen := bulk_len ts
  have hmk := run_make_row' (P := Try.prog) 39 36 (.slice none 0 0) 24 Try.underlying39 infoSl rfl .i64 .i64 ts.length (by omega) (by omega)
  have hZ : (w.alloc (.cells (madeCells #[.slice none 0 0] ts.length) 36)).ownsRow w.heap.size 36 1 (.slice (some ⟨w.heap.size, 0, none⟩) ts.length ts.length) ts.length (madeCells #[.slice none 0 0] ts.length).toList :=
    World.ownsRow_lit (base := w.heap.size) (e := 36) (size := 1) w (madeCells #[.slice none 0 0] ts.length) ts.length (Nat.le_refl _) (by unfold maxLen; omega) (by simp [size_madeCells])
  have hb0 : Below w.heap.size w (w.alloc (.cells (madeCells #[.slice none 0 0] ts.length) 36)) := (Below.refl _ _).alloc (Nat.le_refl _) _
  go_enter Try.func64, Try.ntmps64
  go_wp2
  go_loopw [4] (fun i wr => ∃ (k : Nat) (G : Nat → Nat), k ≤ ts.length ∧ i = .int .i64 k ∧ (∀ r, r < k → (w.heap.size < G r ∧ G r < wr.heap.size ∧ ∀ r', r' < r → G r' < G r) ∧ wr.cell? ⟨w.heap.size, r, none⟩ = some (.slice (some ⟨G r, 0, none⟩) (tr ts r).length (tr ts r).length) ∧ Tab wr w.heap.size (G r) (tr ts r).length (tr ts r).length (tr ts r)) ∧
    (∃ xs, wr.ownsRow w.heap.size 36 1 (.slice (some ⟨w.heap.size, 0, none⟩) ts.length ts.length) ts.length xs) ∧ Below w.heap.size w wr) (fun i _ => ts.length - (intOf i).toNat)
  case atStart => exact ⟨0, fun _ => 0, Nat.zero_le _, rfl, fun r hr => by omega, ⟨_, hZ⟩, hb0⟩
  case round =>
    clear hZ hb0
    obtain ⟨k, G, hk, rfl, hC, ⟨xs, hZ⟩, hb⟩ := hrel
    have HC := Lib.hid hC
    clear hC
    have hsz := hb.size
    have hbl := World.ownsRow.lt hZ w.heap.size rfl
    have hxl : xs.length = ts.length := by simpa using hZ.1
    by_cases hlt : k < ts.length
    · obtain ⟨b, off, A, C, rfl, hbb, hc, hrow, hcap⟩ := hr.get hlt
      have hrl := bulk_row hlt
      have c1 : wr.cell? ⟨b, off + k, none⟩ = some (.slice A (tr ts k).length C) := (hb.cell (by exact hbb)).trans hc
      have hrow2 := hrow.below hb
      clear hc hrow
      go_wp2_with fail
      refine (toIntS_any A (tr ts k) C _ hrow2 (by omega)).mono ?_
      rintro e w2 ⟨rfl, hO, hb2, hs2⟩
      have hb3 := hb.trans (hb2.mono hsz)
      obtain ⟨z, hcz⟩ : ∃ z, wr.cell? ⟨w.heap.size, k, none⟩ = some z := ⟨_, by rw [World.ownsRow.cellAt hZ k (by omega)]; exact List.getElem?_eq_getElem (by omega)⟩
      have hcz2 : w2.cell? ⟨w.heap.size, k, none⟩ = some z := (hb2.cell (by exact hbl.2)).trans hcz
      have hZ2 : w2.ownsRow w.heap.size 36 1 (.slice (some ⟨w.heap.size, 0, none⟩) ts.length ts.length) ts.length xs := by
        refine World.ownsRow.kept hZ (row := none) ⟨hb2.os, hb2.tape, hb2.output, hb2.size, fun q hq _ => hb2.block q hq⟩ (.inr (by simp [Value.ownBlock]))
      have hfz := World.ownsRow.frozenAt hZ2 k
      obtain ⟨gk, hgk⟩ : ∃ gk, gk = wr.heap.size := ⟨_, rfl⟩
      rw [← hgk] at hO hb2 hs2 ⊢
      have HGK := Lib.hid hgk
      clear hxl hcz hgk c1
      go_wp2
      go_roundw
      case rel =>
        have hgk' := HGK.out
        refine ⟨k + 1, fun r => if r = k then gk else G r, by omega, by go_num, fun r hr' => ?_, ⟨_, (World.ownsRow.stored hZ2 k _).1⟩, hb3.setCell (p := ⟨w.heap.size, k, none⟩) (Nat.le_refl _) _⟩
        have hT2 : Tab w2 gk gk (tr ts k).length (tr ts k).length (tr ts k) := hO
        by_cases e : r = k
        · subst e
          simp only [if_true]
          refine ⟨⟨by omega, by simpa using hs2, fun r' hr2 => ?_⟩, World.cell?_setCell_same _ _ _ hcz2, (Tab.mono hT2 (by omega)).other (by omega) _ _⟩
          rw [if_neg (by omega)]
          have := (HC.out r' hr2).1.2.1
          omega
        · simp only [if_neg e]
          have h1 := HC.out r (by omega)
          refine ⟨⟨h1.1.1, ?_, fun r' hr2 => ?_⟩, ?_, ?_⟩
          · have := h1.1.2.1
            have := hb2.size
            simp
            omega
          · rw [if_neg (by omega)]; exact h1.1.2.2 r' hr2
          · rw [World.cell?_setCell_other _ _ _ _ (fun hh => e (by injection hh with _ h3 _; exact h3.symm))]
            exact (hb2.cell (by show w.heap.size < gk; omega)).trans h1.2.1
          · have hT1 : Tab w2 w.heap.size (G r) (tr ts r).length (tr ts r).length (tr ts r) := by
              rw [hgk'] at hb2
              exact h1.2.2.below hb2
            exact hT1.other (by omega) _ _
      case measure => simp [intOf]; omega
    · obtain rfl : k = ts.length := by omega
      go_wp2
      go_ret
      exact ⟨G, rfl, ⟨Nat.le_refl _, hbl.2, Nat.le_refl _, fun r hr => (HC.out r hr).1, fun r hr => (HC.out r hr).2.1, fun r hr => (HC.out r hr).2.2⟩, hb⟩

set_option maxHeartbeats 1000000 in
set_option maxRecDepth 100000 in
theorem eqIntSS_self (a a' : Option Addr) (ts : List (List Int)) (cap cap' : Nat) (w : World) (hr : ReadsS w a ts) (hr' : ReadsS w a' ts) (hl : bulk ts ≤ 1048586) :
    Calls Try.prog 58 #[.slice a ts.length cap, .slice a' ts.length cap'] w fun e w' => e = .returned (.bool true) ∧ Below w.heap.size w w' := by
  have hblen := bulk_len ts
  have hlen : ((ts.length : Int) != (ts.length : Int)) = false := by simp
  go_enter Try.func58, Try.ntmps58
  go_wp2
  go_loopw [5] (fun i wr => ∃ k : Nat, k ≤ ts.length ∧ i = .int .i64 k ∧ Below w.heap.size w wr) (fun i _ => ts.length - (intOf i).toNat)
  case atStart => exact ⟨0, Nat.zero_le _, rfl, Below.refl _ _⟩
  case round =>
    obtain ⟨k, hk, rfl, hb⟩ := hrel
    by_cases hlt : k < ts.length
    · obtain ⟨b, off, A, C, rfl, hbb, hc, hrow, _⟩ := hr.get hlt
      obtain ⟨b', off', A', C', rfl, hbb', hc', hrow', _⟩ := hr'.get hlt
      have hrl := bulk_row hlt
      have c1 : wr.cell? ⟨b, off + k, none⟩ = some (.slice A (tr ts k).length C) := (hb.cell (by exact hbb)).trans hc
      have c2 : wr.cell? ⟨b', off' + k, none⟩ = some (.slice A' (tr ts k).length C') := (hb.cell (by exact hbb')).trans hc'
      have r1 := hrow.below hb
      have r2 := hrow'.below hb
      have c := fun wx h1 h2 => eqIntS_any A A' (tr ts k) (tr ts k) C C' wx h1 h2 (by omega) (by omega)
      simp only [eqL_self] at c
      have HC := Lib.hid c
      clear hc hc' hrow hrow' c
      go_wp2
      refine region_tail 8 (by kernel_rfl) (by kernel_rfl) ?_
      simp only [List.take_succ_cons, List.take_zero, List.drop_succ_cons, List.drop_zero]
      repeat still_step
      refine wpStill_nil ?_
      go_wp2_with fail
      refine (HC.out wr.drew r1 r2).mono ?_
      rintro e w2 ⟨rfl, nn, rfl⟩
      go_wp2
      go_roundw
      case rel => exact ⟨k + 1, by omega, by go_num, below_drewN hb _⟩
      case measure => simp [intOf]; omega
    · obtain rfl : k = ts.length := by omega
      go_wp2
      go_ret
      exact ⟨rfl, hb⟩

set_option maxHeartbeats 1000000 in
theorem markIntSS_any (g : Nat) (G : Nat → Nat) (ts : List (List Int)) (lo hi : Nat) (w : World) (ho : OwnS w lo hi g G ts) (hl : bulk ts ≤ 1048586) :
    Calls Try.prog 61 #[.slice (some ⟨g, 0, none⟩) ts.length ts.length, .int .i64 1] w fun e w' => e = .returned (.int .i64 (1 + (bulkK ts ts.length : Nat))) ∧ Out lo hi w w' := by
  have hblen := bulk_len ts
  go_enter Try.func61, Try.ntmps61
  go_wp2
  go_loopw [1, 5] (fun kk i wr => ∃ k : Nat, k ≤ ts.length ∧ i = .int .i64 k ∧ kk = .int .i64 (1 + (bulkK ts k : Nat)) ∧ (∀ r, r < ts.length → wr.cell? ⟨g, r, none⟩ = some (.slice (some ⟨G r, 0, none⟩) (tr ts r).length (tr ts r).length)) ∧ (∀ r, k ≤ r → r < ts.length → Tab wr lo (G r) (tr ts r).length (tr ts r).length (tr ts r)) ∧ Out lo hi w wr) (fun _ i _ => ts.length - (intOf i).toNat)
  case atStart => exact ⟨0, Nat.zero_le _, rfl, by rw [bulkK_zero]; rfl, ho.top, fun r _ hr => ho.each r hr, Out.refl _ _ _⟩
  case round =>
    obtain ⟨k, hk, rfl, rfl, hC, hT, hO⟩ := hrel
    have hkb := bulkK_le hk
    by_cases hlt : k < ts.length
    · have c1 := hC k hlt
      have hTk := hT k (Nat.le_refl _) hlt
      have HC := Lib.hid hC
      have HT := Lib.hid hT
      clear hC hT
      have hrl := bulk_row hlt
      have hsu := bulkK_succ hlt
      have hkb2 := bulkK_le (ts := ts) (k := k + 1) (by omega)
      have HSU := Lib.hid hsu
      clear hsu
      have hro := ho.rows k hlt
      go_wp2_with fail
      refine (markIntS_any _ (tr ts k) _ lo _ hTk.own (by omega) (by omega) (by omega)).mono ?_
      rintro e w2 ⟨rfl, _, hg⟩
      have hg' : wr.grownBy w2 (some (G k)) := hg
      go_wp2
      go_roundw
      case rel =>
        refine ⟨k + 1, by omega, by go_num, by rw [HSU.out]; go_num, fun r hr => ?_, fun r h1 hr => ?_, hO.step hg' (by have := ho.low; omega) hro.2.1⟩
        · have hgs : g < wr.heap.size := by have := ho.hig; have := ho.hsz; have := hO.2.2.2.1; omega
          exact (World.cell?_of_block (hg'.block g hgs (fun e => by cases e; omega))).trans (HC.out r hr)
        · have := (ho.rows r hr).2.2 k (by omega)
          exact (HT.out r (by omega) hr).kept' hg' (by omega)
      case measure => simp [intOf]; omega
    · obtain rfl : k = ts.length := by omega
      go_wp2
      go_ret
      exact ⟨rfl, hO⟩
end Go.Proofs.Ytjkcahmbocjacaa
