/-
  laws.markIntSS and laws.heldIntSS: rows that are marked, and that still hold their marks.
-/
import Derived.Test.YtjkcahmbocjacaaTc
namespace Go.Proofs.Ytjkcahmbocjacaa
open Go.RowKit

/-- The rows with their marks. -/
def mkst (ts : List (List Int)) : List (List Int) := (List.range ts.length).map fun r => marks (1 + (bulkK ts r : Nat)) (tr ts r).length
theorem mkst_len (ts : List (List Int)) : (mkst ts).length = ts.length := by simp [mkst]
theorem mkst_get {ts : List (List Int)} {r : Nat} (h : r < ts.length) : tr (mkst ts) r = marks (1 + (bulkK ts r : Nat)) (tr ts r).length := by
  show (mkst ts).getD r [] = _
  simp [mkst, List.getD, h]
set_option maxHeartbeats 1000000 in
theorem markIntSS2 (g : Nat) (G : Nat → Nat) (ts : List (List Int)) (lo hi : Nat) (w : World) (ho : OwnS w lo hi g G ts) (hl : bulk ts ≤ 1048586) :
    Calls Try.prog 61 #[.slice (some ⟨g, 0, none⟩) ts.length ts.length, .int .i64 1] w fun e w' => e = .returned (.int .i64 (1 + (bulkK ts ts.length : Nat))) ∧ Out lo hi w w' ∧ OwnS w' lo hi g G (mkst ts) := by
  have hblen := bulk_len ts
  go_enter Try.func61, Try.ntmps61
  go_wp2
  go_loopw [1, 5] (fun kk i wr => ∃ k : Nat, k ≤ ts.length ∧ i = .int .i64 k ∧ kk = .int .i64 (1 + (bulkK ts k : Nat)) ∧ (∀ r, r < ts.length → wr.cell? ⟨g, r, none⟩ = some (.slice (some ⟨G r, 0, none⟩) (tr ts r).length (tr ts r).length)) ∧ (∀ r, k ≤ r → r < ts.length → Tab wr lo (G r) (tr ts r).length (tr ts r).length (tr ts r)) ∧ (∀ r, r < k → Tab wr lo (G r) (tr ts r).length (tr ts r).length (marks (1 + (bulkK ts r : Nat)) (tr ts r).length)) ∧ Out lo hi w wr) (fun _ i _ => ts.length - (intOf i).toNat)
  case atStart => exact ⟨0, Nat.zero_le _, rfl, by rw [bulkK_zero]; rfl, ho.top, fun r _ hr => ho.each r hr, fun r hr => by omega, Out.refl _ _ _⟩
  case round =>
    obtain ⟨k, hk, rfl, rfl, hC, hT, hM, hO⟩ := hrel
    have hkb := bulkK_le hk
    by_cases hlt : k < ts.length
    · have c1 := hC k hlt
      have hTk := hT k (Nat.le_refl _) hlt
      have HC := Lib.hid hC
      have HT := Lib.hid hT
      have HM := Lib.hid hM
      clear hC hT hM
      have hrl := bulk_row hlt
      have hsu := bulkK_succ hlt
      have hkb2 := bulkK_le (ts := ts) (k := k + 1) (by omega)
      have HSU := Lib.hid hsu
      clear hsu
      have hro := ho.rows k hlt
      go_wp2_with fail
      refine (markIntS_any _ (tr ts k) _ lo _ hTk.own (by omega) (by omega) (by omega)).mono ?_
      rintro e w2 ⟨rfl, hown, hg⟩
      have hg' : wr.grownBy w2 (some (G k)) := hg
      have HOWN := Lib.hid hown
      clear hown
      go_wp2
      go_roundw
      case rel =>
        refine ⟨k + 1, by omega, by go_num, by rw [HSU.out]; go_num, fun r hr => ?_, fun r h1 hr => ?_, fun r hr => ?_, hO.step hg' (by have := ho.low; omega) hro.2.1⟩
        · have hgs : g < wr.heap.size := by have := ho.hig; have := ho.hsz; have := hO.2.2.2.1; omega
          exact (World.cell?_of_block (hg'.block g hgs (fun e => by cases e; omega))).trans (HC.out r hr)
        · have := (ho.rows r hr).2.2 k (by omega)
          exact (HT.out r (by omega) hr).kept' hg' (by omega)
        · by_cases e : r = k
          · subst e
            have h1 := HOWN.out
            unfold Own at h1
            rw [marks_len] at h1
            exact h1
          · have := (hro).2.2 r (by omega)
            exact (HM.out r (by omega)).kept' hg' (by omega)
      case measure => simp [intOf]; omega
    · obtain rfl : k = ts.length := by omega
      have HM := Lib.hid hM
      have HC := Lib.hid hC
      clear hT hM hC
      go_wp2
      go_ret
      refine ⟨rfl, hO, ⟨ho.low, ho.hig, Nat.le_trans ho.hsz hO.2.2.2.1, fun r hr => ho.rows r (by rwa [mkst_len] at hr), fun r hr => ?_, fun r hr => ?_⟩⟩
      · rw [mkst_len] at hr
        rw [mkst_get hr, marks_len]; exact HC.out r hr
      · rw [mkst_len] at hr
        rw [mkst_get hr, marks_len]; exact HM.out r hr
theorem markIntSS_nil (w : World) : Calls Try.prog 61 #[.slice none 0 0, .int .i64 1] w fun e w' => e = .returned (.int .i64 1) ∧ w = w' := by
  go_enter Try.func61, Try.ntmps61
  go_wp2
  refine wp_loop_rounds 1 ?_
  rw [rounds_succ]
  go_wp2
  go_ret
  exact ⟨rfl, rfl⟩
set_option maxHeartbeats 1000000 in
theorem heldIntSS_any (a : Option Addr) (ts : List (List Int)) (cap : Nat) (w : World) (hr : ReadsS w a (mkst ts)) (hl : bulk ts ≤ 1048586) :
    Calls Try.prog 62 #[.slice a ts.length cap, .int .i64 1] w fun e w' => e = .returned (.int .i64 (1 + (bulkK ts ts.length : Nat))) ∧ w = w' := by
  have hblen := bulk_len ts
  go_enter Try.func62, Try.ntmps62
  go_wp2
  go_loop [1, 5] (fun kk i => ∃ k K : Nat, k ≤ ts.length ∧ i = .int .i64 k ∧ kk = .int .i64 (1 + (K : Int)) ∧ Hid (K = bulkK ts k)) (fun _ i => ts.length - (intOf i).toNat)
  case atStart => exact ⟨0, 0, Nat.zero_le _, rfl, by simp, by show 0 = bulkK ts 0; rw [bulkK_zero]⟩
  case round =>
    obtain ⟨k, K, hk, rfl, rfl, hK⟩ := hrel
    have hkb := bulkK_le hk
    rw [← hK.out] at hkb
    by_cases hlt : k < ts.length
    · have hk1 : (k : Int) < (ts.length : Int) := by omega
      obtain ⟨b, off, A, C, rfl, hb, hc, hrow, hcap⟩ := hr.get (r := k) (by rw [mkst_len]; exact hlt)
      rw [mkst_get hlt, marks_len] at hc hcap
      rw [mkst_get hlt, ← hK.out] at hrow
      have hrl := bulk_row hlt
      have hsu := bulkK_succ hlt
      rw [← hK.out] at hsu
      have hkb2 := bulkK_le (ts := ts) (k := k + 1) (by omega)
      obtain ⟨n, hn⟩ : ∃ n, n = (tr ts k).length := ⟨_, rfl⟩
      rw [← hn] at hc hcap hrow hrl hsu
      rw [hsu] at hkb2
      have HSU : Hid (K + n = bulkK ts (k + 1)) := hsu.symm
      have ch := heldIntS_any A n C (1 + (K : Int)) w hrow (by omega) (by omega) (by omega)
      have CH := Lib.hid ch
      have g0 : ¬ 1 + (K : Int) + (n : Int) < 0 := by omega
      clear hsu hn ch hrow
      go_wp2_with fail
      refine CH.out.mono ?_
      rintro e w' ⟨rfl, rfl⟩
      go_wp2
      go_round
      case rel => exact ⟨k + 1, K + n, by omega, by go_num, by go_num, HSU⟩
      case measure => simp [intOf]; omega
    · obtain rfl : k = ts.length := by omega
      go_wp2
      go_ret
      exact ⟨ret_int (by rw [hK.out]), rfl⟩
end Go.Proofs.Ytjkcahmbocjacaa
