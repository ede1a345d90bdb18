/-
  The plain mathematics of chapter 5: the answers on sieves.
-/
import Derived.Test.YtoaiaindcmihjaaV2
import Derived.Test.YtoaiaindcmihjaaV3
namespace Go.Proofs.Ytoaiaindcmihjaa

/-- Is the sieve valid? -/
def VSv (b w s : Int) : Bool := decide ((1 ≤ b ∧ b ≤ 16) ∧ (1 ≤ w ∧ w ≤ 4) ∧ 0 ≤ s ∧ s < ((2 ^ b.toNat : Nat) : Int))
theorem VSv_iff {b w s : Int} : VSv b w s = true ↔ (1 ≤ b ∧ b ≤ 16) ∧ (1 ≤ w ∧ w ≤ 4) ∧ 0 ≤ s ∧ s < ((2 ^ b.toNat : Nat) : Int) := by unfold VSv; rw [decide_eq_true_eq]
theorem VSv_false {b w s : Int} (h : ¬ ((1 ≤ b ∧ b ≤ 16) ∧ (1 ≤ w ∧ w ≤ 4) ∧ 0 ≤ s ∧ s < ((2 ^ b.toNat : Nat) : Int))) : VSv b w s = false := by
  rw [← VSv_iff] at h; simpa using h
/-- Is the key one of a sieve? -/
def KM (k : Int) : Bool := decide (0 ≤ k ∧ k ≤ 92)
theorem KM_iff {k : Int} : KM k = true ↔ 0 ≤ k ∧ k ≤ 92 := by unfold KM; rw [decide_eq_true_eq]
theorem KM_false {k : Int} (h : ¬ (0 ≤ k ∧ k ≤ 92)) : KM k = false := by rw [← KM_iff] at h; simpa using h
/-- The bits of a key. -/
def MKn (b w k : Int) : Nat := mkb b.toNat k.toNat w.toNat
theorem pow_le16 {b : Nat} (h : b ≤ 16) : 2 ^ b ≤ 65536 := Nat.pow_le_pow_right (n := 2) (by omega) h
theorem MKn_lt {b w k : Int} (h : 1 ≤ b) : MKn b w k < 2 ^ b.toNat := mkb_lt (by omega) _
theorem MKn_pos {b w k : Int} (h : 1 ≤ b) (hw : 1 ≤ w) : 1 ≤ MKn b w k := mkb_pos (by omega)
theorem MKn_16 {b w k : Int} (h : 1 ≤ b) (h2 : b ≤ 16) : MKn b w k < 65536 := Nat.lt_of_lt_of_le (MKn_lt h) (pow_le16 (by omega))
def MKS (b w s k : Int) : Int := if VSv b w s = true ∧ KM k = true then (MKn b w k : Int) else -1
def ADb (b w s k : Int) : Int := if VSv b w s = true ∧ KM k = true then b else 0
def ADw (b w s k : Int) : Int := if VSv b w s = true ∧ KM k = true then w else 0
def ADs (b w s k : Int) : Int := if VSv b w s = true ∧ KM k = true then ((s.toNat ||| MKn b w k : Nat) : Int) else 0
def ADo (b w s k : Int) : Bool := VSv b w s && KM k
def MHS (b w s k : Int) : Bool := decide (VSv b w s = true ∧ KM k = true ∧ MKn b w k &&& s.toNat = MKn b w k)
def HMS (b w s : Int) : Int := if VSv b w s = true then (hm b.toNat w.toNat s.toNat 93 : Int) else -1

theorem VSv_zero {b w s : Int} (h : VSv b w s = true) : VSv b w 0 = true := by
  rw [VSv_iff] at h ⊢
  have := Nat.two_pow_pos b.toNat
  omega
theorem VSv_nat {b w s : Int} (h : VSv b w s = true) : s.toNat < 2 ^ b.toNat ∧ s.toNat < 65536 := by
  rw [VSv_iff] at h
  have := pow_le16 (b := b.toNat) (by omega)
  omega
theorem HMS_zero {b w s : Int} (h : VSv b w s = true) : HMS b w 0 = 0 := by
  have h' := VSv_iff.1 h
  unfold HMS; rw [if_pos (VSv_zero h), Int.toNat_zero, hm_zero (by omega)]; rfl
theorem VSv_or {b w s k : Int} (h : VSv b w s = true) : VSv b w ((s.toNat ||| MKn b w k : Nat) : Int) = true := by
  have h' := VSv_iff.1 h
  have h1 := (VSv_nat h).1
  have h2 := MKn_lt (b := b) (w := w) (k := k) (by omega)
  have := Nat.or_lt_two_pow h1 h2
  rw [VSv_iff]; omega
theorem ADs_again {b w s k : Int} (h : VSv b w s = true) (hk : KM k = true) : ADs b w (ADs b w s k) k = ADs b w s k := by
  have e : ADs b w s k = ((s.toNat ||| MKn b w k : Nat) : Int) := if_pos ⟨h, hk⟩
  have h2 := VSv_or (k := k) h
  rw [e]
  unfold ADs
  rw [if_pos ⟨h2, hk⟩, Int.toNat_natCast, or_idem]
theorem MHS_mono {b w s k x : Int} (h : VSv b w s = true) (hk : KM k = true) (hx : MHS b w s x = true) : MHS b w (ADs b w s k) x = true := by
  have e : ADs b w s k = ((s.toNat ||| MKn b w k : Nat) : Int) := if_pos ⟨h, hk⟩
  have h2 := VSv_or (k := k) h
  unfold MHS at hx ⊢
  rw [decide_eq_true_eq] at hx ⊢
  rw [e]
  refine ⟨h2, hx.2.1, ?_⟩
  rw [Int.toNat_natCast]
  exact and_or_mono _ hx.2.2
theorem MHS_add {b w s k : Int} (h : VSv b w s = true) (hk : KM k = true) : MHS b w (ADs b w s k) k = true := by
  have e : ADs b w s k = ((s.toNat ||| MKn b w k : Nat) : Int) := if_pos ⟨h, hk⟩
  unfold MHS
  rw [decide_eq_true_eq, e]
  refine ⟨VSv_or h, hk, ?_⟩
  rw [Int.toNat_natCast]
  exact and_or_self _ _
theorem ADs_keeps {b w s k : Int} (h : VSv b w s = true) (hk : KM k = true) : ADs b w s k = (((ADs b w s k).toNat : Nat) : Int) ∧ (ADs b w s k).toNat &&& s.toNat = s.toNat := by
  have e : ADs b w s k = ((s.toNat ||| MKn b w k : Nat) : Int) := if_pos ⟨h, hk⟩
  rw [e, Int.toNat_natCast]
  exact ⟨rfl, or_and_left _ _⟩
theorem MHS_iff {b w s k : Int} (h : VSv b w s = true) (hk : KM k = true) : MHS b w s k = decide (ADs b w s k = s) := by
  have e : ADs b w s k = ((s.toNat ||| MKn b w k : Nat) : Int) := if_pos ⟨h, hk⟩
  have h' := VSv_iff.1 h
  rw [e]
  unfold MHS
  rw [Bool.eq_iff_iff, decide_eq_true_eq, decide_eq_true_eq]
  have := had_iff (m := MKn b w k) (s := s.toNat)
  constructor
  · rintro ⟨_, _, h3⟩
    have := this.1 h3
    omega
  · intro h3
    exact ⟨h, hk, this.2 (by omega)⟩
theorem HMS_full {b w s : Int} (h : VSv b w s = true) : VSv b w (((2 ^ b.toNat : Nat) : Int) - 1) = true ∧ HMS b w (((2 ^ b.toNat : Nat) : Int) - 1) = 93 := by
  have h' := VSv_iff.1 h
  have hp := Nat.two_pow_pos b.toNat
  have hv : VSv b w (((2 ^ b.toNat : Nat) : Int) - 1) = true := by rw [VSv_iff]; omega
  refine ⟨hv, ?_⟩
  unfold HMS
  rw [if_pos hv, show (((2 ^ b.toNat : Nat) : Int) - 1).toNat = 2 ^ b.toNat - 1 by omega, hm_full (by omega)]
  rfl
theorem HMS_less {b w s : Int} (h : VSv b w s = true) (t : Nat) : VSv b w ((s.toNat &&& t : Nat) : Int) = true ∧ HMS b w ((s.toNat &&& t : Nat) : Int) ≤ HMS b w s := by
  have h' := VSv_iff.1 h
  have h1 := (VSv_nat h).1
  have hle : s.toNat &&& t ≤ s.toNat := Nat.and_le_left
  have hv : VSv b w ((s.toNat &&& t : Nat) : Int) = true := by rw [VSv_iff]; omega
  refine ⟨hv, ?_⟩
  unfold HMS
  rw [if_pos hv, if_pos h, Int.toNat_natCast]
  have := hm_less (bits := b.toNat) (ways := w.toNat) (s := s.toNat) (t := t) 93
  omega
theorem hm_le {bits ways s n : Nat} : hm bits ways s n ≤ n := by
  unfold hm
  have := List.countP_le_length (p := fun x => decide (mkb bits x ways &&& s = mkb bits x ways)) (l := List.range n)
  rwa [List.length_range] at this
theorem hm_succ {bits ways s n : Nat} : hm bits ways s (n + 1) = hm bits ways s n + if mkb bits n ways &&& s = mkb bits n ways then 1 else 0 := by
  unfold hm
  rw [List.range_succ, List.countP_append, List.countP_singleton]
  simp
theorem MKS_law {b w s k : Int} (h : VSv b w s = true) : 1 ≤ wgt (MKn b w k) ∧ ((wgt (MKn b w k) : Nat) : Int) ≤ w ∧ MKn b w k < 2 ^ b.toNat := by
  have h' := VSv_iff.1 h
  refine ⟨wgt_pos _ (MKn_pos (by omega) (by omega)), ?_, MKn_lt (by omega)⟩
  have : wgt (MKn b w k) ≤ w.toNat := mkb_wt _
  omega
end Go.Proofs.Ytoaiaindcmihjaa
