/-
  Numbers that are read as strconv reads them, and written back.
-/
import Derived.Test.YtoaiaindcmihjaaGreatDoorO1
import Derived.Lib.AtoiAll
import Derived.Lib.ItoaNum
namespace Go.Proofs.YtoaiaindcmihjaaGreatDoor

theorem dec_eq (n : Nat) : Go.Lib.decDigits n = dec n := by
  induction n using Nat.strongRecOn with
  | ind n ih =>
    by_cases h : n < 10
    · rw [Go.Lib.decDigits_one h, dec_lt h]; rfl
    · rw [Go.Lib.decDigits, dif_neg h, ih (n / 10) (by omega), dec_ge h]; rfl
theorem itoa_nat (n : Nat) : Go.Lib.itoa (n : Int) = dec n := by
  unfold Go.Lib.itoa
  rw [if_neg (by omega), Int.toNat_natCast, dec_eq]
theorem itoa_neg {v : Int} (h : v < 0) : Go.Lib.itoa v = 45 :: dec v.natAbs := by
  unfold Go.Lib.itoa
  rw [if_pos h, dec_eq]
theorem pu_app : ∀ (l r : List UInt8) (acc u : Nat), Go.Lib.parseUint10 acc l = .ok u → Go.Lib.parseUint10 acc (l ++ r) = Go.Lib.parseUint10 u r := by
  intro l
  induction l with
  | nil => intro r acc u h; simp only [Go.Lib.parseUint10] at h; injection h with h; rw [List.nil_append, h]
  | cons c l ih =>
    intro r acc u h
    simp only [Go.Lib.parseUint10, List.cons_append] at h ⊢
    split at h
    · rename_i h1
      split at h
      · cases h
      · rename_i h2
        split at h
        · cases h
        · rename_i h3
          rw [if_pos h1, if_neg h2, if_neg h3]
          exact ih r _ u h
    · cases h
theorem pu_dec : ∀ n : Nat, n < 1000000000000000 → Go.Lib.parseUint10 0 (dec n) = .ok n := by
  intro n
  induction n using Nat.strongRecOn with
  | ind n ih =>
    intro hn
    have one : ∀ (a m : Nat), a < 1000000000000000 → m < 10 → Go.Lib.parseUint10 a [dgt m] = .ok (10 * a + m) := fun a m ha hm => by
      have := dgt_toNat hm
      simp only [Go.Lib.parseUint10]
      rw [this, if_pos (by omega), if_neg (by omega), if_neg (by omega)]
      congr 1; omega
    by_cases h : n < 10
    · rw [dec_lt h, one 0 n (by omega) h]; congr 1; omega
    · rw [dec_ge h, pu_app _ _ _ _ (ih (n / 10) (by omega) (by omega)), one _ _ (by omega) (by omega)]
      congr 1; omega
/-- What is written is read. -/
theorem atoi_dec {n : Nat} (h : n < 1000000000000000) : Go.Lib.atoiAll (dec n) = .ok (n : Int) := by
  have hp := pu_dec n h
  obtain ⟨m, t, h1, h2⟩ := dec_head n
  have hd := dgt_toNat h1
  rw [h2] at hp ⊢
  unfold Go.Lib.atoiAll Go.Lib.parseMag
  simp only
  rw [if_neg (show ¬ ((dgt m).toNat = 43 ∨ (dgt m).toNat = 45) by omega), if_neg (by simp), hp]
  simp only
  rw [if_neg (by omega), if_neg (by omega), if_neg (by omega)]
/-- The number of a field, if it is written so. -/
def rnb (p : List UInt8) : Option Int := match Go.Lib.atoiAll p with
  | .ok v => if Go.Lib.itoa v = p then some v else none
  | _ => none
theorem rnb_some {p : List UInt8} {v : Int} (h : rnb p = some v) : Go.Lib.atoiAll p = .ok v ∧ Go.Lib.itoa v = p := by
  unfold rnb at h
  split at h
  · rename_i u e
    split at h
    · rename_i g; injection h with h; subst h; exact ⟨e, g⟩
    · cases h
  · cases h
theorem rnb_dec {n : Nat} (h : n < 1000000000000000) : rnb (dec n) = some (n : Int) := by
  unfold rnb
  rw [atoi_dec h]
  simp only
  rw [if_pos (itoa_nat n)]
/-- The numbers of the fields, if each one is one. -/
def rds : List (List UInt8) → Option (List Int)
  | [] => some []
  | p :: l => match rnb p, rds l with
    | some v, some r => some (v :: r)
    | _, _ => none
theorem rds_snoc (l : List (List UInt8)) (p : List UInt8) : rds (l ++ [p]) = match rds l, rnb p with
    | some r, some v => some (r ++ [v])
    | _, _ => none := by
  induction l with
  | nil => rw [List.nil_append, rds, rds]; cases rnb p <;> rfl
  | cons q l ih =>
    rw [List.cons_append, rds, ih, rds]
    cases rnb q <;> cases rds l <;> cases rnb p <;> rfl
theorem rds_len {l : List (List UInt8)} {r : List Int} : rds l = some r → r.length = l.length := by
  induction l generalizing r with
  | nil => intro h; rw [rds] at h; injection h with h; rw [← h]; rfl
  | cons q l ih =>
    intro h
    rw [rds] at h
    split at h
    · rename_i v s h1 h2; injection h with h; rw [← h]; simp [ih h2]
    · cases h
theorem rds_none {l r : List (List UInt8)} (h : rds l = none) : rds (l ++ r) = none := by
  induction l with
  | nil => rw [rds] at h; cases h
  | cons q l ih =>
    rw [rds] at h
    rw [List.cons_append, rds]
    split at h
    · cases h
    · rename_i h1
      cases e : rnb q with
      | none => rfl
      | some v =>
        cases e2 : rds l with
        | none => rw [ih e2]
        | some s => exact (h1 v s e e2).elim
theorem rds_decs {l : List Int} (hr : ∀ x ∈ l, 0 ≤ x ∧ x ≤ 63) : rds (l.map (fun x => dec x.toNat)) = some l := by
  induction l with
  | nil => rfl
  | cons x l ih =>
    have hx := hr x (by simp)
    rw [List.map_cons, rds, rnb_dec (by omega), ih (fun y hy => hr y (List.mem_cons_of_mem _ hy)), show ((x.toNat : Nat) : Int) = x by omega]
/-- The names of a text, by its fields F. -/
theorem RT_fields {s : List UInt8} {F : List (List UInt8)} (hF : ∀ l, VNm l = true → TXT l = s → F = (lvs l 6 0 0).map (fun x => dec x.toNat)) (h0 : s = [] → F = []) :
    RT s = match rds F with | some N => if TXT (srt N) = s then some (srt N) else none | none => none := by
  cases hR : RT s with
  | some R =>
    obtain ⟨h1, h2, h3⟩ := RT_iff.1 hR
    obtain ⟨_, hr, _⟩ := VNm_iff.1 h1
    have hp := lvs_perm R 6 0 0 (by simp)
    rw [tfl_zero] at hp
    rw [hF R h1 h3, rds_decs (fun x hx => hr x (hp.mem_iff.1 hx))]
    simp only
    have e : srt (lvs R 6 0 0) = R := by rw [srt_congr hp, srt_id h2]
    rw [e, if_pos h3]
  | none =>
    cases hN : rds F with
    | none => rfl
    | some N =>
      simp only
      by_cases h : TXT (srt N) = s
      · exfalso
        by_cases hs : s = []
        · rw [h0 hs, rds] at hN
          injection hN with hN
          rw [← hN, hs] at h
          have hv0 : VNm (srt []) = true := by rw [VNm_iff]; simp [srt]
          exact TXT_ne.2 hv0 h
        · have hv : VNm (srt N) = true := TXT_ne.1 (by rw [h]; exact hs)
          rw [RT_iff.2 ⟨hv, srt_sorted N, h⟩] at hR
          cases hR
      · rw [if_neg h]
end Go.Proofs.YtoaiaindcmihjaaGreatDoor
