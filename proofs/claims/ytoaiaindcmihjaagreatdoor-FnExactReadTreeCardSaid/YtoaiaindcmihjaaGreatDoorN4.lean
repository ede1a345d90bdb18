/-
  Trees: their texts, and what is read of a text.
-/
import Derived.Test.YtoaiaindcmihjaaGreatDoorN3
namespace Go.Proofs.YtoaiaindcmihjaaGreatDoor

/-- A digit. -/
def dgt (n : Nat) : UInt8 := UInt8.ofNat (48 + n)
/-- A number in decimal. -/
def dec (n : Nat) : List UInt8 := if n < 10 then [dgt n] else dec (n / 10) ++ [dgt (n % 10)]
theorem dec_lt {n : Nat} (h : n < 10) : dec n = [dgt n] := by rw [dec, if_pos h]
theorem dec_ge {n : Nat} (h : ¬ n < 10) : dec n = dec (n / 10) ++ [dgt (n % 10)] := by rw [dec, if_neg h]
theorem dec_pos (n : Nat) : 0 < (dec n).length := by
  by_cases h : n < 10
  · rw [dec_lt h]; simp
  · rw [dec_ge h]; simp
theorem dec_two {n : Nat} (h : n < 100) : (dec n).length ≤ 2 := by
  by_cases h1 : n < 10
  · rw [dec_lt h1]; simp
  · rw [dec_ge h1, dec_lt (by omega)]; simp
/-- The text of a tree of the names with one end. -/
def ttr (l : List Int) : Nat → Nat → Nat → List UInt8
  | 0, d, e => match tfl l d e with
    | [] => [46]
    | x :: _ => dec x.toNat
  | f + 1, d, e => match tfl l d e with
    | [] => [46]
    | [x] => dec x.toNat
    | _ :: _ :: _ => [40] ++ ttr l f (d + 1) e ++ [32] ++ ttr l f (d + 1) (e + 2 ^ d) ++ [41]
theorem ttr_none {l : List Int} {d e : Nat} (h : tfl l d e = []) : ∀ f, ttr l f d e = [46] := by
  intro f; cases f <;> rw [ttr, h]
theorem ttr_one {l : List Int} {d e : Nat} {x : Int} (h : tfl l d e = [x]) : ∀ f, ttr l f d e = dec x.toNat := by
  intro f; cases f <;> rw [ttr, h]
theorem ttr_more {l : List Int} {d e f : Nat} (h : 2 ≤ (tfl l d e).length) : ttr l (f + 1) d e = [40] ++ ttr l f (d + 1) e ++ [32] ++ ttr l f (d + 1) (e + 2 ^ d) ++ [41] := by
  rw [ttr]
  match hx : tfl l d e with
  | [] => rw [hx] at h; simp at h
  | [x] => rw [hx] at h; simp at h
  | _ :: _ :: _ => rfl
/-- The three kinds of trees. -/
theorem tfl_cases (l : List Int) (d e : Nat) : tfl l d e = [] ∨ (∃ x, tfl l d e = [x]) ∨ 2 ≤ (tfl l d e).length := by
  match h : tfl l d e with
  | [] => exact .inl rfl
  | [x] => exact .inr (.inl ⟨x, rfl⟩)
  | _ :: _ :: _ => exact .inr (.inr (by simp))
theorem ttr_perm {l l' : List Int} (h : l.Perm l') (hn : l.Nodup) (hr : ∀ x ∈ l, 0 ≤ x ∧ x ≤ 63) : ∀ f d e, f + d = 6 → ttr l f d e = ttr l' f d e := by
  intro f
  induction f with
  | zero =>
    intro d e hf
    obtain rfl : d = 6 := by omega
    have h6 := tfl_six hn hr e
    have hp := tfl_perm h 6 e
    rcases tfl_cases l 6 e with h0 | ⟨x, h1⟩ | h2
    · rw [h0] at hp; rw [ttr_none h0, ttr_none hp.nil_eq.symm]
    · rw [h1] at hp; rw [ttr_one h1, ttr_one (List.perm_singleton.1 hp.symm)]
    · omega
  | succ f ih =>
    intro d e hf
    have hp := tfl_perm h d e
    rcases tfl_cases l d e with h0 | ⟨x, h1⟩ | h2
    · rw [h0] at hp; rw [ttr_none h0, ttr_none hp.nil_eq.symm]
    · rw [h1] at hp; rw [ttr_one h1, ttr_one (List.perm_singleton.1 hp.symm)]
    · rw [ttr_more h2, ttr_more (by rw [← hp.length_eq]; exact h2), ih _ _ (by omega), ih _ _ (by omega)]
theorem ttr_len {l : List Int} (hn : l.Nodup) (hr : ∀ x ∈ l, 0 ≤ x ∧ x ≤ 63) : ∀ f d e, f + d = 6 → e < 2 ^ d → (ttr l f d e).length ≤ 2 + 5 * f * (tfl l d e).length := by
  have one : ∀ f d e, (tfl l d e).length ≤ 1 → (ttr l f d e).length ≤ 2 := by
    intro f d e h
    rcases tfl_cases l d e with h0 | ⟨x, h1⟩ | h2
    · rw [ttr_none h0]; simp
    · rw [ttr_one h1]
      have := (tfl_mem.1 (show x ∈ tfl l d e by rw [h1]; simp)).1
      have := hr x this
      exact dec_two (by omega)
    · omega
  intro f
  induction f with
  | zero =>
    intro d e hf _
    obtain rfl : d = 6 := by omega
    have := one 0 6 e (tfl_six hn hr e)
    omega
  | succ f ih =>
    intro d e hf he
    have hp : 2 ^ (d + 1) = 2 * 2 ^ d := by rw [Nat.pow_succ]; omega
    by_cases h : (tfl l d e).length ≤ 1
    · have := one (f + 1) d e h
      omega
    · rw [ttr_more (by omega)]
      have h1 := ih (d + 1) e (by omega) (by omega)
      have h2 := ih (d + 1) (e + 2 ^ d) (by omega) (by omega)
      have h3 := (tfl_next l d e he).length_eq
      rw [List.length_append] at h3
      simp only [List.length_append, List.length_singleton]
      obtain ⟨A, hA⟩ : ∃ A, A = (tfl l (d + 1) e).length := ⟨_, rfl⟩
      obtain ⟨B, hB⟩ : ∃ B, B = (tfl l (d + 1) (e + 2 ^ d)).length := ⟨_, rfl⟩
      rw [← hA] at h1 h3
      rw [← hB] at h2 h3
      rw [← h3]
      have e1 : 5 * (f + 1) * (A + B) = 5 * f * A + 5 * f * B + 5 * (A + B) := by
        rw [Nat.mul_add, Nat.mul_add, Nat.mul_one, Nat.add_mul, Nat.add_mul, Nat.mul_add]; omega
      omega
/-- The text of a tree, "" for other names. -/
def TXT (l : List Int) : List UInt8 := if VNm l = true then ttr l 6 0 0 else []
theorem TXT_len (l : List Int) : (TXT l).length ≤ 362 := by
  unfold TXT
  split
  · rename_i h
    obtain ⟨h1, h2, h3⟩ := VNm_iff.1 h
    have := ttr_len h3 h2 6 0 0 rfl (by simp)
    rw [tfl_zero] at this
    omega
  · simp
theorem VNm_perm {l l' : List Int} (h : l.Perm l') : VNm l = VNm l' := by
  rw [Bool.eq_iff_iff, VNm_iff, VNm_iff, h.length_eq, h.nodup_iff]
  constructor
  · rintro ⟨h1, h2, h3⟩; exact ⟨h1, fun x hx => h2 x (h.mem_iff.2 hx), h3⟩
  · rintro ⟨h1, h2, h3⟩; exact ⟨h1, fun x hx => h2 x (h.mem_iff.1 hx), h3⟩
theorem TXT_perm {l l' : List Int} (h : l.Perm l') : TXT l = TXT l' := by
  unfold TXT
  rw [← VNm_perm h]
  split
  · rename_i hv
    obtain ⟨h1, h2, h3⟩ := VNm_iff.1 hv
    exact ttr_perm h h3 h2 6 0 0 rfl
  · rfl
theorem ttr_ne (l : List Int) : ∀ f d e, ttr l f d e ≠ [] := by
  intro f d e h
  have hd : ∀ n, dec n ≠ [] := fun n h => by have := dec_pos n; rw [h] at this; simp at this
  rcases tfl_cases l d e with h0 | ⟨x, h1⟩ | h2
  · rw [ttr_none h0] at h; simp at h
  · rw [ttr_one h1] at h; exact hd _ h
  · cases f with
    | zero =>
      rw [ttr] at h
      match hx : tfl l d e with
      | [] => rw [hx] at h2; simp at h2
      | x :: t => rw [hx] at h; exact hd _ h
    | succ f => rw [ttr_more h2] at h; simp at h
theorem TXT_ne {l : List Int} : TXT l ≠ [] ↔ VNm l = true := by
  unfold TXT
  split
  · rename_i h; exact ⟨fun _ => h, fun _ => ttr_ne _ _ _ _⟩
  · rename_i h; simp; simpa using h

/-- Is it a digit? -/
def isD (c : UInt8) : Bool := decide (48 ≤ c.toNat ∧ c.toNat ≤ 57)
/-- The number that a text begins with: it, how many digits it has, and what is behind it. -/
def rdn (n k : Nat) : List UInt8 → Nat × Nat × List UInt8
  | [] => (n, k, [])
  | c :: s => if isD c = true ∧ n < 1000 then rdn (10 * n + (c.toNat - 48)) (k + 1) s else (n, k, c :: s)
/-- The names of a text of a tree, and what is behind it. -/
def rd : Nat → List UInt8 → Option (List Int × List UInt8)
  | 0, _ => none
  | _ + 1, [] => none
  | f + 1, c :: s =>
    if c = 46 then some ([], s)
    else if c = 40 then
      match rd f s with
      | some (a, c1 :: r) => if c1 = 32 then
          match rd f r with
          | some (b, c2 :: m) => if c2 = 41 then some (a ++ b, m) else none
          | _ => none
        else none
      | _ => none
    else match rdn 0 0 (c :: s) with
      | (n, k, r) => if k = 0 then none else some ([(n : Int)], r)
/-- No digit stands there. -/
def nod (s : List UInt8) : Prop := ∀ c t, s = c :: t → isD c = false
theorem dgt_toNat {n : Nat} (h : n < 10) : (dgt n).toNat = 48 + n := by
  unfold dgt; rw [UInt8.toNat_ofNat']; omega
theorem isD_dgt {n : Nat} (h : n < 10) : isD (dgt n) = true := by
  unfold isD; rw [dgt_toNat h]; simp; omega
theorem rdn_stop {n k : Nat} {s : List UInt8} (h : nod s) : rdn n k s = (n, k, s) := by
  cases s with
  | nil => rfl
  | cons c t => rw [rdn, h c t rfl]; simp
theorem rdn_dec {n : Nat} (h : n < 100) {s : List UInt8} (hs : nod s) : rdn 0 0 (dec n ++ s) = (n, (dec n).length, s) := by
  by_cases h1 : n < 10
  · rw [dec_lt h1, List.singleton_append, rdn, isD_dgt h1, if_pos ⟨rfl, by omega⟩, rdn_stop hs, dgt_toNat h1]
    simp
  · have h2 : n / 10 < 10 := by omega
    have h3 : n % 10 < 10 := by omega
    rw [dec_ge h1, dec_lt h2, List.append_assoc, List.singleton_append, List.singleton_append, rdn, isD_dgt h2, if_pos ⟨rfl, by omega⟩, rdn, isD_dgt h3, dgt_toNat h2, if_pos ⟨rfl, by omega⟩, rdn_stop hs, dgt_toNat h3]
    simp
    omega
theorem dec_head (n : Nat) : ∃ m t, m < 10 ∧ dec n = dgt m :: t := by
  induction n using Nat.strongRecOn with
  | ind n ih =>
    by_cases h : n < 10
    · exact ⟨n, [], h, dec_lt h⟩
    · obtain ⟨m, t, h1, h2⟩ := ih (n / 10) (by omega)
      exact ⟨m, t ++ [dgt (n % 10)], h1, by rw [dec_ge h, h2]; rfl⟩
theorem rd_dec {n f : Nat} (h : n < 100) {s : List UInt8} (hs : nod s) : rd (f + 1) (dec n ++ s) = some ([(n : Int)], s) := by
  have e := rdn_dec h hs
  obtain ⟨m, t, h1, h2⟩ := dec_head n
  have hp := dec_pos n
  rw [h2] at e hp ⊢
  have hd := dgt_toNat h1
  rw [List.cons_append] at e ⊢
  rw [rd, if_neg (fun h => by rw [h] at hd; have : (46 : UInt8).toNat = 46 := rfl; omega), if_neg (fun h => by rw [h] at hd; have : (40 : UInt8).toNat = 40 := rfl; omega), e]
  simp only
  rw [if_neg (by omega)]
/-- The names in the order of the tree. -/
def lvs (l : List Int) : Nat → Nat → Nat → List Int
  | 0, d, e => tfl l d e
  | f + 1, d, e => if (tfl l d e).length ≤ 1 then tfl l d e else lvs l f (d + 1) e ++ lvs l f (d + 1) (e + 2 ^ d)
theorem lvs_perm (l : List Int) : ∀ f d e, e < 2 ^ d → (lvs l f d e).Perm (tfl l d e) := by
  intro f
  induction f with
  | zero => intro d e _; rw [lvs]
  | succ f ih =>
    intro d e he
    have hp : 2 ^ (d + 1) = 2 * 2 ^ d := by rw [Nat.pow_succ]; omega
    rw [lvs]
    split
    · exact List.Perm.refl _
    · exact ((ih (d + 1) e (by omega)).append (ih (d + 1) (e + 2 ^ d) (by omega))).trans (tfl_next l d e he)
theorem nod_cons {c : UInt8} {s : List UInt8} (h : isD c = false) : nod (c :: s) := by
  intro c' t e; injection e with e1 _; rw [← e1]; exact h
/-- What is written is read. -/
theorem rd_ttr {l : List Int} (hn : l.Nodup) (hr : ∀ x ∈ l, 0 ≤ x ∧ x ≤ 63) : ∀ f d e g s, f + d = 6 → e < 2 ^ d → nod s → (ttr l f d e).length < g → rd g (ttr l f d e ++ s) = some (lvs l f d e, s) := by
  have one : ∀ f d e g s, (tfl l d e).length ≤ 1 → nod s → 0 < g → rd g (ttr l f d e ++ s) = some (tfl l d e, s) := by
    intro f d e g s h hs hg
    obtain ⟨g, rfl⟩ : ∃ g', g = g' + 1 := ⟨g - 1, by omega⟩
    rcases tfl_cases l d e with h0 | ⟨x, h1⟩ | h2
    · rw [ttr_none h0, h0, List.singleton_append, rd, if_pos rfl]
    · have := hr x (tfl_mem.1 (show x ∈ tfl l d e by rw [h1]; simp)).1
      rw [ttr_one h1, h1, rd_dec (by omega) hs, show ((x.toNat : Nat) : Int) = x by omega]
    · omega
  intro f
  induction f with
  | zero =>
    intro d e g s hf he hs hg
    obtain rfl : d = 6 := by omega
    exact one 0 6 e g s (tfl_six hn hr e) hs (by omega)
  | succ f ih =>
    intro d e g s hf he hs hg
    have hp : 2 ^ (d + 1) = 2 * 2 ^ d := by rw [Nat.pow_succ]; omega
    by_cases h : (tfl l d e).length ≤ 1
    · rw [lvs, if_pos h]; exact one (f + 1) d e g s h hs (by omega)
    · rw [ttr_more (by omega)] at hg
      simp only [List.length_append, List.length_singleton] at hg
      rw [lvs, if_neg h, ttr_more (by omega)]
      obtain ⟨g, rfl⟩ : ∃ g', g = g' + 1 := ⟨g - 1, by omega⟩
      have e1 : [40] ++ ttr l f (d + 1) e ++ [32] ++ ttr l f (d + 1) (e + 2 ^ d) ++ [41] ++ s = 40 :: (ttr l f (d + 1) e ++ 32 :: (ttr l f (d + 1) (e + 2 ^ d) ++ 41 :: s)) := by simp
      rw [e1, rd, if_neg (by decide), if_pos rfl, ih (d + 1) e g _ (by omega) (by omega) (nod_cons (by decide)) (by omega)]
      simp only
      rw [if_pos trivial, ih (d + 1) (e + 2 ^ d) g _ (by omega) (by omega) (nod_cons (by decide)) (by omega)]
      simp
/-- The names of a text, ascending. -/
def RT (s : List UInt8) : Option (List Int) :=
  if s.length ≤ 400 then
    match rd (s.length + 1) s with
    | some (l, []) => if TXT l = s then some (srt l) else none
    | _ => none
  else none
theorem nod_nil : nod [] := by intro c t e; cases e
theorem RT_TXT {l : List Int} (h : VNm l = true) : RT (TXT l) = some (srt l) := by
  obtain ⟨h1, h2, h3⟩ := VNm_iff.1 h
  have hl := TXT_len l
  have e : TXT l = ttr l 6 0 0 := if_pos h
  have hr := rd_ttr h3 h2 6 0 0 ((TXT l).length + 1) [] rfl (by simp) nod_nil (by rw [e]; omega)
  rw [List.append_nil, ← e] at hr
  unfold RT
  rw [if_pos (by omega), hr]
  have hp : (lvs l 6 0 0).Perm l := by have := lvs_perm l 6 0 0 (by simp); rwa [tfl_zero] at this
  simp only
  rw [if_pos (TXT_perm hp), srt_congr hp]
theorem RT_some {s : List UInt8} {R : List Int} (hs : s ≠ []) (h : RT s = some R) : VNm R = true ∧ R.Pairwise (· ≤ ·) ∧ TXT R = s := by
  unfold RT at h
  split at h
  · split at h
    · split at h
      · rename_i l _ e
        injection h with h
        subst h
        have hp := srt_perm l
        have e2 : TXT (srt l) = s := by rw [TXT_perm hp, e]
        refine ⟨TXT_ne.1 (by rw [e2]; exact hs), srt_sorted l, e2⟩
      · cases h
    · cases h
  · cases h
theorem RT_nil : RT [] = none := by unfold RT; rfl
/-- The names of a text are those whose text it is. -/
theorem RT_iff {s : List UInt8} {R : List Int} : RT s = some R ↔ VNm R = true ∧ R.Pairwise (· ≤ ·) ∧ TXT R = s := by
  constructor
  · intro h
    refine RT_some (fun e => ?_) h
    rw [e, RT_nil] at h; cases h
  · rintro ⟨h1, h2, rfl⟩
    rw [RT_TXT h1, srt_id h2]
theorem RT_none {s : List UInt8} (h : ∀ l, VNm l = true → TXT l ≠ s) : RT s = none := by
  cases e : RT s with
  | none => rfl
  | some R => obtain ⟨h1, _, h3⟩ := RT_iff.1 e; exact absurd h3 (h R h1)
/-- The law of ReadTree: the names ascend. -/
theorem RT_asc {s : List UInt8} {R : List Int} (h : RT s = some R) : R.Pairwise (· < ·) := by
  obtain ⟨h1, h2, _⟩ := RT_iff.1 h
  have hn := (VNm_iff.1 h1).2.2
  exact (List.pairwise_and_iff.2 ⟨h2, hn⟩).imp (fun ⟨a, b⟩ => by omega)
end Go.Proofs.YtoaiaindcmihjaaGreatDoor
