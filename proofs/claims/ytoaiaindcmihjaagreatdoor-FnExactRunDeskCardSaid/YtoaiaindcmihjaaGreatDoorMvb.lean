
import Derived.Test.YtoaiaindcmihjaaGreatDoorMva
import Derived.Deep.AppendLies
import Derived.Deep.RegionHeld3
import Derived.Deep.RegionWith
import Derived.Deep.RegionLaw
import Derived.Maps.AppendAt
import Derived.Laws.Concat
import Derived.Laws.Strings
import Derived.Laws.Strings2
import Derived.Laws.Strings3
/-
  Numbers in order: what insertion gives.
-/
namespace Go.Proofs.YtoaiaindcmihjaaGreatDoor

/-- The numbers ascending. -/
def srt (l : List Int) : List Int := l.mergeSort (fun a b => decide (a ≤ b))
theorem srt_perm (l : List Int) : (srt l).Perm l := List.mergeSort_perm _ _
theorem srt_sorted (l : List Int) : (srt l).Pairwise (· ≤ ·) := by
  have := List.pairwise_mergeSort (le := fun a b : Int => decide (a ≤ b)) (fun a b c h1 h2 => by simp at *; omega) (fun a b => by simp; omega) l
  exact this.imp (fun h => of_decide_eq_true h)
/-- There is just one such list. -/
theorem srt_only {l R : List Int} (hp : R.Perm l) (hs : R.Pairwise (· ≤ ·)) : R = srt l :=
  List.Perm.eq_of_pairwise (le := fun a b => a ≤ b) (fun a b _ _ h1 h2 => by omega) hs (srt_sorted l) (hp.trans (srt_perm l).symm)
theorem srt_congr {l l' : List Int} (h : l.Perm l') : srt l = srt l' := srt_only ((srt_perm l).trans h) (srt_sorted l)
theorem srt_id {l : List Int} (h : l.Pairwise (· ≤ ·)) : srt l = l := (srt_only (List.Perm.refl l) h).symm
theorem srt_len (l : List Int) : (srt l).length = l.length := (srt_perm l).length_eq
theorem srt_mem {l : List Int} {x : Int} : x ∈ srt l ↔ x ∈ l := (srt_perm l).mem_iff
theorem srt_nodup {l : List Int} : (srt l).Nodup ↔ l.Nodup := (srt_perm l).nodup_iff
/-- A number put in where it belongs. -/
theorem ins_perm (l : List Int) (k : Nat) (x : Int) : (l.take k ++ [x] ++ l.drop k).Perm (l ++ [x]) := by
  have h : (l.take k ++ [x] ++ l.drop k).Perm (l.take k ++ l.drop k ++ [x]) := by
    rw [List.append_assoc, List.append_assoc]
    exact List.Perm.append_left _ List.perm_append_comm
  rwa [List.take_append_drop] at h
theorem ins_sorted {l : List Int} {k : Nat} {x : Int} (hs : l.Pairwise (· ≤ ·)) (hk : k ≤ l.length) (h1 : ∀ j, j < k → l.getD j 0 ≤ x) (h2 : k < l.length → x ≤ l.getD k 0) : (l.take k ++ [x] ++ l.drop k).Pairwise (· ≤ ·) := by
  have hs' : (l.take k ++ l.drop k).Pairwise (· ≤ ·) := by rwa [List.take_append_drop]
  obtain ⟨p1, p2, p3⟩ := List.pairwise_append.1 hs'
  have m1 : ∀ y ∈ l.take k, y ≤ x := fun y hy => by
    obtain ⟨i, hi, e⟩ := List.getElem_of_mem hy
    have hi2 : i < k := by rw [List.length_take] at hi; omega
    have := h1 i hi2
    rw [List.getElem_take] at e
    simp [List.getD, show i < l.length by omega, e] at this
    exact this
  have m2 : ∀ y ∈ l.drop k, x ≤ y := fun y hy => by
    obtain ⟨i, hi, e⟩ := List.getElem_of_mem hy
    rw [List.length_drop] at hi
    rw [List.getElem_drop] at e
    have hkl : k < l.length := by omega
    have a1 := h2 hkl
    simp [List.getD, hkl] at a1
    rcases Nat.eq_zero_or_pos i with h | h
    · subst h; rw [← e]; simpa using a1
    · have := (List.pairwise_iff_getElem.1 hs) k (k + i) hkl (by omega) (by omega)
      omega
  rw [List.append_assoc, List.pairwise_append]
  refine ⟨p1, ?_, fun a ha b hb => ?_⟩
  · rw [List.singleton_append, List.pairwise_cons]
    exact ⟨m2, p2⟩
  · rw [List.singleton_append, List.mem_cons] at hb
    rcases hb with rfl | hb
    · exact m1 a ha
    · have := m1 a ha; have := m2 b hb; omega
/-- What insertion has put in order so far. -/
def SOf (l : List Int) (k : Nat) (R : List Int) : Prop := R.Perm (l.take k) ∧ R.Pairwise (· ≤ ·)
theorem SOf.zero (l : List Int) : SOf l 0 [] := ⟨by simp, List.Pairwise.nil⟩
theorem SOf.next {l R : List Int} {i k : Nat} (h : SOf l i R) (hi : i < l.length) (hk : k ≤ R.length) (h1 : ∀ j, j < k → R.getD j 0 ≤ l.getD i 0) (h2 : k < R.length → l.getD i 0 ≤ R.getD k 0) : SOf l (i + 1) (R.take k ++ [l.getD i 0] ++ R.drop k) := by
  refine ⟨(ins_perm R k _).trans ?_, ins_sorted h.2 hk h1 h2⟩
  rw [List.take_succ_eq_append_getElem hi]
  have : l.getD i 0 = l[i] := by simp [List.getD, hi]
  rw [this]
  exact h.1.append_right _
theorem SOf.full {l R : List Int} (h : SOf l l.length R) : R = srt l := srt_only (by have := h.1; rwa [List.take_length] at this) h.2
theorem SOf.len {l R : List Int} {i : Nat} (h : SOf l i R) (hi : i ≤ l.length) : R.length = i := by
  rw [h.1.length_eq, List.length_take]; omega
end Go.Proofs.YtoaiaindcmihjaaGreatDoor
/-
  Buckets: names parted by their ends, directories.
-/
namespace Go.Proofs.YtoaiaindcmihjaaGreatDoor

/-- The names of one end. -/
def tfl (l : List Int) (d e : Nat) : List Int := l.filter (fun x => decide (x.toNat % 2 ^ d = e))
theorem tfl_mem {l : List Int} {d e : Nat} {x : Int} : x ∈ tfl l d e ↔ x ∈ l ∧ x.toNat % 2 ^ d = e := by simp [tfl, List.mem_filter]
theorem tfl_zero (l : List Int) : tfl l 0 0 = l := by
  unfold tfl
  rw [List.filter_eq_self]
  intro x _
  simp [Nat.mod_one]
theorem tfl_perm {l l' : List Int} (h : l.Perm l') (d e : Nat) : (tfl l d e).Perm (tfl l' d e) := h.filter _
theorem tfl_nodup {l : List Int} (h : l.Nodup) (d e : Nat) : (tfl l d e).Nodup := h.sublist List.filter_sublist
theorem mod_next (x d e : Nat) (he : e < 2 ^ d) : x % 2 ^ d = e ↔ (x % 2 ^ (d + 1) = e ∨ x % 2 ^ (d + 1) = e + 2 ^ d) := by
  have h1 : x % 2 ^ (d + 1) % 2 ^ d = x % 2 ^ d := mod_mod_pow x d
  have h2 : x % 2 ^ (d + 1) < 2 ^ (d + 1) := Nat.mod_lt _ (Nat.two_pow_pos _)
  have h3 : 2 ^ (d + 1) = 2 * 2 ^ d := by rw [Nat.pow_succ]; omega
  obtain ⟨y, hy⟩ : ∃ y, y = x % 2 ^ (d + 1) := ⟨_, rfl⟩
  obtain ⟨P, hP⟩ : ∃ P, P = 2 ^ d := ⟨_, rfl⟩
  rw [← hy, ← hP] at h1
  rw [← hy] at h2
  rw [h3, ← hP] at h2
  rw [← hP] at he
  rw [← hy, ← hP, ← h1]
  by_cases h : y < P
  · rw [Nat.mod_eq_of_lt h]; omega
  · rw [Nat.mod_eq_sub_mod (by omega), Nat.mod_eq_of_lt (by omega)]; omega
/-- The names of one end are those of both next digits. -/
theorem tfl_next (l : List Int) (d e : Nat) (he : e < 2 ^ d) : (tfl l (d + 1) e ++ tfl l (d + 1) (e + 2 ^ d)).Perm (tfl l d e) := by
  induction l with
  | nil => simp [tfl]
  | cons x l ih =>
    have hn := mod_next x.toNat d e he
    have hp := Nat.two_pow_pos d
    unfold tfl at ih ⊢
    by_cases h1 : x.toNat % 2 ^ (d + 1) = e
    · have h2 : ¬ x.toNat % 2 ^ (d + 1) = e + 2 ^ d := by omega
      have h3 : x.toNat % 2 ^ d = e := hn.2 (.inl h1)
      rw [List.filter_cons_of_pos (by simpa using h1), List.filter_cons_of_neg (by simpa using h2), List.filter_cons_of_pos (by simpa using h3)]
      exact ih.cons _
    · by_cases h2 : x.toNat % 2 ^ (d + 1) = e + 2 ^ d
      · have h3 : x.toNat % 2 ^ d = e := hn.2 (.inr h2)
        rw [List.filter_cons_of_neg (by simpa using h1), List.filter_cons_of_pos (by simpa using h2), List.filter_cons_of_pos (by simpa using h3)]
        exact List.perm_middle.trans (ih.cons _)
      · have h3 : ¬ x.toNat % 2 ^ d = e := fun h => by rcases hn.1 h with h | h <;> omega
        rw [List.filter_cons_of_neg (by simpa using h1), List.filter_cons_of_neg (by simpa using h2), List.filter_cons_of_neg (by simpa using h3)]
        exact ih
theorem tfl_six {l : List Int} (hn : l.Nodup) (hr : ∀ x ∈ l, 0 ≤ x ∧ x ≤ 63) (e : Nat) : (tfl l 6 e).length ≤ 1 := by
  have h1 := tfl_nodup hn 6 e
  have h2 : ∀ x ∈ tfl l 6 e, x = (e : Int) := fun x hx => by
    obtain ⟨h3, h4⟩ := tfl_mem.1 hx
    have := hr x h3
    rw [Nat.mod_eq_of_lt (by omega)] at h4
    omega
  cases h : tfl l 6 e with
  | nil => simp
  | cons x t =>
    cases t with
    | nil => simp
    | cons y t =>
      rw [h] at h1 h2
      have a := h2 x (by simp)
      have b := h2 y (by simp)
      rw [List.nodup_cons] at h1
      exact absurd (by rw [a, b]; simp) h1.1

/-- A bucket: its depth, its end, its names. -/
abbrev Bk := Nat × Nat × List Int
/-- Buckets of the names with one end. -/
def spl (l : List Int) (m : Nat) : Nat → Nat → Nat → List Bk
  | 0, d, e => [(d, e, srt (tfl l d e))]
  | f + 1, d, e => if (tfl l d e).length ≤ m then [(d, e, srt (tfl l d e))] else spl l m f (d + 1) e ++ spl l m f (d + 1) (e + 2 ^ d)
theorem spl_perm {l l' : List Int} (h : l.Perm l') (m : Nat) : ∀ f d e, spl l m f d e = spl l' m f d e := by
  intro f
  induction f with
  | zero => intro d e; rw [spl, spl, srt_congr (tfl_perm h d e)]
  | succ f ih =>
    intro d e
    rw [spl, spl, (tfl_perm h d e).length_eq, srt_congr (tfl_perm h d e), ih, ih]
theorem spl_ok {l : List Int} {m : Nat} (hn : l.Nodup) (hr : ∀ x ∈ l, 0 ≤ x ∧ x ≤ 63) (hm : 1 ≤ m) : ∀ f d e, f + d = 6 → e < 2 ^ d → ∀ b ∈ spl l m f d e, (d ≤ b.1 ∧ b.1 ≤ 6) ∧ b.2.1 < 2 ^ b.1 ∧ b.2.2 = srt (tfl l b.1 b.2.1) ∧ b.2.2.length ≤ m := by
  intro f
  induction f with
  | zero =>
    intro d e hf he b hb
    rw [spl, List.mem_singleton] at hb
    subst hb
    have hd : d = 6 := by omega
    subst hd
    refine ⟨⟨by simp, by simp⟩, he, rfl, ?_⟩
    have := tfl_six hn hr e
    show (srt (tfl l 6 e)).length ≤ m
    rw [srt_len]; omega
  | succ f ih =>
    intro d e hf he b hb
    rw [spl] at hb
    have hp : 2 ^ (d + 1) = 2 * 2 ^ d := by rw [Nat.pow_succ]; omega
    split at hb
    · rename_i h
      rw [List.mem_singleton] at hb
      subst hb
      refine ⟨⟨by simp, by simp; omega⟩, he, rfl, ?_⟩
      show (srt (tfl l d e)).length ≤ m
      rw [srt_len]; exact h
    · rcases List.mem_append.1 hb with h | h
      · obtain ⟨h1, h2⟩ := ih (d + 1) e (by omega) (by omega) b h
        exact ⟨⟨by omega, h1.2⟩, h2⟩
      · obtain ⟨h1, h2⟩ := ih (d + 1) (e + 2 ^ d) (by omega) (by omega) b h
        exact ⟨⟨by omega, h1.2⟩, h2⟩
theorem spl_all (l : List Int) (m : Nat) : ∀ f d e, e < 2 ^ d → ((spl l m f d e).flatMap (fun b => b.2.2)).Perm (tfl l d e) := by
  intro f
  induction f with
  | zero => intro d e _; rw [spl]; simpa using srt_perm _
  | succ f ih =>
    intro d e he
    have hp : 2 ^ (d + 1) = 2 * 2 ^ d := by rw [Nat.pow_succ]; omega
    rw [spl]
    split
    · simpa using srt_perm _
    · rw [List.flatMap_append]
      exact ((ih (d + 1) e (by omega)).append (ih (d + 1) (e + 2 ^ d) (by omega))).trans (tfl_next l d e he)
theorem spl_pos (l : List Int) (m : Nat) : ∀ f d e, 0 < (spl l m f d e).length := by
  intro f
  induction f with
  | zero => intro d e; simp [spl]
  | succ f ih =>
    intro d e
    rw [spl]
    split
    · simp
    · rw [List.length_append]; have := ih (d + 1) e; omega
theorem spl_len (l : List Int) (m : Nat) : ∀ f d e, (spl l m f d e).length ≤ 2 ^ f := by
  intro f
  induction f with
  | zero => intro d e; simp [spl]
  | succ f ih =>
    intro d e
    have hp : 2 ^ (f + 1) = 2 * 2 ^ f := by rw [Nat.pow_succ]; omega
    have := Nat.two_pow_pos f
    rw [spl]
    split
    · simp; omega
    · rw [List.length_append]; have := ih (d + 1) e; have := ih (d + 1) (e + 2 ^ d); omega
/-- Does a number end so? -/
def hit (x : Nat) (b : Bk) : Bool := decide (x % 2 ^ b.1 = b.2.1)
/-- Just one bucket has the end of a number. -/
theorem spl_hit (l : List Int) (m : Nat) (x : Nat) : ∀ f d e, e < 2 ^ d → (spl l m f d e).countP (hit x) = if x % 2 ^ d = e then 1 else 0 := by
  intro f
  induction f with
  | zero => intro d e _; rw [spl]; by_cases h : x % 2 ^ d = e <;> simp [hit, h]
  | succ f ih =>
    intro d e he
    have hp : 2 ^ (d + 1) = 2 * 2 ^ d := by rw [Nat.pow_succ]; omega
    have hn := mod_next x d e he
    rw [spl]
    split
    · by_cases h : x % 2 ^ d = e <;> simp [hit, h]
    · rw [List.countP_append, ih _ _ (by omega), ih _ _ (by omega)]
      have h2 : 0 < 2 ^ d := Nat.two_pow_pos d
      by_cases h : x % 2 ^ (d + 1) = e
      · rw [if_pos h, if_neg (by omega), if_pos (hn.2 (.inl h))]
      · rw [if_neg h]
        by_cases g : x % 2 ^ (d + 1) = e + 2 ^ d
        · rw [if_pos g, if_pos (hn.2 (.inr g))]
        · rw [if_neg g, if_neg (fun q => by rcases hn.1 q with q | q <;> omega)]
end Go.Proofs.YtoaiaindcmihjaaGreatDoor
/-
  Trees: their texts, and what is read of a text.
-/
namespace Go.Proofs.YtoaiaindcmihjaaGreatDoor

/-- A digit. -/
def dgt (n : Nat) : UInt8 := UInt8.ofNat (48 + n)
/-- A number in decimal. -/
def dec (n : Nat) : List UInt8 := if n < 10 then [dgt n] else dec (n / 10) ++ [dgt (n % 10)]
theorem dec_lt {n : Nat} (h : n < 10) : dec n = [dgt n] := by rw [dec, if_pos h]
theorem dec_ge {n : Nat} (h : ¬ n < 10) : dec n = dec (n / 10) ++ [dgt (n % 10)] := by rw [dec, if_neg h]
theorem dec_pos (n : Nat) : 0 < (dec n).length := by
  by_cases h : n < 10
  · rw [dec_lt h]; simp
  · rw [dec_ge h]; simp
theorem dec_two {n : Nat} (h : n < 100) : (dec n).length ≤ 2 := by
  by_cases h1 : n < 10
  · rw [dec_lt h1]; simp
  · rw [dec_ge h1, dec_lt (by omega)]; simp
/-- The text of a tree of the names with one end. -/
def ttr (l : List Int) : Nat → Nat → Nat → List UInt8
  | 0, d, e => match tfl l d e with
    | [] => [46]
    | x :: _ => dec x.toNat
  | f + 1, d, e => match tfl l d e with
    | [] => [46]
    | [x] => dec x.toNat
    | _ :: _ :: _ => [40] ++ ttr l f (d + 1) e ++ [32] ++ ttr l f (d + 1) (e + 2 ^ d) ++ [41]
theorem ttr_none {l : List Int} {d e : Nat} (h : tfl l d e = []) : ∀ f, ttr l f d e = [46] := by
  intro f; cases f <;> rw [ttr, h]
theorem ttr_one {l : List Int} {d e : Nat} {x : Int} (h : tfl l d e = [x]) : ∀ f, ttr l f d e = dec x.toNat := by
  intro f; cases f <;> rw [ttr, h]
theorem ttr_more {l : List Int} {d e f : Nat} (h : 2 ≤ (tfl l d e).length) : ttr l (f + 1) d e = [40] ++ ttr l f (d + 1) e ++ [32] ++ ttr l f (d + 1) (e + 2 ^ d) ++ [41] := by
  rw [ttr]
  match hx : tfl l d e with
  | [] => rw [hx] at h; simp at h
  | [x] => rw [hx] at h; simp at h
  | _ :: _ :: _ => rfl
/-- The three kinds of trees. -/
theorem tfl_cases (l : List Int) (d e : Nat) : tfl l d e = [] ∨ (∃ x, tfl l d e = [x]) ∨ 2 ≤ (tfl l d e).length := by
  match h : tfl l d e with
  | [] => exact .inl rfl
  | [x] => exact .inr (.inl ⟨x, rfl⟩)
  | _ :: _ :: _ => exact .inr (.inr (by simp))
theorem ttr_perm {l l' : List Int} (h : l.Perm l') (hn : l.Nodup) (hr : ∀ x ∈ l, 0 ≤ x ∧ x ≤ 63) : ∀ f d e, f + d = 6 → ttr l f d e = ttr l' f d e := by
  intro f
  induction f with
  | zero =>
    intro d e hf
    obtain rfl : d = 6 := by omega
    have h6 := tfl_six hn hr e
    have hp := tfl_perm h 6 e
    rcases tfl_cases l 6 e with h0 | ⟨x, h1⟩ | h2
    · rw [h0] at hp; rw [ttr_none h0, ttr_none hp.nil_eq.symm]
    · rw [h1] at hp; rw [ttr_one h1, ttr_one (List.perm_singleton.1 hp.symm)]
    · omega
  | succ f ih =>
    intro d e hf
    have hp := tfl_perm h d e
    rcases tfl_cases l d e with h0 | ⟨x, h1⟩ | h2
    · rw [h0] at hp; rw [ttr_none h0, ttr_none hp.nil_eq.symm]
    · rw [h1] at hp; rw [ttr_one h1, ttr_one (List.perm_singleton.1 hp.symm)]
    · rw [ttr_more h2, ttr_more (by rw [← hp.length_eq]; exact h2), ih _ _ (by omega), ih _ _ (by omega)]
theorem ttr_len {l : List Int} (hn : l.Nodup) (hr : ∀ x ∈ l, 0 ≤ x ∧ x ≤ 63) : ∀ f d e, f + d = 6 → e < 2 ^ d → (ttr l f d e).length ≤ 2 + 5 * f * (tfl l d e).length := by
  have one : ∀ f d e, (tfl l d e).length ≤ 1 → (ttr l f d e).length ≤ 2 := by
    intro f d e h
    rcases tfl_cases l d e with h0 | ⟨x, h1⟩ | h2
    · rw [ttr_none h0]; simp
    · rw [ttr_one h1]
      have := (tfl_mem.1 (show x ∈ tfl l d e by rw [h1]; simp)).1
      have := hr x this
      exact dec_two (by omega)
    · omega
  intro f
  induction f with
  | zero =>
    intro d e hf _
    obtain rfl : d = 6 := by omega
    have := one 0 6 e (tfl_six hn hr e)
    omega
  | succ f ih =>
    intro d e hf he
    have hp : 2 ^ (d + 1) = 2 * 2 ^ d := by rw [Nat.pow_succ]; omega
    by_cases h : (tfl l d e).length ≤ 1
    · have := one (f + 1) d e h
      omega
    · rw [ttr_more (by omega)]
      have h1 := ih (d + 1) e (by omega) (by omega)
      have h2 := ih (d + 1) (e + 2 ^ d) (by omega) (by omega)
      have h3 := (tfl_next l d e he).length_eq
      rw [List.length_append] at h3
      simp only [List.length_append, List.length_singleton]
      obtain ⟨A, hA⟩ : ∃ A, A = (tfl l (d + 1) e).length := ⟨_, rfl⟩
      obtain ⟨B, hB⟩ : ∃ B, B = (tfl l (d + 1) (e + 2 ^ d)).length := ⟨_, rfl⟩
      rw [← hA] at h1 h3
      rw [← hB] at h2 h3
      rw [← h3]
      have e1 : 5 * (f + 1) * (A + B) = 5 * f * A + 5 * f * B + 5 * (A + B) := by
        rw [Nat.mul_add, Nat.mul_add, Nat.mul_one, Nat.add_mul, Nat.add_mul, Nat.mul_add]; omega
      omega
/-- The text of a tree, "" for other names. -/
def TXT (l : List Int) : List UInt8 := if VNm l = true then ttr l 6 0 0 else []
theorem TXT_len (l : List Int) : (TXT l).length ≤ 362 := by
  unfold TXT
  split
  · rename_i h
    obtain ⟨h1, h2, h3⟩ := VNm_iff.1 h
    have := ttr_len h3 h2 6 0 0 rfl (by simp)
    rw [tfl_zero] at this
    omega
  · simp
theorem VNm_perm {l l' : List Int} (h : l.Perm l') : VNm l = VNm l' := by
  rw [Bool.eq_iff_iff, VNm_iff, VNm_iff, h.length_eq, h.nodup_iff]
  constructor
  · rintro ⟨h1, h2, h3⟩; exact ⟨h1, fun x hx => h2 x (h.mem_iff.2 hx), h3⟩
  · rintro ⟨h1, h2, h3⟩; exact ⟨h1, fun x hx => h2 x (h.mem_iff.1 hx), h3⟩
theorem TXT_perm {l l' : List Int} (h : l.Perm l') : TXT l = TXT l' := by
  unfold TXT
  rw [← VNm_perm h]
  split
  · rename_i hv
    obtain ⟨h1, h2, h3⟩ := VNm_iff.1 hv
    exact ttr_perm h h3 h2 6 0 0 rfl
  · rfl
theorem ttr_ne (l : List Int) : ∀ f d e, ttr l f d e ≠ [] := by
  intro f d e h
  have hd : ∀ n, dec n ≠ [] := fun n h => by have := dec_pos n; rw [h] at this; simp at this
  rcases tfl_cases l d e with h0 | ⟨x, h1⟩ | h2
  · rw [ttr_none h0] at h; simp at h
  · rw [ttr_one h1] at h; exact hd _ h
  · cases f with
    | zero =>
      rw [ttr] at h
      match hx : tfl l d e with
      | [] => rw [hx] at h2; simp at h2
      | x :: t => rw [hx] at h; exact hd _ h
    | succ f => rw [ttr_more h2] at h; simp at h
theorem TXT_ne {l : List Int} : TXT l ≠ [] ↔ VNm l = true := by
  unfold TXT
  split
  · rename_i h; exact ⟨fun _ => h, fun _ => ttr_ne _ _ _ _⟩
  · rename_i h; simp; simpa using h

/-- Is it a digit? -/
def isD (c : UInt8) : Bool := decide (48 ≤ c.toNat ∧ c.toNat ≤ 57)
/-- The number that a text begins with: it, how many digits it has, and what is behind it. -/
def rdn (n k : Nat) : List UInt8 → Nat × Nat × List UInt8
  | [] => (n, k, [])
  | c :: s => if isD c = true ∧ n < 1000 then rdn (10 * n + (c.toNat - 48)) (k + 1) s else (n, k, c :: s)
/-- The names of a text of a tree, and what is behind it. -/
def rd : Nat → List UInt8 → Option (List Int × List UInt8)
  | 0, _ => none
  | _ + 1, [] => none
  | f + 1, c :: s =>
    if c = 46 then some ([], s)
    else if c = 40 then
      match rd f s with
      | some (a, c1 :: r) => if c1 = 32 then
          match rd f r with
          | some (b, c2 :: m) => if c2 = 41 then some (a ++ b, m) else none
          | _ => none
        else none
      | _ => none
    else match rdn 0 0 (c :: s) with
      | (n, k, r) => if k = 0 then none else some ([(n : Int)], r)
/-- No digit stands there. -/
def nod (s : List UInt8) : Prop := ∀ c t, s = c :: t → isD c = false
theorem dgt_toNat {n : Nat} (h : n < 10) : (dgt n).toNat = 48 + n := by
  unfold dgt; rw [UInt8.toNat_ofNat']; omega
theorem isD_dgt {n : Nat} (h : n < 10) : isD (dgt n) = true := by
  unfold isD; rw [dgt_toNat h]; simp; omega
theorem rdn_stop {n k : Nat} {s : List UInt8} (h : nod s) : rdn n k s = (n, k, s) := by
  cases s with
  | nil => rfl
  | cons c t => rw [rdn, h c t rfl]; simp
theorem rdn_dec {n : Nat} (h : n < 100) {s : List UInt8} (hs : nod s) : rdn 0 0 (dec n ++ s) = (n, (dec n).length, s) := by
  by_cases h1 : n < 10
  · rw [dec_lt h1, List.singleton_append, rdn, isD_dgt h1, if_pos ⟨rfl, by omega⟩, rdn_stop hs, dgt_toNat h1]
    simp
  · have h2 : n / 10 < 10 := by omega
    have h3 : n % 10 < 10 := by omega
    rw [dec_ge h1, dec_lt h2, List.append_assoc, List.singleton_append, List.singleton_append, rdn, isD_dgt h2, if_pos ⟨rfl, by omega⟩, rdn, isD_dgt h3, dgt_toNat h2, if_pos ⟨rfl, by omega⟩, rdn_stop hs, dgt_toNat h3]
    simp
    omega
theorem dec_head (n : Nat) : ∃ m t, m < 10 ∧ dec n = dgt m :: t := by
  induction n using Nat.strongRecOn with
  | ind n ih =>
    by_cases h : n < 10
    · exact ⟨n, [], h, dec_lt h⟩
    · obtain ⟨m, t, h1, h2⟩ := ih (n / 10) (by omega)
      exact ⟨m, t ++ [dgt (n % 10)], h1, by rw [dec_ge h, h2]; rfl⟩
theorem rd_dec {n f : Nat} (h : n < 100) {s : List UInt8} (hs : nod s) : rd (f + 1) (dec n ++ s) = some ([(n : Int)], s) := by
  have e := rdn_dec h hs
  obtain ⟨m, t, h1, h2⟩ := dec_head n
  have hp := dec_pos n
  rw [h2] at e hp ⊢
  have hd := dgt_toNat h1
  rw [List.cons_append] at e ⊢
  rw [rd, if_neg (fun h => by rw [h] at hd; have : (46 : UInt8).toNat = 46 := rfl; omega), if_neg (fun h => by rw [h] at hd; have : (40 : UInt8).toNat = 40 := rfl; omega), e]
  simp only
  rw [if_neg (by omega)]
/-- The names in the order of the tree. -/
def lvs (l : List Int) : Nat → Nat → Nat → List Int
  | 0, d, e => tfl l d e
  | f + 1, d, e => if (tfl l d e).length ≤ 1 then tfl l d e else lvs l f (d + 1) e ++ lvs l f (d + 1) (e + 2 ^ d)
theorem lvs_perm (l : List Int) : ∀ f d e, e < 2 ^ d → (lvs l f d e).Perm (tfl l d e) := by
  intro f
  induction f with
  | zero => intro d e _; rw [lvs]
  | succ f ih =>
    intro d e he
    have hp : 2 ^ (d + 1) = 2 * 2 ^ d := by rw [Nat.pow_succ]; omega
    rw [lvs]
    split
    · exact List.Perm.refl _
    · exact ((ih (d + 1) e (by omega)).append (ih (d + 1) (e + 2 ^ d) (by omega))).trans (tfl_next l d e he)
theorem nod_cons {c : UInt8} {s : List UInt8} (h : isD c = false) : nod (c :: s) := by
  intro c' t e; injection e with e1 _; rw [← e1]; exact h
/-- What is written is read. -/
theorem rd_ttr {l : List Int} (hn : l.Nodup) (hr : ∀ x ∈ l, 0 ≤ x ∧ x ≤ 63) : ∀ f d e g s, f + d = 6 → e < 2 ^ d → nod s → (ttr l f d e).length < g → rd g (ttr l f d e ++ s) = some (lvs l f d e, s) := by
  have one : ∀ f d e g s, (tfl l d e).length ≤ 1 → nod s → 0 < g → rd g (ttr l f d e ++ s) = some (tfl l d e, s) := by
    intro f d e g s h hs hg
    obtain ⟨g, rfl⟩ : ∃ g', g = g' + 1 := ⟨g - 1, by omega⟩
    rcases tfl_cases l d e with h0 | ⟨x, h1⟩ | h2
    · rw [ttr_none h0, h0, List.singleton_append, rd, if_pos rfl]
    · have := hr x (tfl_mem.1 (show x ∈ tfl l d e by rw [h1]; simp)).1
      rw [ttr_one h1, h1, rd_dec (by omega) hs, show ((x.toNat : Nat) : Int) = x by omega]
    · omega
  intro f
  induction f with
  | zero =>
    intro d e g s hf he hs hg
    obtain rfl : d = 6 := by omega
    exact one 0 6 e g s (tfl_six hn hr e) hs (by omega)
  | succ f ih =>
    intro d e g s hf he hs hg
    have hp : 2 ^ (d + 1) = 2 * 2 ^ d := by rw [Nat.pow_succ]; omega
    by_cases h : (tfl l d e).length ≤ 1
    · rw [lvs, if_pos h]; exact one (f + 1) d e g s h hs (by omega)
    · rw [ttr_more (by omega)] at hg
      simp only [List.length_append, List.length_singleton] at hg
      rw [lvs, if_neg h, ttr_more (by omega)]
      obtain ⟨g, rfl⟩ : ∃ g', g = g' + 1 := ⟨g - 1, by omega⟩
      have e1 : [40] ++ ttr l f (d + 1) e ++ [32] ++ ttr l f (d + 1) (e + 2 ^ d) ++ [41] ++ s = 40 :: (ttr l f (d + 1) e ++ 32 :: (ttr l f (d + 1) (e + 2 ^ d) ++ 41 :: s)) := by simp
      rw [e1, rd, if_neg (by decide), if_pos rfl, ih (d + 1) e g _ (by omega) (by omega) (nod_cons (by decide)) (by omega)]
      simp only
      rw [if_pos trivial, ih (d + 1) (e + 2 ^ d) g _ (by omega) (by omega) (nod_cons (by decide)) (by omega)]
      simp
/-- The names of a text, ascending. -/
def RT (s : List UInt8) : Option (List Int) :=
  if s.length ≤ 400 then
    match rd (s.length + 1) s with
    | some (l, []) => if TXT l = s then some (srt l) else none
    | _ => none
  else none
theorem nod_nil : nod [] := by intro c t e; cases e
theorem RT_TXT {l : List Int} (h : VNm l = true) : RT (TXT l) = some (srt l) := by
  obtain ⟨h1, h2, h3⟩ := VNm_iff.1 h
  have hl := TXT_len l
  have e : TXT l = ttr l 6 0 0 := if_pos h
  have hr := rd_ttr h3 h2 6 0 0 ((TXT l).length + 1) [] rfl (by simp) nod_nil (by rw [e]; omega)
  rw [List.append_nil, ← e] at hr
  unfold RT
  rw [if_pos (by omega), hr]
  have hp : (lvs l 6 0 0).Perm l := by have := lvs_perm l 6 0 0 (by simp); rwa [tfl_zero] at this
  simp only
  rw [if_pos (TXT_perm hp), srt_congr hp]
theorem RT_some {s : List UInt8} {R : List Int} (hs : s ≠ []) (h : RT s = some R) : VNm R = true ∧ R.Pairwise (· ≤ ·) ∧ TXT R = s := by
  unfold RT at h
  split at h
  · split at h
    · split at h
      · rename_i l _ e
        injection h with h
        subst h
        have hp := srt_perm l
        have e2 : TXT (srt l) = s := by rw [TXT_perm hp, e]
        refine ⟨TXT_ne.1 (by rw [e2]; exact hs), srt_sorted l, e2⟩
      · cases h
    · cases h
  · cases h
theorem RT_nil : RT [] = none := by unfold RT; rfl
/-- The names of a text are those whose text it is. -/
theorem RT_iff {s : List UInt8} {R : List Int} : RT s = some R ↔ VNm R = true ∧ R.Pairwise (· ≤ ·) ∧ TXT R = s := by
  constructor
  · intro h
    refine RT_some (fun e => ?_) h
    rw [e, RT_nil] at h; cases h
  · rintro ⟨h1, h2, rfl⟩
    rw [RT_TXT h1, srt_id h2]
theorem RT_none {s : List UInt8} (h : ∀ l, VNm l = true → TXT l ≠ s) : RT s = none := by
  cases e : RT s with
  | none => rfl
  | some R => obtain ⟨h1, _, h3⟩ := RT_iff.1 e; exact absurd h3 (h R h1)
/-- The law of ReadTree: the names ascend. -/
theorem RT_asc {s : List UInt8} {R : List Int} (h : RT s = some R) : R.Pairwise (· < ·) := by
  obtain ⟨h1, h2, _⟩ := RT_iff.1 h
  have hn := (VNm_iff.1 h1).2.2
  exact (List.pairwise_and_iff.2 ⟨h2, hn⟩).imp (fun ⟨a, b⟩ => by omega)
end Go.Proofs.YtoaiaindcmihjaaGreatDoor
/-
  Names: spec.validNames.
-/
namespace Go.Proofs.YtoaiaindcmihjaaGreatDoor
open Go.RowKit

/-- The first k keys are different ones. -/
def VNp (l : List Int) (k : Nat) : Prop := ∀ i, i < k → (0 ≤ l.getD i 0 ∧ l.getD i 0 ≤ 63) ∧ l.getD i 0 ∉ l.take i
theorem VNp.succ {l : List Int} {k : Nat} (h : VNp l k) (h1 : 0 ≤ l.getD k 0 ∧ l.getD k 0 ≤ 63) (h2 : l.getD k 0 ∉ l.take k) : VNp l (k + 1) := by
  intro i hi
  by_cases e : i = k
  · subst e; exact ⟨h1, h2⟩
  · exact h i (by omega)
theorem take_snocN {l : List Int} {k : Nat} (h : k < l.length) : l.take (k + 1) = l.take k ++ [l.getD k 0] := by
  rw [List.take_succ_eq_append_getElem h]; simp [List.getD, h]
theorem VNp.nodup {l : List Int} : ∀ k, k ≤ l.length → VNp l k → (l.take k).Nodup ∧ ∀ x ∈ l.take k, 0 ≤ x ∧ x ≤ 63 := by
  intro k
  induction k with
  | zero => intro _ _; simp
  | succ k ih =>
    intro hk h
    obtain ⟨i1, i2⟩ := ih (by omega) (fun i hi => h i (by omega))
    obtain ⟨h1, h2⟩ := h k (by omega)
    rw [take_snocN (by omega)]
    refine ⟨?_, ?_⟩
    · rw [List.nodup_append]
      refine ⟨i1, by simp, fun x hx y hy => ?_⟩
      simp only [List.mem_singleton] at hy
      rintro rfl
      exact h2 (hy ▸ hx)
    · intro x hx
      rcases List.mem_append.1 hx with hx | hx
      · exact i2 x hx
      · simp only [List.mem_singleton] at hx; subst hx; exact h1
theorem VNm_end {l : List Int} (h : VNp l l.length) : VNm l = decide (l.length ≤ 12) := by
  obtain ⟨h1, h2⟩ := VNp.nodup l.length (Nat.le_refl _) h
  rw [List.take_length] at h1 h2
  rw [Bool.eq_iff_iff, VNm_iff, decide_eq_true_eq]
  exact ⟨fun h => h.1, fun h => ⟨h, h2, h1⟩⟩
theorem VNm_bad1 {l : List Int} {k : Nat} (hk : k < l.length) (h : ¬ (0 ≤ l.getD k 0 ∧ l.getD k 0 ≤ 63)) : VNm l = false := by
  rw [← Bool.not_eq_true, VNm_iff]
  rintro ⟨_, h2, _⟩
  exact h (h2 _ (getD_mem hk))
theorem VNm_bad2 {l : List Int} {k : Nat} (hk : k < l.length) (h : l.getD k 0 ∈ l.take k) : VNm l = false := by
  rw [← Bool.not_eq_true, VNm_iff]
  rintro ⟨_, _, h3⟩
  have h4 : (l.take (k + 1)).Nodup := h3.sublist (List.take_sublist _ _)
  rw [take_snocN hk, List.nodup_append] at h4
  exact h4.2.2 _ h _ (by simp) rfl

set_option maxHeartbeats 4000000 in
theorem specvalidNames_any (a : Option Addr) (l : List Int) (cap : Nat) (w : World) (hr : Reads w a l) (hl : l.length ≤ 1048586) (hcap : l.length ≤ cap) :
    Calls Tryz.prog 33 #[.slice a l.length cap] w fun e w' => e = .returned (.bool (VNm l)) ∧ ∃ n, w' = w.drewN n := by
  go_enter Tryz.func33, Tryz.ntmps33
  go_wp2
  have D0 := Lib.hid (fun n => pow6_any (w.drewN n))
  go_loopw [3] (fun i wr => ∃ k n : Nat, k ≤ l.length ∧ i = .int .i64 k ∧ Hid (VNp l k) ∧ wr = w.drewN n) (fun i _ => l.length - (intOf i).toNat)
  case atStart => exact ⟨0, 0, Nat.zero_le _, rfl, fun j hj => by omega, rfl⟩
  case round =>
    obtain ⟨k, n, hk, rfl, hf, rfl⟩ := hrel
    by_cases hlt : k < l.length
    · obtain ⟨b, off, y, rfl, hb, hcell, hy⟩ := hr.get hlt
      by_cases g1 : inR y 0 63 = true
      · have c1 : ∀ wx, Calls Tryz.prog 58 #[.int .i64 y, .int .i64 0, .int .i64 63] wx fun e w' => e = .returned (.bool true) ∧ wx = w' := fun wx => by
          have := inRange_any y 0 63 wx; rwa [g1] at this
        have D1 := Lib.hid (fun n => c1 (w.drewN n))
        have ht := hr.take' k
        have hk1 : (k : Int) ≤ (cap : Int) := by omega
        have hk2 : (k : Int) < (l.length : Int) := by omega
        have hk3 : (0 : Int) ≤ (k : Int) := by omega
        by_cases g2 : inL (l.take k) y = true
        · have c2 : ∀ wx, Reads wx (some ⟨b, off, none⟩) (l.take k) → Calls Tryz.prog 51 #[.slice (some ⟨b, off, none⟩) k cap, .int .i64 y] wx fun e w' => e = .returned (.bool true) ∧ wx = w' := fun wx h => by
            have := has_any (some ⟨b, off, none⟩) (l.take k) k cap y wx h (by rw [List.length_take]; omega) (by omega)
            rwa [g2] at this
          have D2 := Lib.hid (fun n => c2 (w.drewN n) ht)
          have HB := Lib.hid (VNm_bad2 hlt (by rw [hy.out]; simpa [inL] using g2))
          clear c1 c2 g1 g2
          go_wp2_with fail
          go_quiet ((with_reducible first | (go_at_call 59; exact quiet_lf (D0.out _)) | (go_at_call 58; exact quiet_lf (D1.out _)) | (go_at_call 51; exact quiet_lf (D2.out _))))
          all_goals
            go_wp2
            go_ret
            exact ⟨ret_bool HB.out.symm, _, World.drewN_drewN _ _ _⟩
        · have g2' : inL (l.take k) y = false := by simpa using g2
          have c2 : ∀ wx, Reads wx (some ⟨b, off, none⟩) (l.take k) → Calls Tryz.prog 51 #[.slice (some ⟨b, off, none⟩) k cap, .int .i64 y] wx fun e w' => e = .returned (.bool false) ∧ wx = w' := fun wx h => by
            have := has_any (some ⟨b, off, none⟩) (l.take k) k cap y wx h (by rw [List.length_take]; omega) (by omega)
            rwa [g2'] at this
          have D2 := Lib.hid (fun n => c2 (w.drewN n) ht)
          have HB := Lib.hid (hf.out.succ (by rw [hy.out]; exact inR_iff.1 g1) (by rw [hy.out]; simpa [inL] using g2))
          clear c1 c2 g1 g2 g2'
          go_wp2_with fail
          go_quiet ((with_reducible first | (go_at_call 59; exact quiet_lf (D0.out _)) | (go_at_call 58; exact quiet_lf (D1.out _)) | (go_at_call 51; exact quiet_lf (D2.out _))))
          all_goals
            go_wp2
            go_roundw
            case rel => exact ⟨k + 1, _, by omega, by go_num, HB, rfl⟩
            case measure => simp [intOf]; omega
      · have g1' : inR y 0 63 = false := by simpa using g1
        have c1 : ∀ wx, Calls Tryz.prog 58 #[.int .i64 y, .int .i64 0, .int .i64 63] wx fun e w' => e = .returned (.bool false) ∧ wx = w' := fun wx => by
          have := inRange_any y 0 63 wx; rwa [g1'] at this
        have D1 := Lib.hid (fun n => c1 (w.drewN n))
        have HB := Lib.hid (VNm_bad1 hlt (by rw [hy.out]; exact fun h => g1 (inR_iff.2 h)))
        have hk1 : (k : Int) ≤ (cap : Int) := by omega
        have hk2 : (k : Int) < (l.length : Int) := by omega
        have hk3 : (0 : Int) ≤ (k : Int) := by omega
        clear c1 g1 g1'
        go_wp2_with fail
        go_quiet ((with_reducible first | (go_at_call 59; exact quiet_lf (D0.out _)) | (go_at_call 58; exact quiet_lf (D1.out _))))
        all_goals
          go_wp2
          go_ret
          exact ⟨ret_bool HB.out.symm, _, World.drewN_drewN _ _ _⟩
    · obtain rfl : k = l.length := by omega
      have HB := Lib.hid (VNm_end hf.out)
      go_wp2
      go_ret
      exact ⟨ret_bool (by rw [HB.out]; simp; omega), _, rfl⟩

end Go.Proofs.YtoaiaindcmihjaaGreatDoor
/-
  spec.LineOf, LineMoves.
-/
namespace Go.Proofs.YtoaiaindcmihjaaGreatDoor
open Go.RowKit

theorem pow_tail (x d : Nat) (w : World) (hd : d ≤ 40) (hx : x ≤ 1000000) : Calls Tryz.prog 60 #[.int .i64 (x : Int), .int .i64 (d : Int)] w fun e w' => e = .returned (.int .i64 ((x % 2 ^ d : Nat) : Int)) ∧ w = w' := by
  have c := pow_any d w hd
  have hs := powS hd
  have hp := Nat.two_pow_pos d
  obtain ⟨P, hP⟩ : ∃ P, P = 2 ^ d := ⟨_, rfl⟩
  rw [← hP] at c hs hp ⊢
  have hP0 : ¬ P = 0 := by omega
  have hPi : ((P : Int) == 0) = false := by simp; omega
  obtain ⟨r, hr⟩ : ∃ r, r = x % P := ⟨_, rfl⟩
  have e2 : (x : Int).tmod (P : Int) = (r : Int) := by rw [hr, Int.tmod_eq_emod_of_nonneg (by omega)]; omega
  rw [← hr]
  have C := Lib.hid c
  clear c hP hr
  go_enter Tryz.func60, Tryz.ntmps60
  go_wp2_with fail
  refine C.out.mono ?_
  rintro e w' ⟨rfl, rfl⟩
  go_wp2
  go_ret
  exact ⟨rfl, rfl⟩
end Go.Proofs.YtoaiaindcmihjaaGreatDoor
/-
  spec.LineOf, LineMoves.
-/
namespace Go.Proofs.YtoaiaindcmihjaaGreatDoor
open Go.RowKit

theorem in63 {x : Int} : inR x 0 63 = true ↔ 0 ≤ x ∧ x ≤ 63 := inR_iff
/-- The names that move, for a table and names. -/
def lmv (c : Nat) (l : List Int) : List Int := l.filter (fun x => decide (lno c x.toNat ≠ lno (c + 1) x.toNat))
theorem lmv_take {c : Nat} {l : List Int} {i : Nat} (h : i < l.length) : lmv c (l.take (i + 1)) = lmv c (l.take i) ++ if lno c (l.getD i 0).toNat ≠ lno (c + 1) (l.getD i 0).toNat then [l.getD i 0] else [] := by
  rw [take_snocN h]
  unfold lmv
  rw [List.filter_append]
  by_cases g : lno c (l.getD i 0).toNat ≠ lno (c + 1) (l.getD i 0).toNat
  · rw [if_pos g, List.filter_cons_of_pos (by rw [decide_eq_true g]), List.filter_nil]
  · rw [if_neg g, List.filter_cons_of_neg (by rw [decide_eq_false g]; simp), List.filter_nil]
theorem LMV_is {c : Nat} {l : List Int} (h : VLm (c : Int) l) : LMV c l = lmv c l := by
  unfold LMV lmv
  rw [if_pos h]
  refine List.filter_congr fun x hx => ?_
  have hr := (VNm_iff.1 h.2).2.1 x hx
  have hc := h.1
  rw [LNO_some ⟨⟨by omega, by omega⟩, hr⟩, LNO_some ⟨⟨by omega, by omega⟩, hr⟩, show ((c : Int) + 1).toNat = c + 1 by omega, Int.toNat_natCast]
  exact decide_eq_decide.2 (by omega)
theorem lmv_len (c : Nat) (l : List Int) : (lmv c l).length ≤ l.length := List.length_filter_le _ _
end Go.Proofs.YtoaiaindcmihjaaGreatDoor
/-
  'append(a, b...)' of two slices of numbers, in any region.
-/
namespace Go.Proofs.YtoaiaindcmihjaaGreatDoor
open Go.RowKit

theorem run_append_none (w : World) (ty : TypeId) (g n cap c : Nat) (ax : Option Addr) (h : n ≤ cap) :
    (Builtin.append_ #[23, 23] ty #[.slice (some ⟨g, 0, none⟩) n cap, .slice ax 0 c]).run Tryz.prog w = .ok (.slice (some ⟨g, 0, none⟩) n cap) w := by
  obtain ⟨i0, hi, hz0, hz1, hz2⟩ := info_parts infoInt
  cases ax <;> simp [Builtin.append_, run_underlying Tryz.underlying23, sizeOf, typeInfo, hi, Builtin.lenOf, h, Builtin.firstCells, loadCells, loadCellsFrom, storeCells]
theorem run_append_none2 (w : World) (ty : TypeId) (v : Value) (base c : Nat) (L : List Int) (ax : Option Addr) (h : Own w base v L) :
    (Builtin.append_ #[23, 23] ty #[v, .slice ax 0 c]).run Tryz.prog w = .ok v w := by
  obtain ⟨i0, hi, hz0, hz1, hz2⟩ := info_parts infoInt
  rcases h.2 with ⟨rfl, _⟩ | ⟨g, cap, cur, rfl, _, _, hnc, _⟩
  · cases ax <;> simp [Builtin.append_, run_underlying Tryz.underlying23, sizeOf, typeInfo, hi, Builtin.lenOf, Builtin.firstCells, loadCells, loadCellsFrom]
  · exact run_append_none w ty g L.length cap c ax hnc
theorem step_all {wr : World} {ops : Array Oper} {o : Oper} {a : Act} {K : Act → World → Prop} {Q : Exit → Act → World → Prop} {E : Prop} (hgd : o.guard = none) (s x : Operand)
    (ho : o.op = .call { callee := .builtin .append, args := #[s, x], argTypes := #[23, 23] })
    (base : Nat) (v : Value) (L : List Int) (hs : a.eval s = v) (hown : Own wr base v L) (hb : base ≤ wr.heap.size)
    (ax : Option Addr) (l : List Int) (n cap : Nat) (hn : l.length = n) (hx : a.eval x = .slice ax n cap) (hr : Reads wr ax l) (hl : n < 2000000) (hL : L.length < 2000000)
    (h : ∀ v' w', Own w' base v' (L ++ l) → wr.grownBy w' v.ownBlock → K (a.put o.dst v') w') :
    if Region.wanted o (yielded ops a.tmps) = true then Oper.wp Tryz.prog o a wr K Q else E := by
  have hw : Region.wanted o (yielded ops a.tmps) = true := by simp [Region.wanted, hgd]
  rw [if_pos hw]
  by_cases h0 : n = 0
  · subst h0
    have hl0 : l = [] := List.eq_nil_of_length_eq_zero hn
    subst hl0
    unfold Oper.wp execOp
    simp only [ho, resolve, invoke, builtin, Sem.run_bind, Sem.run_pure, Result.andThen_ok, List.map_toArray, List.map_cons, List.map_nil, hs, hx, run_append_none2 _ _ _ _ _ _ _ hown]
    exact h v wr (by rw [List.append_nil]; exact hown) ⟨rfl, rfl, rfl, Nat.le_refl _, fun _ _ _ => rfl⟩
  · obtain ⟨i0, hi, hz0, hz1, hz2⟩ := info_parts infoInt
    subst hn
    rcases hr with rfl | ⟨b, off, rfl, hb2, hc⟩
    · simp at h0
    refine wp_append_own wr s x 23 ho base 3 i0 (.int .i64 0) 1 8 Tryz.underlying23 hi hz0 hz1 hz2 rfl (by decide) v L.length _ hs hown ⟨b, off, none⟩ l.length cap (l.map (Value.int .i64)) hx (by simp) ?c1 (ints_oneCell _ _) ?c3 ?c4 hb fun v' w' h1 h2 _ => h v' w' ?_ h2
    case c1 =>
      intro j u hu
      have hj : j < l.length := by simpa using (List.getElem?_eq_some_iff.1 hu).1
      rw [getD_map hj] at hu
      obtain rfl := Option.some.inj hu
      rw [Addr.add_lit]
      exact hc j hj
    case c3 => unfold maxLen; omega
    case c4 => omega
    · unfold Own
      rw [List.length_append, List.map_append]
      exact h1
theorem Reads.drop' {w : World} {b off : Nat} {l : List Int} (h : Reads w (some ⟨b, off, none⟩) l) (k : Nat) : Reads w (some ⟨b, off + k, none⟩) (l.drop k) := by
  rcases h with rfl | ⟨b', off', e, hb, hc⟩
  · exact .inl (by simp)
  · cases e
    refine .inr ⟨b, off + k, rfl, hb, fun i hi => ?_⟩
    rw [List.length_drop] at hi
    have := hc (k + i) (by omega)
    rw [← Nat.add_assoc] at this
    rw [this]
    simp [List.getD]

theorem push_allM {wr : World} {ops : Array Oper} {rest : List Oper} {o : Oper} {a : Act} {Q : Exit → Act → World → Prop} (hgd : o.guard = none) (s x : Operand)
    (ho : o.op = .call { callee := .builtin .append, args := #[s, x], argTypes := #[23, 23] })
    (base : Nat) (v : Value) (L : List Int) (hs : a.eval s = v) (hown : Own wr base v L) (hb : base ≤ wr.heap.size)
    (ax : Option Addr) (l : List Int) (n cap : Nat) (hn : l.length = n) (hx : a.eval x = .slice ax n cap) (hr : Reads wr ax l) (h0 : n ≠ 0) (hl : n < 2000000) (hL : L.length < 2000000)
    (h : ∀ v' w', Own w' base v' (L ++ l) → wr.grownBy w' v.ownBlock → wpList Tryz.prog ops Q rest (a.put o.dst v') w') :
    wpList Tryz.prog ops Q (o :: rest) a wr := by
  obtain ⟨i0, hi, hz0, hz1, hz2⟩ := info_parts infoInt
  subst hn
  rcases hr with rfl | ⟨b, off, rfl, hb2, hc⟩
  · simp at h0
  refine wpList_append_own _ hgd s x 23 ho base 3 i0 (.int .i64 0) 1 8 Tryz.underlying23 hi hz0 hz1 hz2 rfl (by decide) _ L.length _ hs hown ⟨b, off, none⟩ l.length cap (l.map (Value.int .i64)) hx (by simp) ?c1 (ints_oneCell _ _) ?c3 ?c4 hb fun v' w' h1 h2 _ => h v' w' ?_ h2
  case c1 =>
    intro j u hu
    have hj : j < l.length := by simpa using (List.getElem?_eq_some_iff.1 hu).1
    rw [getD_map hj] at hu
    obtain rfl := Option.some.inj hu
    rw [Addr.add_lit]
    exact hc j hj
  case c3 => unfold maxLen; omega
  case c4 => omega
  · unfold Own
    rw [List.length_append, List.map_append]
    exact h1

theorem push_allN {wr : World} {ops : Array Oper} {rest : List Oper} {o : Oper} {a : Act} {Q : Exit → Act → World → Prop} (hgd : o.guard = none) (s x : Operand)
    (ho : o.op = .call { callee := .builtin .append, args := #[s, x], argTypes := #[23, 23] })
    (base : Nat) (v : Value) (L : List Int) (hs : a.eval s = v) (hown : Own wr base v L) (hb : base ≤ wr.heap.size)
    (ax : Option Addr) (l : List Int) (n cap : Nat) (hn : l.length = n) (hx : a.eval x = .slice ax n cap) (hr : Reads wr ax l) (hl : n < 2000000) (hL : L.length < 2000000)
    (h : ∀ v' w', Own w' base v' (L ++ l) → wr.grownBy w' v.ownBlock → wpList Tryz.prog ops Q rest (a.put o.dst v') w') :
    wpList Tryz.prog ops Q (o :: rest) a wr := by
  by_cases h0 : n = 0
  · subst h0
    have hl0 : l = [] := List.eq_nil_of_length_eq_zero hn
    subst hl0
    refine wpList_plain hgd fun _ hK => ?_
    unfold Oper.wp execOp
    simp only [ho, resolve, invoke, builtin, Sem.run_bind, Sem.run_pure, Result.andThen_ok, List.map_toArray, List.map_cons, List.map_nil, hs, hx, run_append_none2 _ _ _ _ _ _ _ hown]
    exact hK _ _ (h v wr (by rw [List.append_nil]; exact hown) ⟨rfl, rfl, rfl, Nat.le_refl _, fun _ _ _ => rfl⟩)
  · exact push_allM hgd s x ho base v L hs hown hb ax l n cap hn hx hr h0 hl hL h
/-- What is held of the call's own reads as its list. -/
theorem Own.facts {w : World} {base n cap : Nat} {a : Option Addr} {l : List Int} (h : Own w base (.slice a n cap) l) : l.length = n ∧ n ≤ cap ∧ cap ≤ maxLen ∧ Reads w a l := by
  obtain ⟨a', c', e, h1, h2, h3, _⟩ := h.form
  injection e with e1 e2 e3
  subst e1; subst e3
  exact ⟨e2.symm, by omega, h3, h1⟩
theorem Own.lit (w : World) (base : Nat) (hb : base ≤ w.heap.size) (x : Int) : Own (w.alloc (.cells #[.int .i64 x] 3)) base (.slice (some ⟨w.heap.size, 0, none⟩) 1 1) [x] :=
  World.ownsRow_lit w #[.int .i64 x] 1 hb (by unfold maxLen; omega) rfl
theorem grownBy_belowS {a b c : World} {row : Option Nat} (h : a.grownBy b row) (k : Below b.heap.size b c) : a.grownBy c row :=
  ⟨k.os.trans h.os, k.tape.trans h.tape, k.output.trans h.output, Nat.le_trans h.size k.size, fun i hi hne => (k.block i (Nat.lt_of_lt_of_le hi h.size)).trans (h.block i hi hne)⟩
end Go.Proofs.YtoaiaindcmihjaaGreatDoor
/-
  spec.sortInts.
-/
namespace Go.Proofs.YtoaiaindcmihjaaGreatDoor
open Go.RowKit

set_option maxHeartbeats 16000000 in
theorem sortInts_any (a : Option Addr) (l : List Int) (cap : Nat) (w : World) (hr : Reads w a l) (hl : l.length ≤ 1000000) :
    Calls Tryz.prog 40 #[.slice a l.length cap] w fun e w' => ∃ v, e = .returned v ∧ Own w' w.heap.size v (srt l) ∧ Below w.heap.size w w' := by
  have ho1 := Own.lit0 w w.heap.size (Nat.le_refl _)
  have hB1 := (Below.refl w.heap.size w).alloc (Nat.le_refl _) (.cells #[] 3)
  obtain ⟨M, hM⟩ : ∃ M, M = l.length := ⟨_, rfl⟩
  have HM := Lib.hid hM
  rw [← hM] at hl ⊢
  clear hM
  go_enter Tryz.func40, Tryz.ntmps40
  go_wp2
  go_loopw [3, 4] (fun v iv wr => ∃ (i G C : Nat) (R : List Int), i ≤ M ∧ iv = .int .i64 (i : Int) ∧ v = .slice (some ⟨G, 0, none⟩) i C ∧ Hid (SOf l i R) ∧ Own wr w.heap.size (.slice (some ⟨G, 0, none⟩) i C) R ∧ Below w.heap.size w wr) (fun _ iv _ => M - (intOf iv).toNat)
  case atStart => exact ⟨0, w.heap.size, 0, [], by omega, rfl, rfl, SOf.zero l, ho1, hB1⟩
  case round =>
    clear ho1 hB1
    rename World => wo
    obtain ⟨i, G, C, R, hi, rfl, rfl, hs, ho, hB⟩ := hrel
    have hz := hB.size
    by_cases hlt : i < M
    · have hi1 : (i : Int) < (M : Int) := by omega
      obtain ⟨b, off, y, rfl, hb, hc0, hy⟩ := hr.get (k := i) (by have := HM.out; omega)
      have hcell : wo.cell? ⟨b, off + i, none⟩ = some (.int .i64 y) := (hB.cell (by exact hb)).trans hc0
      have hbw : b < wo.heap.size := by omega
      clear hc0
      have HO := Lib.hid ho
      clear ho
      go_wp2
      go_loopw [5] (fun kv wr => ∃ k m : Nat, k ≤ i ∧ kv = .int .i64 (k : Int) ∧ Hid (∀ j, j < k → R.getD j 0 < y) ∧ wr = wo.drewN m) (fun kv _ => i - (intOf kv).toNat)
      case atStart => exact ⟨0, 0, by omega, rfl, (fun j hj => by omega), rfl⟩
      case round =>
        obtain ⟨k, m, hk, rfl, hjs, rfl⟩ := hrel
        obtain ⟨hRl, hic, hcm, hrd⟩ := HO.out.facts
        unfold maxLen at hcm
        by_cases hki : k < i
        · have hki1 : (k : Int) < (i : Int) := by omega
          obtain ⟨b2, off2, z, eG, _, hcz, hzz⟩ := hrd.get (k := k) (by omega)
          injection eG with eG
          injection eG with eG eO _
          subst eG
          subst eO
          rw [Nat.zero_add] at hcz
          by_cases hzy : z < y
          · clear hRl hrd hic
            have HJ : Hid (∀ j, j < k + 1 → R.getD j 0 < y) := fun j hj => by
              by_cases e : j = k
              · subst e; rw [hzz.out]; exact hzy
              · exact hjs.out j (by omega)
            go_wp2_with fail
            go_quiet (fail)
            all_goals
              go_wp2
              go_roundw
              case rel => exact ⟨k + 1, _, by omega, by go_num, HJ, rfl⟩
              case measure => simp [intOf]; omega
          · have HS0 := SOf.next (k := k) hs.out (by have := HM.out; omega) (by omega) (fun j hj => by rw [hy.out]; have := hjs.out j hj; omega) (fun _ => by rw [hy.out, hzz.out]; omega)
            rw [hy.out] at HS0
            have HS : Hid (SOf l (i + 1) (R.take k ++ [y] ++ R.drop k)) := HS0
            have HLL : Hid ((R.take k ++ [y] ++ R.drop k).length = i + 1) := HS0.len (by have := HM.out; omega)
            have ki1 : (k : Int) ≤ (C : Int) := by omega
            have ki2 : (k : Int) ≤ (i : Int) := by omega
            have hjc : ¬ C = k := by omega
            clear HS0
            go_wp2_with fail
            go_quiet (fail)
            all_goals
              have hoD := HO.out.below (Go.below_drewN (Go.below_drewN (Below.refl _ _) m) nq)
              have hBD := Go.below_drewN (Go.below_drewN hB m) nq
              have hcD : ((wo.drewN m).drewN nq).cell? ⟨b, off + i, none⟩ = some (.int .i64 y) := hcell
              have hbD : b < ((wo.drewN m).drewN nq).heap.size := hbw
              have hzD : w.heap.size ≤ ((wo.drewN m).drewN nq).heap.size := hz
              revert hoD hBD hcD hbD hzD
              generalize (wo.drewN m).drewN nq = w1
              clear HO hB hcell hbw hz
              intro hoD hB hcell hbw hz
              have hrd := hoD.facts.2.2.2
              have hRl := hoD.facts.1
              clear hoD
              have ht := hrd.take' k
              have hd := hrd.drop' k
              rw [Nat.zero_add] at hd
              have HTL : Hid ((R.take k).length = k) := by show (R.take k).length = k; rw [List.length_take]; omega
              have HDL : Hid ((R.drop k).length = i - k) := by show (R.drop k).length = i - k; rw [List.length_drop]; omega
              have oEA := ((Own.lit0 w1 w1.heap.size (Nat.le_refl _)).below ((Below.refl _ _).alloc (Nat.le_refl _) (.cells #[.int .i64 y] 3))).below (Below.refl _ _).drew
              have oXA := (Own.lit (w1.alloc (.cells #[] 3)) w1.heap.size (by simp) y).below (Below.refl _ _).drew
              have bA := (((Below.refl w1.heap.size w1).alloc (Nat.le_refl _) (.cells #[] 3)).alloc (by simp) (.cells #[.int .i64 y] 3)).drew
              have oXB := ((Own.lit w1 w1.heap.size (Nat.le_refl _) y).below ((Below.refl _ _).alloc (Nat.le_refl _) (.cells #[] 3))).below (Below.refl _ _).drew
              have oEB := (Own.lit0 (w1.alloc (.cells #[.int .i64 y] 3)) w1.heap.size (by simp)).below (Below.refl _ _).drew
              have bB := (((Below.refl w1.heap.size w1).alloc (Nat.le_refl _) (.cells #[.int .i64 y] 3)).alloc (by simp) (.cells #[] 3)).drew
              have oEC := (Own.lit0 w1 w1.heap.size (Nat.le_refl _)).below (Below.refl _ _).drew
              have bC := ((Below.refl w1.heap.size w1).alloc (Nat.le_refl _) (.cells #[] 3)).drew
              simp only [World.size_alloc] at oXA oEB
              have hk7 : k < 2000000 := by omega
              clear hrd
              go_wp2_with fail
              go_region_law (first
                | (refine step_all rfl (.tmp 30) (.tmp 33) rfl w1.heap.size (.slice (some ⟨w1.heap.size, 0, none⟩) 0 0) [] rfl oEA bA.size (some ⟨G, 0, none⟩) (R.take k) _ _ HTL.out rfl (ht.below bA) hk7 (by simp) ?_; intro v1 wA o1 g1; have oX := oXA.kept g1 (.inr (by simp [Value.ownBlock])); have B1 := bA.grown g1 bA.size (fun q hq => by simp [Value.ownBlock] at hq; omega); have hcA := (B1.cell (p := ⟨b, off + i, none⟩) hbw).trans hcell)
                | (refine step_all rfl (.tmp 30) (.tmp 33) rfl w1.heap.size (.slice (some ⟨w1.heap.size + 1, 0, none⟩) 0 0) [] rfl oEB bB.size (some ⟨G, 0, none⟩) (R.take k) _ _ HTL.out rfl (ht.below bB) hk7 (by simp) ?_; intro v1 wA o1 g1; have oX := oXB.kept g1 (.inr (by simp [Value.ownBlock])); have B1 := bB.grown g1 bB.size (fun q hq => by simp [Value.ownBlock] at hq; omega); have hcA := (B1.cell (p := ⟨b, off + i, none⟩) hbw).trans hcell)
                | (refine step_all rfl (.tmp 30) (.tmp 33) rfl w1.heap.size (.slice (some ⟨w1.heap.size, 0, none⟩) 0 0) [] rfl oEC bC.size (some ⟨G, 0, none⟩) (R.take k) _ _ HTL.out rfl (ht.below bC) hk7 (by simp) ?_; intro v1 wA o1 g1; have B1 := bC.grown g1 bC.size (fun q hq => by simp [Value.ownBlock] at hq; omega); have hcA := (B1.cell (p := ⟨b, off + i, none⟩) hbw).trans hcell)
                | (refine step_all rfl (.tmp 34) (.tmp 39) rfl w1.heap.size v1 (R.take k) rfl o1 B1.size _ [y] 1 1 rfl rfl oX.reads (by omega) (by have := HTL.out; omega) ?_; intro v2 wB o2 g2; have B2 := Below.grownB B1 o1 g2 B1.size (Nat.le_refl _))
                | (refine step_all rfl (.tmp 34) (.tmp 39) rfl w1.heap.size v1 (R.take k) rfl (o1.below ((Below.refl _ _).alloc (Nat.le_refl _) _)) (B1.alloc B1.size _).size _ [y] 1 1 rfl rfl (Own.lit wA w1.heap.size B1.size y).reads (by omega) (by have := HTL.out; omega) ?_; intro v2 wB o2 g2; have B2 := Below.grownB (B1.alloc B1.size _) (o1.below ((Below.refl _ _).alloc (Nat.le_refl _) _)) g2 (B1.alloc B1.size _).size (Nat.le_refl _))
                | (refine step_all rfl (.tmp 40) (.tmp 43) rfl w1.heap.size v2 (R.take k ++ [y]) rfl o2 B2.size (some ⟨G, k, none⟩) (R.drop k) (i - k) (C - k) HDL.out rfl (hd.below B2) (by omega) (by rw [List.length_append, HTL.out, List.length_singleton]; omega) ?_; intro v3 wC o3 g3; have B3 := Below.grownB B2 o2 g3 B2.size (Nat.le_refl _)))
              all_goals
                obtain ⟨G3, C3, rfl, hT3⟩ := o3.tab (by rw [HLL.out]; omega)
                rw [HLL.out] at hT3 ⊢
                have o3' := hT3.own.mono hz
                have B3' := hB.trans (B3.mono hz)
                clear hT3 o3 B3 g3 B2 o2 g2 B1 o1 g1 ht
                go_wp2
                go_roundw
                case rel => exact ⟨i + 1, G3, C3, _, by omega, by go_num, rfl, HS, o3', B3'⟩
                case measure => simp [intOf]; omega
        · obtain rfl : k = i := by omega
          have HS0 := SOf.next (k := k) hs.out (by have := HM.out; omega) (by omega) (fun j hj => by rw [hy.out]; have := hjs.out j hj; omega) (fun h => by omega)
          rw [hy.out] at HS0
          have HS : Hid (SOf l (k + 1) (R.take k ++ [y] ++ R.drop k)) := HS0
          have HLL : Hid ((R.take k ++ [y] ++ R.drop k).length = k + 1) := HS0.len (by have := HM.out; omega)
          have ki1 : (k : Int) ≤ (C : Int) := by omega
          have ki2 : (k : Int) ≤ (k : Int) := by omega
          clear HS0
          by_cases hjc : C = k
          · subst hjc
            clear ki1 ki2 hki hic hk
            go_wp2_with fail
            go_quiet (fail)
            all_goals
              have hoD := HO.out.below (Go.below_drewN (Go.below_drewN (Below.refl _ _) m) nq)
              have hBD := Go.below_drewN (Go.below_drewN hB m) nq
              have hcD : ((wo.drewN m).drewN nq).cell? ⟨b, off + C, none⟩ = some (.int .i64 y) := hcell
              have hbD : b < ((wo.drewN m).drewN nq).heap.size := hbw
              have hzD : w.heap.size ≤ ((wo.drewN m).drewN nq).heap.size := hz
              revert hoD hBD hcD hbD hzD
              generalize (wo.drewN m).drewN nq = w1
              clear HO hB hcell hbw hz
              intro hoD hB hcell hbw hz
              have hrd := hoD.facts.2.2.2
              have hRl := hoD.facts.1
              clear hoD
              have ht := hrd.take' C
              have hd := hrd.drop' C
              rw [Nat.zero_add] at hd
              have HTL : Hid ((R.take C).length = C) := by show (R.take C).length = C; rw [List.length_take]; omega
              have HDL : Hid ((R.drop C).length = C - C) := by show (R.drop C).length = C - C; rw [List.length_drop]; omega
              have oEA := ((Own.lit0 w1 w1.heap.size (Nat.le_refl _)).below ((Below.refl _ _).alloc (Nat.le_refl _) (.cells #[.int .i64 y] 3))).below (Below.refl _ _).drew
              have oXA := (Own.lit (w1.alloc (.cells #[] 3)) w1.heap.size (by simp) y).below (Below.refl _ _).drew
              have bA := (((Below.refl w1.heap.size w1).alloc (Nat.le_refl _) (.cells #[] 3)).alloc (by simp) (.cells #[.int .i64 y] 3)).drew
              have oXB := ((Own.lit w1 w1.heap.size (Nat.le_refl _) y).below ((Below.refl _ _).alloc (Nat.le_refl _) (.cells #[] 3))).below (Below.refl _ _).drew
              have oEB := (Own.lit0 (w1.alloc (.cells #[.int .i64 y] 3)) w1.heap.size (by simp)).below (Below.refl _ _).drew
              have bB := (((Below.refl w1.heap.size w1).alloc (Nat.le_refl _) (.cells #[.int .i64 y] 3)).alloc (by simp) (.cells #[] 3)).drew
              have oEC := (Own.lit0 w1 w1.heap.size (Nat.le_refl _)).below (Below.refl _ _).drew
              have bC := ((Below.refl w1.heap.size w1).alloc (Nat.le_refl _) (.cells #[] 3)).drew
              simp only [World.size_alloc] at oXA oEB
              have hk7 : C < 2000000 := by omega
              have HDE : Hid (R.drop C = []) := List.drop_eq_nil_of_le (by omega)
              clear hRl hrd
              go_wp2_with fail
              go_region_law (first
                | (refine step_all rfl (.tmp 30) (.tmp 33) rfl w1.heap.size (.slice (some ⟨w1.heap.size, 0, none⟩) 0 0) [] rfl oEA bA.size (some ⟨G, 0, none⟩) (R.take C) _ _ HTL.out rfl (ht.below bA) hk7 (by simp) ?_; intro v1 wA o1 g1; have oX := oXA.kept g1 (.inr (by simp [Value.ownBlock])); have B1 := bA.grown g1 bA.size (fun q hq => by simp [Value.ownBlock] at hq; omega); have hcA := (B1.cell (p := ⟨b, off + C, none⟩) hbw).trans hcell)
                | (refine step_all rfl (.tmp 30) (.tmp 33) rfl w1.heap.size (.slice (some ⟨w1.heap.size + 1, 0, none⟩) 0 0) [] rfl oEB bB.size (some ⟨G, 0, none⟩) (R.take C) _ _ HTL.out rfl (ht.below bB) hk7 (by simp) ?_; intro v1 wA o1 g1; have oX := oXB.kept g1 (.inr (by simp [Value.ownBlock])); have B1 := bB.grown g1 bB.size (fun q hq => by simp [Value.ownBlock] at hq; omega); have hcA := (B1.cell (p := ⟨b, off + C, none⟩) hbw).trans hcell)
                | (refine step_all rfl (.tmp 30) (.tmp 33) rfl w1.heap.size (.slice (some ⟨w1.heap.size, 0, none⟩) 0 0) [] rfl oEC bC.size (some ⟨G, 0, none⟩) (R.take C) _ _ HTL.out rfl (ht.below bC) hk7 (by simp) ?_; intro v1 wA o1 g1; have B1 := bC.grown g1 bC.size (fun q hq => by simp [Value.ownBlock] at hq; omega); have hcA := (B1.cell (p := ⟨b, off + C, none⟩) hbw).trans hcell)
                | (refine step_all rfl (.tmp 34) (.tmp 39) rfl w1.heap.size v1 (R.take C) rfl o1 B1.size _ [y] 1 1 rfl rfl oX.reads (by omega) (by have := HTL.out; omega) ?_; intro v2 wB o2 g2; have B2 := Below.grownB B1 o1 g2 B1.size (Nat.le_refl _))
                | (refine step_all rfl (.tmp 34) (.tmp 39) rfl w1.heap.size v1 (R.take C) rfl (o1.below ((Below.refl _ _).alloc (Nat.le_refl _) _)) (B1.alloc B1.size _).size _ [y] 1 1 rfl rfl (Own.lit wA w1.heap.size B1.size y).reads (by omega) (by have := HTL.out; omega) ?_; intro v2 wB o2 g2; have B2 := Below.grownB (B1.alloc B1.size _) (o1.below ((Below.refl _ _).alloc (Nat.le_refl _) _)) g2 (B1.alloc B1.size _).size (Nat.le_refl _))
                | (refine step_all rfl (.tmp 40) (.tmp 43) rfl w1.heap.size v2 (R.take C ++ [y]) rfl o2 B2.size _ [] 0 _ rfl rfl (Reads.nil _ _) (by omega) (by rw [List.length_append, HTL.out, List.length_singleton]; omega) ?_; intro v3 wC o3 g3; have B3 := Below.grownB B2 o2 g3 B2.size (Nat.le_refl _)))
              all_goals
                replace o3 : Own wC w1.heap.size v3 (R.take C ++ [y] ++ R.drop C) := by rw [HDE.out]; exact o3
                obtain ⟨G3, C3, rfl, hT3⟩ := o3.tab (by rw [HLL.out]; omega)
                rw [HLL.out] at hT3 ⊢
                have o3' := hT3.own.mono hz
                have B3' := hB.trans (B3.mono hz)
                clear hT3 o3 B3 g3 B2 o2 g2 B1 o1 g1 ht
                go_wp2
                go_roundw
                case rel => exact ⟨C + 1, G3, C3, _, by omega, by go_num, rfl, HS, o3', B3'⟩
                case measure => simp [intOf]; omega
          · go_wp2_with fail
            go_quiet (fail)
            all_goals
              have hoD := HO.out.below (Go.below_drewN (Go.below_drewN (Below.refl _ _) m) nq)
              have hBD := Go.below_drewN (Go.below_drewN hB m) nq
              have hcD : ((wo.drewN m).drewN nq).cell? ⟨b, off + k, none⟩ = some (.int .i64 y) := hcell
              have hbD : b < ((wo.drewN m).drewN nq).heap.size := hbw
              have hzD : w.heap.size ≤ ((wo.drewN m).drewN nq).heap.size := hz
              revert hoD hBD hcD hbD hzD
              generalize (wo.drewN m).drewN nq = w1
              clear HO hB hcell hbw hz
              intro hoD hB hcell hbw hz
              have hrd := hoD.facts.2.2.2
              have hRl := hoD.facts.1
              clear hoD
              have ht := hrd.take' k
              have hd := hrd.drop' k
              rw [Nat.zero_add] at hd
              have HTL : Hid ((R.take k).length = k) := by show (R.take k).length = k; rw [List.length_take]; omega
              have HDL : Hid ((R.drop k).length = 0) := by show (R.drop k).length = 0; rw [List.length_drop]; omega
              have oEA := ((Own.lit0 w1 w1.heap.size (Nat.le_refl _)).below ((Below.refl _ _).alloc (Nat.le_refl _) (.cells #[.int .i64 y] 3))).below (Below.refl _ _).drew
              have oXA := (Own.lit (w1.alloc (.cells #[] 3)) w1.heap.size (by simp) y).below (Below.refl _ _).drew
              have bA := (((Below.refl w1.heap.size w1).alloc (Nat.le_refl _) (.cells #[] 3)).alloc (by simp) (.cells #[.int .i64 y] 3)).drew
              have oXB := ((Own.lit w1 w1.heap.size (Nat.le_refl _) y).below ((Below.refl _ _).alloc (Nat.le_refl _) (.cells #[] 3))).below (Below.refl _ _).drew
              have oEB := (Own.lit0 (w1.alloc (.cells #[.int .i64 y] 3)) w1.heap.size (by simp)).below (Below.refl _ _).drew
              have bB := (((Below.refl w1.heap.size w1).alloc (Nat.le_refl _) (.cells #[.int .i64 y] 3)).alloc (by simp) (.cells #[] 3)).drew
              have oEC := (Own.lit0 w1 w1.heap.size (Nat.le_refl _)).below (Below.refl _ _).drew
              have bC := ((Below.refl w1.heap.size w1).alloc (Nat.le_refl _) (.cells #[] 3)).drew
              simp only [World.size_alloc] at oXA oEB
              have hk7 : k < 2000000 := by omega
              clear hRl hrd
              go_wp2_with fail
              go_region_law (first
                | (refine step_all rfl (.tmp 30) (.tmp 33) rfl w1.heap.size (.slice (some ⟨w1.heap.size, 0, none⟩) 0 0) [] rfl oEA bA.size (some ⟨G, 0, none⟩) (R.take k) _ _ HTL.out rfl (ht.below bA) hk7 (by simp) ?_; intro v1 wA o1 g1; have oX := oXA.kept g1 (.inr (by simp [Value.ownBlock])); have B1 := bA.grown g1 bA.size (fun q hq => by simp [Value.ownBlock] at hq; omega); have hcA := (B1.cell (p := ⟨b, off + k, none⟩) hbw).trans hcell)
                | (refine step_all rfl (.tmp 30) (.tmp 33) rfl w1.heap.size (.slice (some ⟨w1.heap.size + 1, 0, none⟩) 0 0) [] rfl oEB bB.size (some ⟨G, 0, none⟩) (R.take k) _ _ HTL.out rfl (ht.below bB) hk7 (by simp) ?_; intro v1 wA o1 g1; have oX := oXB.kept g1 (.inr (by simp [Value.ownBlock])); have B1 := bB.grown g1 bB.size (fun q hq => by simp [Value.ownBlock] at hq; omega); have hcA := (B1.cell (p := ⟨b, off + k, none⟩) hbw).trans hcell)
                | (refine step_all rfl (.tmp 30) (.tmp 33) rfl w1.heap.size (.slice (some ⟨w1.heap.size, 0, none⟩) 0 0) [] rfl oEC bC.size (some ⟨G, 0, none⟩) (R.take k) _ _ HTL.out rfl (ht.below bC) hk7 (by simp) ?_; intro v1 wA o1 g1; have B1 := bC.grown g1 bC.size (fun q hq => by simp [Value.ownBlock] at hq; omega); have hcA := (B1.cell (p := ⟨b, off + k, none⟩) hbw).trans hcell)
                | (refine step_all rfl (.tmp 34) (.tmp 39) rfl w1.heap.size v1 (R.take k) rfl o1 B1.size _ [y] 1 1 rfl rfl oX.reads (by omega) (by have := HTL.out; omega) ?_; intro v2 wB o2 g2; have B2 := Below.grownB B1 o1 g2 B1.size (Nat.le_refl _))
                | (refine step_all rfl (.tmp 34) (.tmp 39) rfl w1.heap.size v1 (R.take k) rfl (o1.below ((Below.refl _ _).alloc (Nat.le_refl _) _)) (B1.alloc B1.size _).size _ [y] 1 1 rfl rfl (Own.lit wA w1.heap.size B1.size y).reads (by omega) (by have := HTL.out; omega) ?_; intro v2 wB o2 g2; have B2 := Below.grownB (B1.alloc B1.size _) (o1.below ((Below.refl _ _).alloc (Nat.le_refl _) _)) g2 (B1.alloc B1.size _).size (Nat.le_refl _))
                | (refine step_all rfl (.tmp 40) (.tmp 43) rfl w1.heap.size v2 (R.take k ++ [y]) rfl o2 B2.size (some ⟨G, k, none⟩) (R.drop k) 0 (C - k) HDL.out rfl (hd.below B2) (by omega) (by rw [List.length_append, HTL.out, List.length_singleton]; omega) ?_; intro v3 wC o3 g3; have B3 := Below.grownB B2 o2 g3 B2.size (Nat.le_refl _)))
              all_goals
                obtain ⟨G3, C3, rfl, hT3⟩ := o3.tab (by rw [HLL.out]; omega)
                rw [HLL.out] at hT3 ⊢
                have o3' := hT3.own.mono hz
                have B3' := hB.trans (B3.mono hz)
                clear hT3 o3 B3 g3 B2 o2 g2 B1 o1 g1 ht
                go_wp2
                go_roundw
                case rel => exact ⟨k + 1, G3, C3, _, by omega, by go_num, rfl, HS, o3', B3'⟩
                case measure => simp [intOf]; omega
    · obtain rfl : i = M := by omega
      have hs2 := hs.out
      rw [HM.out] at hs2
      have hR := hs2.full
      go_wp2
      go_ret
      exact ⟨_, rfl, by rw [← hR]; exact ho, hB⟩
end Go.Proofs.YtoaiaindcmihjaaGreatDoor
/-
  Slices of buckets: structs of two numbers and a slice of numbers.
-/
namespace Go.Proofs.YtoaiaindcmihjaaGreatDoor
open Go.RowKit

/-- A bucket of a list. -/
def bkt (bs : List Bk) (r : Nat) : Bk := bs.getD r (0, 0, [])
theorem bkt_eq {bs : List Bk} {r : Nat} (h : r < bs.length) : bkt bs r = bs[r] := by simp [bkt, List.getD, h]
theorem bkt_mem {bs : List Bk} {r : Nat} (h : r < bs.length) : bkt bs r ∈ bs := by rw [bkt_eq h]; exact List.getElem_mem h
theorem bkt_snoc_lt {bs : List Bk} {t : Bk} {r : Nat} (h : r < bs.length) : bkt (bs ++ [t]) r = bkt bs r := by simp [bkt, List.getD, List.getElem?_append_left h]
theorem bkt_snoc_eq (bs : List Bk) (t : Bk) : bkt (bs ++ [t]) bs.length = t := by simp [bkt, List.getD]
/-- The cells of buckets. -/
abbrev Bc := Int × Int × Value
def flat3 (l : List Bc) : List Value := l.flatMap fun c => [.int .i64 c.1, .int .i64 c.2.1, c.2.2]
theorem flat3_cons (p : Bc) (l : List Bc) : flat3 (p :: l) = .int .i64 p.1 :: .int .i64 p.2.1 :: p.2.2 :: flat3 l := rfl
theorem flat3_append (l l' : List Bc) : flat3 (l ++ l') = flat3 l ++ flat3 l' := by simp [flat3]
theorem flat3_len (l : List Bc) : (flat3 l).length = l.length * 3 := by
  induction l with
  | nil => rfl
  | cons p l ih => rw [flat3_cons]; simp [ih]; omega
theorem flat3_get {l : List Bc} : ∀ {i : Nat} {c : Bc}, l[i]? = some c → (flat3 l)[i * 3]? = some (.int .i64 c.1) ∧ (flat3 l)[i * 3 + 1]? = some (.int .i64 c.2.1) ∧ (flat3 l)[i * 3 + 2]? = some c.2.2 := by
  induction l with
  | nil => intro i c h; simp at h
  | cons p l ih =>
    intro i c h
    cases i with
    | zero => simp at h; subst h; simp [flat3_cons]
    | succ i =>
      have := ih (i := i) (c := c) (by simpa using h)
      rw [flat3_cons, show (i + 1) * 3 = i * 3 + 1 + 1 + 1 by omega]
      simpa using this
/-- The slice (its address, its length) reads as the buckets. -/
def ReadsB (w : World) (a : Option Addr) (bs : List Bk) : Prop :=
  bs = [] ∨ ∃ b off, a = some ⟨b, off, none⟩ ∧ b < w.heap.size ∧ ∀ r, r < bs.length → w.cell? ⟨b, off + r * 3, none⟩ = some (.int .i64 ((bkt bs r).1 : Int)) ∧ w.cell? ⟨b, off + r * 3 + 1, none⟩ = some (.int .i64 ((bkt bs r).2.1 : Int)) ∧
    ∃ A C, w.cell? ⟨b, off + r * 3 + 2, none⟩ = some (.slice A (bkt bs r).2.2.length C) ∧ Reads w A (bkt bs r).2.2 ∧ (bkt bs r).2.2.length ≤ C
theorem ReadsB.below {w w' : World} (h : Below w.heap.size w w') {a : Option Addr} {bs : List Bk} (hc : ReadsB w a bs) : ReadsB w' a bs := by
  rcases hc with h0 | ⟨b, off, ha, hb, hc⟩
  · exact .inl h0
  · refine .inr ⟨b, off, ha, Nat.lt_of_lt_of_le hb h.size, fun r hr => ?_⟩
    obtain ⟨h1, h2, A, C, h3, h4, h5⟩ := hc r hr
    exact ⟨(h.cell (p := ⟨b, off + r * 3, none⟩) hb).trans h1, (h.cell (p := ⟨b, off + r * 3 + 1, none⟩) hb).trans h2, A, C, (h.cell (p := ⟨b, off + r * 3 + 2, none⟩) hb).trans h3, h4.below h, h5⟩
theorem ReadsB.get {w : World} {a : Option Addr} {bs : List Bk} (h : ReadsB w a bs) {r : Nat} (hr : r < bs.length) :
    ∃ b off A C, a = some ⟨b, off, none⟩ ∧ b < w.heap.size ∧ w.cell? ⟨b, off + r * 3, none⟩ = some (.int .i64 ((bkt bs r).1 : Int)) ∧ w.cell? ⟨b, off + r * 3 + 1, none⟩ = some (.int .i64 ((bkt bs r).2.1 : Int)) ∧ w.cell? ⟨b, off + r * 3 + 2, none⟩ = some (.slice A (bkt bs r).2.2.length C) ∧ Reads w A (bkt bs r).2.2 ∧ (bkt bs r).2.2.length ≤ C := by
  rcases h with rfl | ⟨b, off, ha, hb, hc⟩
  · simp at hr
  · obtain ⟨h1, h2, A, C, h3, h4, h5⟩ := hc r hr
    exact ⟨b, off, A, C, ha, hb, h1, h2, h3, h4, h5⟩

section
variable {w w' : World} {base : Nat} {v : Value} {bs : List Bk}
end
theorem trip_cell {w : World} {x y z : Value} {ty : TypeId} : ∀ j u, [x, y, z][j]? = some u → (w.alloc (.cells #[x, y, z] ty)).cell? (Addr.add ⟨w.heap.size, 0, none⟩ j) = some u := by
  intro j u h
  rw [Addr.add_lit, Nat.zero_add, cell_of_row _ _ _ _ _ _ (heap_alloc_new _ _)]
  have hj : j < 3 := by have := (List.getElem?_eq_some_iff.1 h).1; simpa using this
  have : j = 0 ∨ j = 1 ∨ j = 2 := by omega
  rcases this with rfl | rfl | rfl <;> simpa using h
end Go.Proofs.YtoaiaindcmihjaaGreatDoor
/-
  spec.split, BucketsOf.
-/
namespace Go.Proofs.YtoaiaindcmihjaaGreatDoor
open Go.RowKit

theorem tfl_take {l : List Int} {d e i : Nat} (h : i < l.length) : tfl (l.take (i + 1)) d e = tfl (l.take i) d e ++ if (l.getD i 0).toNat % 2 ^ d = e then [l.getD i 0] else [] := by
  rw [take_snocN h]
  unfold tfl
  rw [List.filter_append]
  by_cases g : (l.getD i 0).toNat % 2 ^ d = e
  · rw [if_pos g, List.filter_cons_of_pos (by rw [decide_eq_true g]), List.filter_nil]
  · rw [if_neg g, List.filter_cons_of_neg (by rw [decide_eq_false g]; simp), List.filter_nil]
theorem tfl_len (l : List Int) (d e : Nat) : (tfl l d e).length ≤ l.length := List.length_filter_le _ _

/-- The buckets of names, none for other arguments. -/
def BKs (l : List Int) (m : Int) : List Bk := if VNm l = true ∧ 1 ≤ m ∧ m ≤ 4 then spl l m.toNat 6 0 0 else []
theorem BKs_len (l : List Int) (m : Int) : (BKs l m).length ≤ 64 := by
  unfold BKs; split
  · exact spl_len _ _ _ _ _
  · simp
end Go.Proofs.YtoaiaindcmihjaaGreatDoor
/-
  Texts: spec.number, trie, TreeText.
-/
namespace Go.Proofs.YtoaiaindcmihjaaGreatDoor
open Go.RowKit

/-- The bytes of a list, as a text. -/
abbrev B8 (l : List UInt8) : ByteArray := ByteArray.mk l.toArray
theorem B8_app (x y : List UInt8) : B8 x ++ B8 y = B8 (x ++ y) := ByteArray.mk_append_mk x y
theorem digits_ex : ∀ n : Fin 10, (ByteArray.mk #[48, 49, 50, 51, 52, 53, 54, 55, 56, 57]).extract n.val (n.val + 1) = B8 [dgt n.val] := by decide +kernel
theorem dec_short {n : Nat} (h : n < 1000000) : (dec n).length ≤ 6 := by
  have h1 : ∀ k n : Nat, n < 10 ^ (k + 1) → (dec n).length ≤ k + 1 := by
    intro k
    induction k with
    | zero => intro n hn; rw [dec_lt (by simpa using hn)]; simp
    | succ k ih =>
      intro n hn
      by_cases h : n < 10
      · rw [dec_lt h]; simp
      · rw [dec_ge h, List.length_append, List.length_singleton]
        have := ih (n / 10) (by rw [Nat.pow_succ] at hn; omega)
        omega
  exact h1 5 n (by simpa using h)
set_option maxHeartbeats 1000000 in
theorem number_any : ∀ (n : Nat) (w : World), n < 1000000 → Calls Tryz.prog 61 #[.int .i64 (n : Int)] w fun e w' => e = .returned (.string (B8 (dec n))) ∧ w = w' := by
  intro n
  induction n using Nat.strongRecOn with
  | ind n ih =>
    intro w hn
    by_cases h : n < 10
    · have hd := digits_ex ⟨n, h⟩
      have h1 : (n : Int) < 10 := by omega
      rw [dec_lt h]
      obtain ⟨R, hR⟩ : ∃ R, R = B8 [dgt n] := ⟨_, rfl⟩
      rw [← hR] at hd ⊢
      dsimp only at hd
      have HD := Lib.hid hd
      have e1 : IntKind.i64.wrap ((n : Int) + 1) = ((n + 1 : Nat) : Int) := by rw [IntWalk.i64_in _ (by omega)]; omega
      have e2 : ((n : Int) + 1).toNat = n + 1 := by omega
      clear hR ih
      go_enter Tryz.func61, Tryz.ntmps61
      go_wp2
      go_ret
      exact ⟨rfl, rfl⟩
    · have h1 : ¬ (n : Int) < 10 := by omega
      have i1 := ih (n / 10) (by omega)
      have i2 := ih (n % 10) (by omega)
      have q1 : (n : Int).tdiv 10 = ((n / 10 : Nat) : Int) := by rw [Int.tdiv_eq_ediv_of_nonneg (by omega)]; omega
      have q2 : (n : Int).tmod 10 = ((n % 10 : Nat) : Int) := by rw [Int.tmod_eq_emod_of_nonneg (by omega)]; omega
      have s1 := dec_short (n := n / 10) (by omega)
      have s2 := dec_short (n := n % 10) (by omega)
      have he : dec n = dec (n / 10) ++ dec (n % 10) := by rw [dec_ge h, dec_lt (show n % 10 < 10 by omega)]
      rw [he, ← B8_app]
      have m1 : n / 10 < 1000000 := by omega
      have m2 : n % 10 < 1000000 := by omega
      obtain ⟨x, hx⟩ : ∃ x, x = n / 10 := ⟨_, rfl⟩
      obtain ⟨y, hy⟩ : ∃ y, y = n % 10 := ⟨_, rfl⟩
      rw [← hx] at i1 q1 s1 m1 ⊢
      rw [← hy] at i2 q2 s2 m2 ⊢
      obtain ⟨X, hX⟩ : ∃ X, X = dec x := ⟨_, rfl⟩
      obtain ⟨Y, hY⟩ : ∃ Y, Y = dec y := ⟨_, rfl⟩
      rw [← hX] at i1 s1 ⊢
      rw [← hY] at i2 s2 ⊢
      have D1 := Lib.hid (fun wx => i1 wx m1)
      have D2 := Lib.hid (fun wx => i2 wx m2)
      clear i1 i2 hx hy hX hY he ih
      go_enter Tryz.func61, Tryz.ntmps61
      go_wp2_with fail
      refine (D1.out _).mono ?_
      rintro e w' ⟨rfl, rfl⟩
      go_wp2_with fail
      refine (D2.out _).mono ?_
      rintro e w' ⟨rfl, rfl⟩
      go_wp2
      go_ret
      exact ⟨rfl, rfl⟩
/-- What trie gives, f parts deep. -/
def TRc (a : Option Addr) (l : List Int) (cap f : Nat) : Prop := ∀ d e : Nat, f + d = 6 → e < 2 ^ d → ∀ w : World, Reads w a l →
    Calls Tryz.prog 34 #[.slice a l.length cap, .int .i64 (d : Int), .int .i64 (e : Int)] w fun en w' => en = .returned (.string (B8 (ttr l f d e))) ∧ Below w.heap.size w w'
theorem ttr_len' {l : List Int} (hv : VNm l = true) {f d e : Nat} (h1 : f + d = 6) (h2 : e < 2 ^ d) : (ttr l f d e).length ≤ 400 := by
  obtain ⟨a1, a2, a3⟩ := VNm_iff.1 hv
  have h3 := ttr_len a3 a2 f d e h1 h2
  have h4 : (tfl l d e).length ≤ 12 := Nat.le_trans (List.length_filter_le _ _) a1
  have h5 : 5 * f * (tfl l d e).length ≤ 30 * 12 := Nat.mul_le_mul (by omega) h4
  omega
set_option maxHeartbeats 16000000 in
set_option maxRecDepth 100000 in
theorem trie_step (a : Option Addr) (l : List Int) (cap f : Nat) (hv : VNm l = true) (ih : ∀ g, f = g + 1 → TRc a l cap g) : TRc a l cap f := by
  obtain ⟨hl12, hrng, hnd⟩ := VNm_iff.1 hv
  intro d e hfd he w hrw
  have hp2 : 2 ^ d ≤ 2 ^ 6 := Nat.pow_le_pow_right (by omega) (by omega)
  have six := tfl_six hnd hrng e
  have cp := fun wx => pow_any d wx (by omega)
  have hrec : 2 ≤ (tfl l d e).length → ∃ (P : Nat) (A B : List UInt8), (P ≤ 64 ∧ e < P) ∧ d ≤ 5 ∧ A.length ≤ 400 ∧ B.length ≤ 400 ∧ ttr l f d e = [40] ++ A ++ [32] ++ B ++ [41] ∧ (∀ w : World, Reads w a l → Calls Tryz.prog 34 #[.slice a l.length cap, .int .i64 ((d : Int) + 1), .int .i64 (e : Int)] w fun en w' => en = .returned (.string (B8 A)) ∧ Below w.heap.size w w') ∧
      (∀ w : World, Reads w a l → Calls Tryz.prog 34 #[.slice a l.length cap, .int .i64 ((d : Int) + 1), .int .i64 ((e : Int) + (P : Int))] w fun en w' => en = .returned (.string (B8 B)) ∧ Below w.heap.size w w') ∧ ∀ wx, Calls Tryz.prog 59 #[.int .i64 (d : Int)] wx fun e w' => e = .returned (.int .i64 (P : Int)) ∧ wx = w' := by
    intro h
    cases f with
    | zero => obtain rfl : d = 6 := by omega
              omega
    | succ g =>
      have hps : 2 ^ (d + 1) = 2 * 2 ^ d := by rw [Nat.pow_succ]; omega
      have i1 := ih g rfl (d + 1) e (by omega) (by omega)
      have i2 := ih g rfl (d + 1) (e + 2 ^ d) (by omega) (by omega)
      rw [show (((d + 1 : Nat)) : Int) = (d : Int) + 1 by omega] at i1 i2
      rw [show (((e + 2 ^ d : Nat)) : Int) = (e : Int) + ((2 ^ d : Nat) : Int) by omega] at i2
      exact ⟨2 ^ d, _, _, ⟨by omega, he⟩, by omega, ttr_len' hv (by omega) (by omega), ttr_len' hv (by omega) (by omega), ttr_more h, i1, i2, cp⟩
  obtain ⟨RR, hRR⟩ : ∃ RR, RR = ttr l f d e := ⟨_, rfl⟩
  rw [← hRR] at hrec ⊢
  have HRR := Lib.hid hRR
  obtain ⟨M, hM⟩ : ∃ M, M = l.length := ⟨_, rfl⟩
  have HM := Lib.hid hM
  rw [← hM] at hl12 hrec ⊢
  clear hM
  have REC := Lib.hid hrec
  have ho1 := Own.lit0 w w.heap.size (Nat.le_refl _)
  have hB1 := (Below.refl w.heap.size w).alloc (Nat.le_refl _) (.cells #[] 3)
  clear hrec ih cp six hp2 hRR
  go_enter Tryz.func34, Tryz.ntmps34
  go_wp2
  go_loopw [7, 8] (fun sv iv wr => ∃ i : Nat, i ≤ M ∧ iv = .int .i64 (i : Int) ∧ Own wr w.heap.size sv (tfl (l.take i) d e) ∧ Below w.heap.size w wr) (fun _ iv _ => M - (intOf iv).toNat)
  case atStart => exact ⟨0, by omega, rfl, by simpa [tfl] using ho1, hB1⟩
  case round =>
    clear ho1 hB1
    rename World => wo
    obtain ⟨i, hi, rfl, ho, hB⟩ := hrel
    by_cases hlt : i < M
    · have hi1 : (i : Int) < (M : Int) := by omega
      obtain ⟨b, off, y, rfl, hb, hc0, hy⟩ := hrw.get (k := i) (by have := HM.out; omega)
      have hcell : wo.cell? ⟨b, off + i, none⟩ = some (.int .i64 y) := (hB.cell (by exact hb)).trans hc0
      have hyr := hrng y (by rw [← hy.out]; exact getD_mem (by have := HM.out; omega))
      have htk := tfl_take (l := l) (d := d) (e := e) (i := i) (by have := HM.out; omega)
      rw [hy.out] at htk
      obtain ⟨Y, rfl⟩ : ∃ Y : Nat, y = Y := ⟨y.toNat, by omega⟩
      rw [Int.toNat_natCast] at htk
      have ct := fun wx => pow_tail Y d wx (by omega) (by omega)
      obtain ⟨q, hq⟩ : ∃ q, q = Y % 2 ^ d := ⟨_, rfl⟩
      rw [← hq] at htk ct
      have D := Lib.hid ct
      have hz1 := hB.size
      have hlen := tfl_len (l.take i) d e
      rw [List.length_take] at hlen
      have hl9 : (tfl (l.take i) d e).length ≤ 12 := by omega
      obtain ⟨T, hT⟩ : ∃ T, T = tfl (l.take i) d e := ⟨_, rfl⟩
      rw [← hT] at htk ho hl9
      clear hc0 ct hq hlen hT
      by_cases hqe : q = e
      · rw [if_pos hqe] at htk
        have HTK := Lib.hid htk
        subst hqe
        have hd1 : ((q : Int) == (q : Int)) = true := by simp
        clear htk
        go_wp2_with fail
        refine (D.out _).mono ?_
        rintro en w' ⟨rfl, rfl⟩
        go_wp2_with (at_builtin; refine push_int rfl (.tmp 24) (.tmp 29) rfl w.heap.size _ T (Y : Int) rfl ho rfl (by omega) hz1 ?_)
        intro v' wf of _ gf
        rw [← HTK.out] at of
        have hBf := hB.grown gf hB.size (fun k hk => (ho.lt k hk).1)
        clear gf ho hB
        go_wp2
        go_roundw
        case rel => exact ⟨i + 1, by omega, by go_num, of, hBf⟩
        case measure => simp [intOf]; omega
      · rw [if_neg hqe, List.append_nil] at htk
        have HTK := Lib.hid htk
        have hd1 : ((q : Int) == (e : Int)) = false := by simp; omega
        clear htk
        go_wp2_with fail
        refine (D.out _).mono ?_
        rintro en w' ⟨rfl, rfl⟩
        go_wp2
        go_roundw
        case rel => exact ⟨i + 1, by omega, by go_num, by rw [HTK.out]; exact ho, hB⟩
        case measure => simp [intOf]; omega
    · obtain rfl : i = M := by omega
      have etk : l.take i = l := by rw [HM.out, List.take_length]
      rw [etk] at ho
      have hrw2 := hrw.below hB
      clear etk
      rcases tfl_cases l d e with h0 | ⟨x, h1⟩ | h2
      · have hR := HRR.out
        rw [ttr_none h0] at hR
        subst hR
        rw [h0] at ho
        obtain ⟨sa, cs, rfl, _, _, _, _⟩ := ho.form
        rw [show ([] : List Int).length = 0 from rfl]
        clear h0 REC ho
        go_wp2
        go_ret
        exact ⟨rfl, hB⟩
      · have hR := HRR.out
        rw [ttr_one h1] at hR
        rw [h1] at ho
        have hx := hrng x (tfl_mem.1 (show x ∈ tfl l d e by rw [h1]; simp)).1
        obtain ⟨sa, cs, rfl, hrs, _, _, _⟩ := ho.form
        obtain ⟨b, off, z, rfl, hb, hc0, hz⟩ := hrs.get (k := 0) (by simp)
        have hz2 : x = z := hz.out
        subst hz2
        obtain ⟨X, rfl⟩ : ∃ X : Nat, x = X := ⟨x.toNat, by omega⟩
        rw [Int.toNat_natCast] at hR
        rw [Nat.add_zero] at hc0
        have cn := fun wx => number_any X wx (by omega)
        rw [← hR] at cn
        have CN := Lib.hid cn
        rw [show ([(X : Int)] : List Int).length = 1 from rfl]
        clear h1 REC ho hR cn hrs
        go_wp2_with fail
        refine (CN.out _).mono ?_
        rintro en w' ⟨rfl, rfl⟩
        go_wp2
        go_ret
        exact ⟨rfl, hB⟩
      · obtain ⟨P, A, B, ⟨hP1, hP2⟩, hd5, hA, hBl, hR, c1, c2, cp⟩ := REC.out h2
        obtain ⟨T, hT⟩ : ∃ T, T = tfl l d e := ⟨_, rfl⟩
        rw [← hT] at ho h2
        obtain ⟨sa, cs, rfl, _, _, _, _⟩ := ho.form
        have hT0 : ((T.length : Int) == 0) = false := by rw [beq_eq_false_iff_ne]; omega
        have hT1 : ((T.length : Int) == 1) = false := by rw [beq_eq_false_iff_ne]; omega
        have C1 := Lib.hid c1
        have C2 := Lib.hid c2
        have CP := Lib.hid cp
        subst hR
        clear REC c1 c2 cp ho hT
        go_wp2_with fail
        refine (C1.out _ hrw2).mono ?_
        rintro en w3 ⟨rfl, b3⟩
        have hrw3 := hrw2.below b3
        have B3 := hB.trans (b3.mono hB.size)
        clear b3 hrw2 hB
        go_wp2_with fail
        refine (CP.out _).mono ?_
        rintro en w' ⟨rfl, rfl⟩
        go_wp2_with fail
        refine (C2.out _ hrw3).mono ?_
        rintro en w4 ⟨rfl, b4⟩
        have B4 := B3.trans (b4.mono B3.size)
        go_wp2
        go_ret
        exact ⟨by rw [← B8_app, ← B8_app, ← B8_app, ← B8_app]; rfl, B4⟩
theorem trie_any (a : Option Addr) (l : List Int) (cap : Nat) (hv : VNm l = true) : ∀ f, TRc a l cap f := by
  intro f
  induction f with
  | zero => exact trie_step a l cap 0 hv (fun g h => by omega)
  | succ f ih =>
    refine trie_step a l cap (f + 1) hv (fun g h => ?_)
    obtain rfl : f = g := by omega
    exact ih
theorem specTreeText_any (a : Option Addr) (l : List Int) (cap : Nat) (w : World) (hr : Reads w a l) (hl : l.length ≤ 1048586) (hcap : l.length ≤ cap) :
    Calls Tryz.prog 10 #[.slice a l.length cap] w fun e w' => e = .returned (.string (B8 (TXT l))) ∧ Below w.heap.size w w' := by
  have cv := specvalidNames_any a l cap w hr hl hcap
  cases hV : VNm l with
  | false =>
    have hR : TXT l = [] := by unfold TXT; rw [hV]; rfl
    rw [hV] at cv
    rw [hR]
    clear hV hR
    go_enter Tryz.func10, Tryz.ntmps10
    go_wp2_with fail
    refine cv.mono ?_
    rintro e w1 ⟨rfl, n, rfl⟩
    go_wp2
    go_ret
    exact ⟨rfl, Go.below_drewN (Below.refl _ _) n⟩
  | true =>
    have hR : TXT l = ttr l 6 0 0 := by unfold TXT; rw [hV]; rfl
    have ct := trie_any a l cap hV 6 0 0 rfl (by simp)
    rw [hV] at cv
    rw [← hR, Int.natCast_zero] at ct
    have CT := Lib.hid ct
    obtain ⟨X, hX⟩ : ∃ X, X = TXT l := ⟨_, rfl⟩
    rw [← hX] at CT ⊢
    clear hV hR ct hX
    go_enter Tryz.func10, Tryz.ntmps10
    go_wp2_with fail
    refine cv.mono ?_
    rintro e w1 ⟨rfl, n, rfl⟩
    have b1 := Go.below_drewN (Below.refl w.heap.size w) n
    go_wp2_with fail
    refine (CT.out _ (hr.below b1)).mono ?_
    rintro e w2 ⟨rfl, b2⟩
    go_wp2
    go_ret
    exact ⟨rfl, b1.trans (b2.mono b1.size)⟩
end Go.Proofs.YtoaiaindcmihjaaGreatDoor
/-
  What is read of a text: lengths.
-/
namespace Go.Proofs.YtoaiaindcmihjaaGreatDoor

theorem rdn_len : ∀ (s : List UInt8) (n k : Nat), (rdn n k s).2.1 + (rdn n k s).2.2.length = k + s.length ∧ k ≤ (rdn n k s).2.1 := by
  intro s
  induction s with
  | nil => intro n k; simp [rdn]
  | cons c s ih =>
    intro n k
    rw [rdn]
    split
    · have := ih (10 * n + (c.toNat - 48)) (k + 1)
      rw [List.length_cons]; omega
    · simp
theorem rdn_le : ∀ (s : List UInt8) (n k : Nat), n ≤ 9999 → (rdn n k s).1 ≤ 9999 := by
  intro s
  induction s with
  | nil => intro n k h; simpa [rdn] using h
  | cons c s ih =>
    intro n k h
    rw [rdn]
    split
    · rename_i g
      refine ih _ _ ?_
      have hd := g.1
      unfold isD at hd
      have := of_decide_eq_true hd
      omega
    · exact h
theorem rd_len : ∀ (g : Nat) (s : List UInt8) (a : List Int) (r : List UInt8), rd g s = some (a, r) → a.length + r.length ≤ s.length ∧ r.length < s.length := by
  intro g
  induction g with
  | zero => intro s a r h; rw [rd] at h; cases h
  | succ g ih =>
    intro s a r h
    cases s with
    | nil => rw [rd] at h; cases h
    | cons c t =>
      rw [rd] at h
      rw [List.length_cons]
      split at h
      · injection h with h; injection h with h1 h2; subst h1; subst h2; simp
      · split at h
        · split at h
          · rename_i a1 c1 r1 e1
            split at h
            · split at h
              · rename_i b c2 m e2
                split at h
                · injection h with h; injection h with h1 h2; subst h1; subst h2
                  have k1 := ih _ _ _ e1
                  have k2 := ih _ _ _ e2
                  simp only [List.length_cons, List.length_append] at k1 k2 ⊢
                  omega
                · cases h
              · cases h
            · cases h
          · cases h
        · have k1 := rdn_len (c :: t) 0 0
          split at h
          rename_i n k r1 e1
          rw [e1] at k1
          split at h
          · cases h
          · injection h with h; injection h with h1 h2; subst h1; subst h2
            simp only [List.length_cons, List.length_nil] at k1 ⊢
            omega
end Go.Proofs.YtoaiaindcmihjaaGreatDoor
