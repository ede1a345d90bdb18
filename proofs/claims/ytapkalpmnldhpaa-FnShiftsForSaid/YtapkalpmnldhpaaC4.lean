/-
  ShiftsFor's plain mathematics.
-/
import Derived.Test.YtapkalpmnldhpaaTb
namespace Go.Proofs.Ytapkalpmnldhpaa
open Go.RowKit

/-- The first of f 0 .. f (n - 1) that is there. -/
def firstN {α : Type} (f : Nat → Option α) : Nat → Option α
  | 0 => none
  | n + 1 => match firstN f n with
    | some r => some r
    | none => f n
theorem firstN_none {α : Type} {f : Nat → Option α} {n : Nat} (h : ∀ i, i < n → f i = none) : firstN f n = none := by
  induction n with
  | zero => rfl
  | succ n ih => rw [firstN, ih (fun i hi => h i (by omega))]; exact h n (by omega)
theorem firstN_hit {α : Type} {f : Nat → Option α} {s n : Nat} {r : α} (h : ∀ i, i < s → f i = none) (hs : f s = some r) (hn : s < n) : firstN f n = some r := by
  induction n with
  | zero => omega
  | succ n ih =>
    rw [firstN]
    by_cases e : s = n
    · subst e; rw [firstN_none h]; exact hs
    · rw [ih (by omega)]

/-- The slot of a number that is shifted. -/
def pos (m s : Nat) (x : Int) : Nat := ((x + s) % m).toNat
theorem pos_lt {m s : Nat} {x : Int} (hm : 0 < m) : pos m s x < m := by
  unfold pos
  have h1 := Int.emod_nonneg (x + s) (show (m : Int) ≠ 0 by omega)
  have h2 := Int.emod_lt_of_pos (x + s) (show (0 : Int) < m by omega)
  omega
theorem pos_cast {m s : Nat} {x : Int} (hm : 0 < m) : ((pos m s x : Nat) : Int) = (x + s) % m := by
  unfold pos
  have h1 := Int.emod_nonneg (x + s) (show (m : Int) ≠ 0 by omega)
  omega
/-- What is taken when the first k numbers of the bucket have taken theirs. -/
def tkS (m s : Nat) (l : List Int) (T : List Bool) : Nat → List Bool
  | 0 => T
  | k + 1 => (tkS m s l T k).set (pos m s (l.getD k 0)) true
theorem tkS_len (m s : Nat) (l : List Int) (T : List Bool) : ∀ k, (tkS m s l T k).length = T.length := by
  intro k
  induction k with
  | zero => rfl
  | succ k ih => simp [tkS, ih]
def fits (m s : Nat) (l : List Int) (T : List Bool) (k : Nat) : Prop := ∀ i, i < k → (tkS m s l T i).getD (pos m s (l.getD i 0)) false = false
theorem fits_succ {m s : Nat} {l : List Int} {T : List Bool} {k : Nat} (h : fits m s l T k) (h1 : (tkS m s l T k).getD (pos m s (l.getD k 0)) false = false) : fits m s l T (k + 1) := by
  intro i hi
  by_cases e : i = k
  · subst e; exact h1
  · exact h i (by omega)
instance (m s : Nat) (l : List Int) (T : List Bool) (k : Nat) : Decidable (fits m s l T k) := by unfold fits; infer_instance
def tryS (m s : Nat) (l : List Int) (T : List Bool) : Option (List Bool) := if fits m s l T l.length then some (tkS m s l T l.length) else none
theorem tryS_yes {m s : Nat} {l : List Int} {T : List Bool} (h : fits m s l T l.length) : tryS m s l T = some (tkS m s l T l.length) := by unfold tryS; rw [if_pos h]
theorem tryS_no {m s : Nat} {l : List Int} {T : List Bool} {k : Nat} (hk : k < l.length) (h : (tkS m s l T k).getD (pos m s (l.getD k 0)) false = true) : tryS m s l T = none := by
  unfold tryS
  rw [if_neg]
  intro hf
  have := hf k hk
  rw [h] at this
  cases this
theorem tryS_len {m s : Nat} {l : List Int} {T T' : List Bool} (h : tryS m s l T = some T') : T'.length = T.length := by
  unfold tryS at h
  split at h
  · rw [← Option.some.inj h, tkS_len]
  · cases h

/-- The first shifts of the buckets. -/
def shf (m : Nat) : List (List Int) → List Bool → Option (List Int)
  | [], _ => some []
  | b :: bs, T => firstN (fun s => match tryS m s b T with
      | some T' => (shf m bs T').map (fun r => (s : Int) :: r)
      | none => none) m
/-- What one shift of the first bucket gives. -/
def shs (m : Nat) (b : List Int) (bs : List (List Int)) (T : List Bool) (s : Nat) : Option (List Int) := match tryS m s b T with
  | some T' => (shf m bs T').map (fun r => (s : Int) :: r)
  | none => none
theorem shf_cons (m : Nat) (b : List Int) (bs : List (List Int)) (T : List Bool) : shf m (b :: bs) T = firstN (shs m b bs T) m := rfl
theorem shs_no {m s : Nat} {b : List Int} {bs : List (List Int)} {T : List Bool} (h : tryS m s b T = none) : shs m b bs T s = none := by unfold shs; rw [h]
theorem shs_yes {m s : Nat} {b : List Int} {bs : List (List Int)} {T T' : List Bool} (h : tryS m s b T = some T') : shs m b bs T s = (shf m bs T').map (fun r => (s : Int) :: r) := by unfold shs; rw [h]
theorem shf_len {m : Nat} : ∀ (bs : List (List Int)) (T : List Bool) (r : List Int), shf m bs T = some r → r.length = bs.length := by
  intro bs
  induction bs with
  | nil => intro T r h; cases h; rfl
  | cons b bs ih =>
    intro T r h
    rw [shf_cons] at h
    have key : ∀ n, firstN (shs m b bs T) n = some r → r.length = (b :: bs).length := by
      intro n
      induction n with
      | zero => intro h; cases h
      | succ n ihn =>
        intro h
        rw [firstN] at h
        cases hf : firstN (shs m b bs T) n with
        | some q => rw [hf] at h; rw [hf] at ihn; exact ihn h
        | none =>
          rw [hf] at h
          simp only at h
          unfold shs at h
          cases ht : tryS m n b T with
          | none => rw [ht] at h; cases h
          | some T' =>
            rw [ht] at h
            simp only [Option.map_eq_some_iff] at h
            obtain ⟨q, h1, h2⟩ := h
            rw [← h2, List.length_cons, ih T' q h1, List.length_cons]
    exact key m h
/-- An empty bucket takes nothing: if it does not go with the first shift, it does with none. -/
theorem shs_nil {m s : Nat} {bs : List (List Int)} {T : List Bool} : shs m [] bs T s = (shf m bs T).map (fun r => (s : Int) :: r) := rfl

/-- All numbers together. -/
def allN (ts : List (List Int)) : Nat := (ts.map List.length).sum
def VB (m : Int) (ts : List (List Int)) : Bool := decide (1 ≤ m ∧ m ≤ 10 ∧ ts.length ≤ 4 ∧ allN ts ≤ 8 ∧ ∀ r, r < ts.length → ∀ i, i < (tr ts r).length → 0 ≤ (tr ts r).getD i 0 ∧ (tr ts r).getD i 0 < m)
theorem VB_iff {m : Int} {ts : List (List Int)} : VB m ts = true ↔ 1 ≤ m ∧ m ≤ 10 ∧ ts.length ≤ 4 ∧ allN ts ≤ 8 ∧ ∀ r, r < ts.length → ∀ i, i < (tr ts r).length → 0 ≤ (tr ts r).getD i 0 ∧ (tr ts r).getD i 0 < m := by unfold VB; exact decide_eq_true_iff
theorem VB_no {m : Int} {ts : List (List Int)} (h : ¬ (1 ≤ m ∧ m ≤ 10 ∧ ts.length ≤ 4 ∧ allN ts ≤ 8 ∧ ∀ r, r < ts.length → ∀ i, i < (tr ts r).length → 0 ≤ (tr ts r).getD i 0 ∧ (tr ts r).getD i 0 < m)) : VB m ts = false := by
  rw [← Bool.not_eq_true, VB_iff]; exact h
def SFr : Option (List Int) → List Int × Bool
  | some r => (r, true)
  | none => ([], false)
def SF (m : Int) (ts : List (List Int)) : List Int × Bool := if VB m ts = true then SFr (shf m.toNat ts (List.replicate m.toNat false)) else ([], false)
theorem SF_len (m : Int) (ts : List (List Int)) : (SF m ts).1.length ≤ 1048586 := by
  unfold SF
  split
  · rename_i h
    have h4 := (VB_iff.1 h).2.2.1
    cases hs : shf m.toNat ts (List.replicate m.toNat false) with
    | none => simp [SFr]
    | some r => simp only [SFr]; rw [shf_len _ _ _ hs]; omega
  · simp

/-- Slots that are not the table's make no difference. -/
theorem tkS_more (m s : Nat) (l : List Int) (T E : List Bool) (hm : 0 < m) (hT : T.length = m) : ∀ k, tkS m s l (T ++ E) k = tkS m s l T k ++ E := by
  intro k
  induction k with
  | zero => rfl
  | succ k ih => rw [tkS, tkS, ih, List.set_append_left _ _ (by rw [tkS_len, hT]; exact pos_lt hm)]
theorem fits_more {m s : Nat} {l : List Int} {T E : List Bool} (hm : 0 < m) (hT : T.length = m) {k : Nat} : fits m s l (T ++ E) k ↔ fits m s l T k := by
  have e : ∀ i, (tkS m s l (T ++ E) i).getD (pos m s (l.getD i 0)) false = (tkS m s l T i).getD (pos m s (l.getD i 0)) false := by
    intro i
    rw [tkS_more m s l T E hm hT]
    have := pos_lt (m := m) (s := s) (x := l.getD i 0) hm
    simp only [List.getD, List.getElem?_append_left (show pos m s (l[i]?.getD 0) < (tkS m s l T i).length by rw [tkS_len, hT]; simpa [List.getD] using this)]
  unfold fits
  constructor
  · intro h i hi; rw [← e]; exact h i hi
  · intro h i hi; rw [e]; exact h i hi
theorem tryS_more {m s : Nat} {l : List Int} {T E : List Bool} (hm : 0 < m) (hT : T.length = m) : tryS m s l (T ++ E) = (tryS m s l T).map (· ++ E) := by
  unfold tryS
  by_cases h : fits m s l T l.length
  · rw [if_pos h, if_pos ((fits_more hm hT).2 h), tkS_more m s l T E hm hT]; rfl
  · rw [if_neg h, if_neg (fun q => h ((fits_more hm hT).1 q))]; rfl
theorem shf_more {m : Nat} (hm : 0 < m) (E : List Bool) : ∀ (bs : List (List Int)) (T : List Bool), T.length = m → shf m bs (T ++ E) = shf m bs T := by
  intro bs
  induction bs with
  | nil => intro T _; rfl
  | cons b bs ih =>
    intro T hT
    rw [shf_cons, shf_cons]
    congr 1
    funext s
    unfold shs
    rw [tryS_more hm hT]
    cases ht : tryS m s b T with
    | none => rfl
    | some T' =>
      have : T'.length = m := by rw [tryS_len ht, hT]
      simp only [Option.map_some]
      rw [ih T' this]
end Go.Proofs.Ytapkalpmnldhpaa
