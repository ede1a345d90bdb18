/-
  The desk: texts cut at a byte, numbers read and written.
-/
import Derived.Test.YtoaiaindcmihjaaGreatDoorN4
namespace Go.Proofs.YtoaiaindcmihjaaGreatDoor

def cst (c : UInt8) (p : List (List UInt8) × List UInt8) (x : UInt8) : List (List UInt8) × List UInt8 := if x = c then (p.1 ++ [p.2], []) else (p.1, p.2 ++ [x])
/-- What is cut off, and what stands behind the last cut. -/
def cut (c : UInt8) (s : List UInt8) : List (List UInt8) × List UInt8 := s.foldl (cst c) ([], [])
/-- The pieces of a text between the bytes of a kind. -/
def pcs (c : UInt8) (s : List UInt8) : List (List UInt8) := (cut c s).1 ++ [(cut c s).2]
theorem cut_snoc (c : UInt8) (s : List UInt8) (x : UInt8) : cut c (s ++ [x]) = cst c (cut c s) x := by simp [cut]
theorem snocU {α : Type} {P : List α → Prop} (h0 : P []) (h1 : ∀ s x, P s → P (s ++ [x])) : ∀ s, P s := by
  have h : ∀ s : List α, P s.reverse := by
    intro s
    induction s with
    | nil => simpa using h0
    | cons x s ih => rw [List.reverse_cons]; exact h1 _ _ ih
  intro s
  have := h s.reverse
  rwa [List.reverse_reverse] at this
theorem takeU {s : List UInt8} {i : Nat} (h : i < s.length) : s.take (i + 1) = s.take i ++ [s.getD i 0] := by
  rw [List.take_succ_eq_append_getElem h]; simp [List.getD, h]
/-- Where the last piece begins. -/
theorem cut_from (c : UInt8) (s : List UInt8) : ∃ f, f ≤ s.length ∧ (cut c s).2 = s.drop f := by
  revert s; refine snocU ⟨0, by simp, by simp [cut]⟩ fun s x ih => ?_
  · obtain ⟨f, h1, h2⟩ := ih
    rw [cut_snoc]
    unfold cst
    by_cases e : x = c
    · rw [if_pos e]; exact ⟨s.length + 1, by simp, by simp⟩
    · rw [if_neg e]
      refine ⟨f, by simp; omega, ?_⟩
      show (cut c s).2 ++ [x] = _
      rw [h2, List.drop_append_of_le_length h1]
theorem cut_len (c : UInt8) (s : List UInt8) : (cut c s).1.length ≤ s.length := by
  revert s; refine snocU (by simp [cut]) fun s x ih => ?_
  · rw [cut_snoc]
    unfold cst
    by_cases e : x = c
    · rw [if_pos e]; simp; omega
    · rw [if_neg e]; simp; omega
/-- One byte more of a number. -/
def rst (n : Int) (c : UInt8) : Int := if n < 0 ∨ n > 1000 ∨ isD c = false then -1 else 10 * n + ((c.toNat : Int) - 48)
def rnm0 (p : List UInt8) : Int := p.foldl rst 0
theorem rnm0_snoc (p : List UInt8) (c : UInt8) : rnm0 (p ++ [c]) = rst (rnm0 p) c := by simp [rnm0]
theorem rnm0_le (p : List UInt8) : -1 ≤ rnm0 p ∧ rnm0 p ≤ 10009 := by
  revert p; refine snocU (by simp [rnm0]) fun p c ih => ?_
  · rw [rnm0_snoc]
    unfold rst
    split
    · omega
    · rename_i h
      have hd : isD c = true := by
        cases e : isD c with
        | true => rfl
        | false => exact absurd (.inr (.inr e)) h
      unfold isD at hd
      have := of_decide_eq_true hd
      omega
/-- The number of a text in decimal, -1 if it is none. -/
def rnm (p : List UInt8) : Int := if p = [] ∨ rnm0 p < 0 ∨ dec (rnm0 p).toNat ≠ p then -1 else rnm0 p
/-- The numbers of a text. -/
def rls (s : List UInt8) : List Int := (pcs 44 s).map rnm
/-- A number of a list, - for those below 0. -/
def num1 (x : Int) : List UInt8 := if x < 0 then [45] else dec x.toNat
/-- Numbers with a comma between two of them. -/
def ltx : List Int → List UInt8
  | [] => []
  | [x] => num1 x
  | x :: y :: l => num1 x ++ [44] ++ ltx (y :: l)
theorem ltx_snoc (l : List Int) (x : Int) : ltx (l ++ [x]) = (if l = [] then [] else ltx l ++ [44]) ++ num1 x := by
  induction l with
  | nil => simp [ltx]
  | cons y l ih =>
    cases l with
    | nil => simp [ltx]
    | cons z l =>
      rw [List.cons_append, List.cons_append, ltx, ← List.cons_append, ih]
      simp [ltx]
end Go.Proofs.YtoaiaindcmihjaaGreatDoor
