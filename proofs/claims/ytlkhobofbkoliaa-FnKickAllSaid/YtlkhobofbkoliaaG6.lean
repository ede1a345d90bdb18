/-
  The plain mathematics of chapter 2: what the laws of groups and of room ask.
-/
import Derived.Test.YtlkhobofbkoliaaG2
import Derived.Test.YtlkhobofbkoliaaG3
namespace Go.Proofs.Ytlkhobofbkoliaa

/-- How many of the first k slots are their own groups. -/
def reps (X : List Int) (k : Nat) : Nat := (List.range k).countP fun s => X.getD s 0 == (s : Int)
theorem reps_zero (X : List Int) : reps X 0 = 0 := rfl
theorem reps_yes {X : List Int} {k : Nat} (h : X.getD k 0 = k) : reps X (k + 1) = reps X k + 1 := by
  unfold reps; rw [List.range_succ, List.countP_append, List.countP_singleton, h]; simp
theorem reps_no {X : List Int} {k : Nat} (h : X.getD k 0 ≠ k) : reps X (k + 1) = reps X k := by
  have e : ¬ (X.getD k 0 == (k : Int)) = true := by simpa using h
  unfold reps; rw [List.range_succ, List.countP_append, List.countP_singleton, if_neg e]; omega
theorem reps_le (X : List Int) (k : Nat) : reps X k ≤ k := by
  have := List.countP_le_length (p := fun s : Nat => X.getD s 0 == (s : Int)) (l := List.range k)
  simpa [reps] using this
theorem one_max (c : Int) (n : Nat) : (List.range n).countP (fun s : Nat => c == (s : Int)) ≤ 1 ∧ ((n : Int) ≤ c → (List.range n).countP (fun s : Nat => c == (s : Int)) = 0) := by
  induction n with
  | zero => simp
  | succ n ih =>
    rw [List.range_succ, List.countP_append, List.countP_singleton]
    by_cases h : c = n
    · have := ih.2 (by omega)
      have e : (c == (n : Int)) = true := by simp [h]
      rw [if_pos e, this]
      exact ⟨by omega, fun hh => by omega⟩
    · have e : ¬ (c == (n : Int)) = true := by simpa using h
      rw [if_neg e]
      exact ⟨by omega, fun hh => by have := ih.2 (by omega); omega⟩
theorem countP_or {α : Type} {p q r : α → Bool} {l : List α} (h : ∀ x ∈ l, p x = true → q x = true ∨ r x = true) : l.countP p ≤ l.countP q + l.countP r := by
  induction l with
  | nil => simp
  | cons y l ih =>
    have := ih fun x hx => h x (by simp [hx])
    have hy := h y (by simp)
    simp only [List.countP_cons]
    by_cases e : p y = true
    · rcases hy e with e2 | e2
      · simp [e, e2]; omega
      · simp [e, e2]; omega
    · simp [e]; omega
theorem reps_gr {M : Nat} {l : List (Int × Int)} (h : Prs M l) : ∀ k, k ≤ l.length → M ≤ reps (gr M l k) M + k := by
  intro k
  induction k with
  | zero =>
    intro _
    have : reps (gr M l 0) M = M := by
      unfold reps gr
      have e : (List.range M).countP (fun s : Nat => ((List.range M).map fun s : Nat => (s : Int)).getD s 0 == (s : Int)) = (List.range M).length := by
        rw [List.countP_eq_length]
        intro s hs
        have : s < M := by simpa using hs
        simp [List.getD, this]
      rw [e]; simp
    omega
  | succ k ih =>
    intro hk
    have i1 := ih (by omega)
    obtain ⟨g, _⟩ := gr_inv h k (by omega)
    obtain ⟨x, hx⟩ : ∃ x, (gr M l k).getD (hA l k) 0 = x := ⟨_, rfl⟩
    obtain ⟨y, hy⟩ : ∃ y, (gr M l k).getD (hB l k) 0 = y := ⟨_, rfl⟩
    have hJ : gr M l (k + 1) = join (gr M l k) x y := by rw [gr, hx, hy]
    rw [hJ]
    have hl := g.len
    have h2 : reps (gr M l k) M ≤ reps (join (gr M l k) x y) M + (List.range M).countP (fun s : Nat => max x y == (s : Int)) := by
      unfold reps
      refine countP_or fun s hs hp => ?_
      have hsM : s < M := by simpa using hs
      rw [join_get (by omega)]
      have hp' : (gr M l k).getD s 0 = s := by simpa using hp
      rw [hp']
      by_cases e : (s : Int) = x ∨ (s : Int) = y
      · rw [if_pos e]
        by_cases e2 : min x y = s
        · left; simpa using e2
        · right
          have : max x y = s := by omega
          simpa using this
      · rw [if_neg e]; left; simp
    have := (one_max (max x y) M).1
    omega
/-- What the law of GroupsOf asks. -/
theorem gra_law {M : Nat} {l : List (Int × Int)} (h : Prs M l) : (∀ s, s < M → 0 ≤ (gra M l).getD s 0 ∧ (gra M l).getD s 0 ≤ s ∧ (gra M l).getD ((gra M l).getD s 0).toNat 0 = (gra M l).getD s 0) ∧ M ≤ reps (gra M l) M + l.length := by
  obtain ⟨g, hs⟩ := gra_inv h
  refine ⟨fun s hsM => ⟨(g.le s hsM).1, (g.le s hsM).2, ?_⟩, reps_gr h _ (Nat.le_refl _)⟩
  exact (g.conn s hsM (fun t => (gra M l).getD t 0) hs).symm

/-- The pairs with both homes exchanged. -/
def exch (l : List (Int × Int)) : List (Int × Int) := l.map fun p => (p.2, p.1)
theorem exch_len (l : List (Int × Int)) : (exch l).length = l.length := by simp [exch]
theorem exch_A {l : List (Int × Int)} {k : Nat} (h : k < l.length) : pA (exch l) k = pB l k := by
  rw [pA_eq (by rw [exch_len]; exact h), pB_eq h]; simp [exch]
theorem exch_B {l : List (Int × Int)} {k : Nat} (h : k < l.length) : pB (exch l) k = pA l k := by
  rw [pB_eq (by rw [exch_len]; exact h), pA_eq h]; simp [exch]
theorem exch_VP {m : Int} {l : List (Int × Int)} (h : VP m l = true) : VP m (exch l) = true := by
  rw [VP_iff] at h ⊢
  obtain ⟨h1, h2, h3, h4⟩ := h
  refine ⟨h1, h2, by rw [exch_len]; exact h3, fun i hi => ?_⟩
  rw [exch_len] at hi
  rw [exch_A hi, exch_B hi]
  have := h4 i hi
  omega
theorem exch_Prs {M : Nat} {l : List (Int × Int)} (h : Prs M l) : Prs M (exch l) :=
  ⟨h.pos, h.le, by rw [exch_len]; exact h.len, (VP_iff.1 (exch_VP h.VP)).2.2.2⟩
theorem exch_gra {M : Nat} {l : List (Int × Int)} (h : Prs M l) : gra M (exch l) = gra M l := by
  obtain ⟨g, hs⟩ := gra_inv (exch_Prs h)
  have hc : ∀ s t, Conn (exch l) s t → Conn l s t := by
    intro s t hst X hX
    refine hst X fun k hk => ?_
    rw [exch_len] at hk
    have := hX k hk
    unfold hA hB at this ⊢
    rw [exch_A hk, exch_B hk]
    exact this.symm
  refine gra_eq h ⟨g.len, g.le, fun s hsM => hc _ _ (g.conn s hsM)⟩ fun i hi => ?_
  have := hs i (by rw [exch_len]; exact hi)
  unfold hA hB at this ⊢
  rw [exch_A hi, exch_B hi] at this
  exact this.symm
theorem exch_rmy {M : Nat} {l : List (Int × Int)} (h : Prs M l) : rmy M (exch l) = rmy M l := by
  have hS := (gra_inv h).2
  have e : ∀ g, cK (exch l) (gra M l) g = cK l (gra M l) g := by
    intro g
    unfold cK exch
    rw [List.countP_map]
    refine List.countP_congr fun p hp => ?_
    obtain ⟨i, hi, rfl⟩ := List.getElem_of_mem hp
    have := hS i hi
    unfold hA hB at this
    rw [pA_eq hi, pB_eq hi] at this
    simp only [Function.comp]
    rw [this]
  unfold rmy
  rw [exch_gra h]
  simp only [e]
theorem exch_IRm {m : Int} {l : List (Int × Int)} (h : VP m l = true) : IRm m (exch l) = IRm m l := by
  obtain ⟨M, rfl, hP⟩ := Prs.of_VP h
  unfold IRm
  rw [exch_VP h, h]
  simp only [Bool.true_and, Int.toNat_natCast]
  exact exch_rmy hP
end Go.Proofs.Ytlkhobofbkoliaa
