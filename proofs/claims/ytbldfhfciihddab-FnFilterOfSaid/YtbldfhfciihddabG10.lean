/-
  PeelKeys: each key is taken from a home of its own, no slot twice, and no key that is left is alone.
-/
import Derived.Test.YtbldfhfciihddabG4
namespace Go.Proofs.Ytbldfhfciihddab

structure Peeled (ts : List (List Int)) (ks ss : List Nat) : Prop where
  len : ks.length = ss.length
  home : ∀ i, i < ks.length → ((ss.getD i 0 : Nat) : Int) ∈ tr ts (ks.getD i 0)
  snod : ss.Nodup
  dry : ∀ s ∈ ss, ∀ k, k < ts.length → at_ ts ks s k = false
theorem Peeled.start (ts : List (List Int)) : Peeled ts [] [] := ⟨rfl, fun i h => by simp at h, by simp, fun s h => by simp at h⟩
theorem Peeled.step {M : Nat} {ts : List (List Int)} {ks ss : List Nat} {k s : Nat} (h : Peeled ts ks ss) (hn : nxt ts ks M 0 = some (k, s)) : Peeled ts (ks ++ [k]) (ss ++ [s]) := by
  obtain ⟨a, _, b, _⟩ := nxt_some _ _ _ _ hn
  obtain ⟨a1, a2, a3⟩ := alone_some a
  have hl := h.len
  refine ⟨by simp [hl], fun i hi => ?_, ?_, fun u hu j hj => ?_⟩
  · by_cases e : i < ks.length
    · have := h.home i e
      simp only [List.getD_eq_getElem?_getD] at this ⊢
      rw [List.getElem?_append_left e, List.getElem?_append_left (by omega)]
      exact this
    · have : i = ks.length := by simp at hi; omega
      subst this
      simp only [List.getD_eq_getElem?_getD]
      rw [List.getElem?_append_right (by omega), List.getElem?_append_right (by omega)]
      simp only [at_, Bool.and_eq_true] at a2
      simpa [hl] using a2.2
  · rw [List.nodup_append]
    refine ⟨h.snod, by simp, fun x hx y hy => ?_⟩
    simp at hy
    subst hy
    rintro rfl
    have := h.dry x hx k a1
    rw [this] at a2; cases a2
  · have sub : at_ ts (ks ++ [k]) u j = true → at_ ts ks u j = true ∧ j ≠ k := by
      intro h1
      simp [at_] at h1 ⊢
      exact ⟨⟨h1.1.1, h1.2⟩, h1.1.2⟩
    cases hx : at_ ts (ks ++ [k]) u j with
    | false => rfl
    | true =>
      obtain ⟨h1, h2⟩ := sub hx
      rcases List.mem_append.1 hu with hu | hu
      · rw [h.dry u hu j hj] at h1; cases h1
      · simp at hu
        subst hu
        have : j ∈ lf ts ks u ts.length := by unfold lf; rw [List.mem_filter]; exact ⟨by simpa using hj, h1⟩
        rw [a3] at this
        simp at this
        exact absurd this h2
theorem pel_peeled {M : Nat} {ts : List (List Int)} : ∀ f ks ss, Peeled ts ks ss → Peeled ts (pel M ts f ks ss).1 (pel M ts f ks ss).2 := by
  intro f
  induction f with
  | zero => intro ks ss h; exact h
  | succ f ih =>
    intro ks ss h
    cases e : nxt ts ks M 0 with
    | none => simp only [pel, e]; exact h
    | some q => obtain ⟨k, s⟩ := q; simp only [pel, e]; exact ih _ _ (h.step e)
theorem pel_end {M : Nat} {ts : List (List Int)} : ∀ f ks ss, more ts ks < f → nxt ts (pel M ts f ks ss).1 M 0 = none := by
  intro f
  induction f with
  | zero => intro ks ss h; omega
  | succ f ih =>
    intro ks ss h
    cases e : nxt ts ks M 0 with
    | none => simp only [pel, e]
    | some q =>
      obtain ⟨k, s⟩ := q
      simp only [pel, e]
      obtain ⟨a, _⟩ := nxt_some _ _ _ _ e
      obtain ⟨a1, a2, _⟩ := alone_some a
      have := more_lt a1 a2
      exact ih _ _ (by omega)
theorem plk_peeled (M : Nat) (ts : List (List Int)) : Peeled ts (plk M ts).1 (plk M ts).2 := pel_peeled _ _ _ (Peeled.start ts)
theorem plk_end (M : Nat) (ts : List (List Int)) : ∀ s, s < M → (lf ts (plk M ts).1 s ts.length).length ≠ 1 := by
  intro s hs e
  have h1 := pel_end (M := M) (ts := ts) (ts.length + 1) [] [] (by have := more_le ts []; omega)
  have h2 := nxt_none _ _ h1 s (by omega) (by omega)
  unfold alone at h2
  have e' : (lf ts (pel M ts (ts.length + 1) [] []).1 s ts.length).length = 1 := e
  rw [if_pos e'] at h2
  cases h2

theorem ints_mem {l : List Nat} {x : Nat} : ((x : Nat) : Int) ∈ ints l ↔ x ∈ l := by
  simp only [ints, List.mem_map]
  constructor
  · rintro ⟨a, ha, e⟩
    obtain rfl : a = x := by omega
    exact ha
  · exact fun h => ⟨x, h, rfl⟩
/-- The law's three tests at key i. -/
theorem peel_tests {ts : List (List Int)} {ks ss : List Nat} (h : Peeled ts ks ss) (hk : ks.Nodup) {i : Nat} (hi : i < ks.length) :
    (ints ss).getD i 0 ∈ tr ts (ks.getD i 0) ∧ (ints ks).getD i 0 ∉ (ints ks).take i ∧ (ints ss).getD i 0 ∉ (ints ss).take i := by
  have hl := h.len
  have nodup : ∀ l : List Nat, l.Nodup → i < l.length → (ints l).getD i 0 ∉ (ints l).take i := by
    intro l hn hil hm
    rw [ints_get hil, ints, ← List.map_take] at hm
    have h1 : l.getD i 0 ∈ l.take i := ints_mem.1 hm
    obtain ⟨j, hj, e⟩ := List.getElem_of_mem h1
    have hj2 : j < i := by simp at hj; omega
    rw [List.getElem_take] at e
    have e2 : l[j]'(by omega) = l[i] := by rw [e]; simp [List.getD, hil]
    exact (List.pairwise_iff_getElem.1 hn) j i (by omega) hil hj2 e2
  refine ⟨by rw [ints_get (by omega)]; exact h.home i hi, nodup ks hk hi, nodup ss h.snod (by omega)⟩
end Go.Proofs.Ytbldfhfciihddab
