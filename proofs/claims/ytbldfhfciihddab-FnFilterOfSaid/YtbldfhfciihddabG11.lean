/-
  The filter: the numbers at the slots of each key, put together, are its print.
-/
import Derived.Test.YtbldfhfciihddabG10
import Derived.Test.YtbldfhfciihddabG5
namespace Go.Proofs.Ytbldfhfciihddab

/-- No slot is a home of a key that is taken later. -/
def Late (ts : List (List Int)) (ks ss : List Nat) : Prop := ∀ i j, i < j → j < ks.length → ((ss.getD i 0 : Nat) : Int) ∉ tr ts (ks.getD j 0)
theorem Late.step {M : Nat} {ts : List (List Int)} {ks ss : List Nat} {k s : Nat} (h : Late ts ks ss) (hp : Peeled ts ks ss) (hn : nxt ts ks M 0 = some (k, s)) : Late ts (ks ++ [k]) (ss ++ [s]) := by
  obtain ⟨a, _, _, _⟩ := nxt_some _ _ _ _ hn
  obtain ⟨a1, a2, _⟩ := alone_some a
  have hl := hp.len
  intro i j hij hj
  rw [List.length_append, List.length_singleton] at hj
  have e1 : (ss ++ [s]).getD i 0 = ss.getD i 0 := by
    simp only [List.getD_eq_getElem?_getD]
    rw [List.getElem?_append_left (by omega)]
  rw [e1]
  by_cases e : j < ks.length
  · have e2 : (ks ++ [k]).getD j 0 = ks.getD j 0 := by
      simp only [List.getD_eq_getElem?_getD]
      rw [List.getElem?_append_left e]
    rw [e2]
    exact h i j hij e
  · obtain rfl : j = ks.length := by omega
    have e2 : (ks ++ [k]).getD ks.length 0 = k := by simp
    rw [e2]
    have hi : i < ss.length := by omega
    have hm : ss.getD i 0 ∈ ss := by simp [List.getD, hi]
    have := hp.dry _ hm k a1
    intro hc
    simp only [at_, Bool.and_eq_true] at a2
    simp only [at_, a2.1, Bool.true_and] at this
    simp only [List.contains_eq_mem, decide_eq_false_iff_not] at this
    exact this hc
theorem pel_late {M : Nat} {ts : List (List Int)} : ∀ f ks ss, Peeled ts ks ss → Late ts ks ss → Late ts (pel M ts f ks ss).1 (pel M ts f ks ss).2 := by
  intro f
  induction f with
  | zero => intro ks ss _ h; exact h
  | succ f ih =>
    intro ks ss hp h
    cases e : nxt ts ks M 0 with
    | none => simp only [pel, e]; exact h
    | some q => obtain ⟨k, s⟩ := q; simp only [pel, e]; exact ih _ _ (hp.step e) (h.step hp e)
theorem plk_late (M : Nat) (ts : List (List Int)) : Late ts (plk M ts).1 (plk M ts).2 := pel_late _ _ _ (Peeled.start ts) fun i j _ hj => by simp at hj
/-- The numbers at a key's slots. -/
def x3 (L : List Nat) (a b c : Nat) : Nat := (L.getD a 0 ^^^ L.getD b 0) ^^^ L.getD c 0
theorem getD_setG (l : List Nat) (i j x : Nat) : (l.set i x).getD j 0 = if i = j ∧ j < l.length then x else l.getD j 0 := by
  simp only [List.getD, List.getElem?_set]
  by_cases e : i = j
  · subst e
    by_cases h : i < l.length <;> simp [h]
  · simp [e]
theorem x3_set {L : List Nat} {s p a b c : Nat} (hs : s < L.length) (h0 : L.getD s 0 = 0) (hab : a ≠ b) (hac : a ≠ c) (hbc : b ≠ c) (he : s = a ∨ s = b ∨ s = c) :
    x3 (L.set s (((p ^^^ L.getD a 0) ^^^ L.getD b 0) ^^^ L.getD c 0)) a b c = p := by
  unfold x3
  rcases he with rfl | rfl | rfl
  · rw [getD_setG, if_pos ⟨rfl, hs⟩, getD_setG, if_neg (fun h => hab h.1), getD_setG, if_neg (fun h => hac h.1), h0, Nat.xor_zero]
    generalize L.getD b 0 = x, L.getD c 0 = y
    rw [Nat.xor_assoc _ x y, Nat.xor_assoc p x y, Nat.xor_assoc p, Nat.xor_self, Nat.xor_zero]
  · rw [getD_setG, if_neg (fun h => hab h.1.symm), getD_setG, if_pos ⟨rfl, hs⟩, getD_setG, if_neg (fun h => hbc h.1), h0, Nat.xor_zero]
    generalize L.getD a 0 = x, L.getD c 0 = y
    rw [Nat.xor_comm x, Nat.xor_assoc, Nat.xor_assoc (p ^^^ x), Nat.xor_comm x y, ← Nat.xor_assoc y, Nat.xor_self, Nat.zero_xor, Nat.xor_assoc, Nat.xor_self, Nat.xor_zero]
  · rw [getD_setG, if_neg (fun h => hac h.1.symm), getD_setG, if_neg (fun h => hbc h.1.symm), getD_setG, if_pos ⟨rfl, hs⟩, h0, Nat.xor_zero]
    generalize L.getD a 0 = x, L.getD b 0 = y
    rw [Nat.xor_assoc p, Nat.xor_comm p, ← Nat.xor_assoc, Nat.xor_self, Nat.zero_xor]
theorem home_of {M : Nat} {ts : List (List Int)} (h : Trp M ts) {k s : Nat} (hk : k < ts.length) (hs : (s : Int) ∈ tr ts k) : s = th ts k 0 ∨ s = th ts k 1 ∨ s = th ts k 2 := by
  have h3 := (h.three hk).1
  obtain ⟨i, hi, e⟩ := List.getElem_of_mem hs
  have e2 : (tr ts k).getD i 0 = (s : Int) := by simp [List.getD, hi, e]
  have : i = 0 ∨ i = 1 ∨ i = 2 := by omega
  unfold th
  rcases this with rfl | rfl | rfl
  · left; omega
  · right; left; omega
  · right; right; omega
theorem home_ne {M : Nat} {ts : List (List Int)} (h : Trp M ts) {k : Nat} (hk : k < ts.length) : th ts k 0 ≠ th ts k 1 ∧ th ts k 0 ≠ th ts k 2 ∧ th ts k 1 ≠ th ts k 2 := by
  have h4 := three_iff.1 (h.fit k hk)
  have a := (h.th hk (j := 0) (by omega)).1
  have b := (h.th hk (j := 1) (by omega)).1
  have c := (h.th hk (j := 2) (by omega)).1
  omega
theorem home_in {M : Nat} {ts : List (List Int)} (h : Trp M ts) {k : Nat} (hk : k < ts.length) {j : Nat} (hj : j < 3) : ((th ts k j : Nat) : Int) ∈ tr ts k := by
  have h3 := (h.three hk).1
  rw [← (h.th hk hj).1]
  simp [List.getD, show j < (tr ts k).length from by omega]
/-- From the key n - j on each one's print lies at its slots; the slots of those ahead hold 0. -/
structure Fill (ts : List (List Int)) (ps : List Nat) (K S L : List Nat) (j : Nat) : Prop where
  tells : ∀ i, K.length - j ≤ i → i < K.length → x3 L (th ts (K.getD i 0) 0) (th ts (K.getD i 0) 1) (th ts (K.getD i 0) 2) = ps.getD (K.getD i 0) 0
  zero : ∀ i, i < K.length - j → L.getD (S.getD i 0) 0 = 0
theorem fl_fill {M : Nat} {ts : List (List Int)} {ps K S : List Nat} (h : Trp M ts) (hK : Taken M ts K S) (hP : Peeled ts K S) (hL : Late ts K S) : ∀ j, j ≤ K.length → Fill ts ps K S (fl M ts ps K S j) j := by
  intro j
  have hlen := hP.len
  have inj : ∀ a b, a < S.length → b < S.length → S.getD a 0 = S.getD b 0 → a = b := by
    intro a b ha hb e
    simp only [List.getD, List.getElem?_eq_getElem ha, List.getElem?_eq_getElem hb, Option.getD_some] at e
    have hp := List.pairwise_iff_getElem.1 hP.snod
    rcases Nat.lt_trichotomy a b with hl | hl | hl
    · exact (hp a b ha hb hl e).elim
    · exact hl
    · exact (hp b a hb ha hl e.symm).elim
  induction j with
  | zero =>
    intro _
    refine ⟨fun i h1 h2 => by omega, fun i _ => ?_⟩
    simp only [fl, List.getD, List.getElem?_replicate]
    split <;> rfl
  | succ j ih =>
    intro hj
    obtain ⟨h1, h2⟩ := ih (by omega)
    have hi0 : K.length - 1 - j < K.length := by omega
    obtain ⟨i0, e0⟩ : ∃ i0, i0 = K.length - 1 - j := ⟨_, rfl⟩
    rw [← e0] at hi0
    have hk0 : K.getD i0 0 < ts.length := hK.key _ (by simp [List.getD, hi0])
    have hs0 : S.getD i0 0 < M := hK.slot _ (by simp [List.getD, show i0 < S.length from by omega])
    have hz := h2 i0 (by omega)
    have hne := home_ne h hk0
    have hh := home_of h hk0 (hP.home i0 hi0)
    rw [fl, ← e0]
    obtain ⟨L, hLL⟩ : ∃ L, L = fl M ts ps K S j := ⟨_, rfl⟩
    have hlL : L.length = M := by rw [hLL]; exact fl_len _ _ _ _ _ _
    rw [← hLL] at hz h1 h2 ⊢
    refine ⟨fun i h3 h4 => ?_, fun i h3 => ?_⟩
    · by_cases e : i = i0
      · subst e
        exact x3_set (by omega) hz hne.1 hne.2.1 hne.2.2 hh
      · have hki : K.getD i 0 < ts.length := hK.key _ (by simp [List.getD, h4])
        have hno : ∀ q, q < 3 → S.getD i0 0 ≠ th ts (K.getD i 0) q := by
          intro q hq hc
          refine hL i0 i (by omega) h4 ?_
          rw [hc]
          exact home_in h hki hq
        have := h1 i (by omega) h4
        unfold x3 at this ⊢
        rw [getD_setG, if_neg (fun hc => hno 0 (by omega) hc.1), getD_setG, if_neg (fun hc => hno 1 (by omega) hc.1), getD_setG, if_neg (fun hc => hno 2 (by omega) hc.1)]
        exact this
    · have hii : S.getD i0 0 ≠ S.getD i 0 := fun hc => by
        have := inj i0 i (by omega) (by omega) hc
        omega
      rw [getD_setG, if_neg (fun hc => hii hc.1)]
      exact h2 i (by omega)
/-- All keys are taken: each one's print is told. -/
theorem flt_tells {M : Nat} {ts : List (List Int)} {ps : List Nat} (h : Trp M ts) (hall : ¬ (plk M ts).1.length < ts.length) {k : Nat} (hk : k < ts.length) :
    x3 (flt M ts ps) (th ts k 0) (th ts k 1) (th ts k 2) = ps.getD k 0 := by
  have hT := plk_taken M ts
  have hF := fl_fill (ps := ps) h hT (plk_peeled M ts) (plk_late M ts) (plk M ts).1.length (Nat.le_refl _)
  have hm : k ∈ (plk M ts).1 := by
    have hc := hT.count
    have h0 : more ts (plk M ts).1 = 0 := by omega
    unfold more at h0
    rw [List.countP_eq_zero] at h0
    have := h0 k (by simpa using hk)
    simpa using this
  obtain ⟨i, hi, e⟩ := List.getElem_of_mem hm
  have := hF.tells i (by omega) hi
  rw [show (plk M ts).1.getD i 0 = k from by simp [List.getD, hi, e]] at this
  exact this
theorem FO_ok {m : Int} {ts : List (List Int)} {ps : List Int} (h : (FO m ts ps).2 = true) : ∃ (M : Nat) (qs : List Nat), m = M ∧ ps = ints qs ∧ Trp M ts ∧ qs.length = ts.length ∧ (∀ x ∈ qs, x < 256) ∧ ¬ (plk M ts).1.length < ts.length ∧ FO m ts ps = (ints (flt M ts qs), true) := by
  unfold FO at h ⊢
  by_cases c : TV m ts = true ∧ PR ts.length ps = true ∧ ¬ (plk m.toNat ts).1.length < ts.length
  · rw [if_pos c]
    obtain ⟨M, rfl, hT⟩ := Trp.of_TV c.1
    obtain ⟨qs, rfl, hq1, hq2⟩ := PR_nats c.2.1
    refine ⟨M, qs, rfl, rfl, hT, hq1, hq2, c.2.2, ?_⟩
    have : (ints qs).map Int.toNat = qs := by simp [ints, List.map_map, Function.comp_def]
    rw [this]; rfl
  · rw [if_neg c] at h; simp at h
end Go.Proofs.Ytbldfhfciihddab
