/-
  The plain mathematics of chapter 4: turns.
-/
import Derived.Test.YtjkcahmbocjacaaR1
namespace Go.Proofs.Ytjkcahmbocjacaa

/-- The place of try j of a server. -/
def tp (a b j : Nat) : Nat := (a + j * b) % 13
theorem tp_lt (a b j : Nat) : tp a b j < 13 := by unfold tp; omega
theorem tp_all : ∀ a b s : Fin 13, 0 < b.val → ∃ j : Fin 13, tp a.val b.val j.val = s.val := by decide +kernel
theorem tp_succ (a b j : Nat) : tp a b (j + 1) = (tp a b j + b) % 13 := by
  unfold tp; rw [Nat.succ_mul]; omega
/-- The first try from j on that finds a slot free. -/
def fjr (T : List Int) (a b : Nat) : Nat → Nat → Nat
  | 0, j => j
  | f + 1, j => if T.getD (tp a b j) 0 < 0 then j else fjr T a b f (j + 1)
def fj (T : List Int) (a b : Nat) : Nat := fjr T a b 13 0
theorem fjr_spec (T : List Int) (a b : Nat) : ∀ f j, (∃ i, i < f ∧ T.getD (tp a b (j + i)) 0 < 0) → T.getD (tp a b (fjr T a b f j)) 0 < 0 ∧ j ≤ fjr T a b f j ∧ fjr T a b f j < j + f ∧ ∀ i, j ≤ i → i < fjr T a b f j → ¬ T.getD (tp a b i) 0 < 0 := by
  intro f
  induction f with
  | zero => rintro j ⟨i, hi, _⟩; omega
  | succ f ih =>
    rintro j ⟨i, hi, h⟩
    rw [fjr]
    by_cases c : T.getD (tp a b j) 0 < 0
    · rw [if_pos c]; exact ⟨c, Nat.le_refl _, by omega, fun i h1 h2 => by omega⟩
    · rw [if_neg c]
      have hi0 : i ≠ 0 := fun e => by subst e; exact c h
      obtain ⟨h1, h2, h3, h4⟩ := ih (j + 1) ⟨i - 1, by omega, by rw [show j + 1 + (i - 1) = j + i from by omega]; exact h⟩
      refine ⟨h1, by omega, by omega, fun i' h5 h6 => ?_⟩
      by_cases e : i' = j
      · subst e; exact c
      · exact h4 i' (by omega) h6
/-- A table with a free slot. -/
def HasFree (T : List Int) : Prop := ∃ s, s < 13 ∧ T.getD s 0 < 0
theorem fj_spec {T : List Int} {a b : Nat} (ha : a < 13) (hb : b < 13) (h0 : 0 < b) (h : HasFree T) : T.getD (tp a b (fj T a b)) 0 < 0 ∧ fj T a b < 13 ∧ ∀ i, i < fj T a b → ¬ T.getD (tp a b i) 0 < 0 := by
  obtain ⟨s, hs, hf⟩ := h
  obtain ⟨j, hj⟩ := tp_all ⟨a, ha⟩ ⟨b, hb⟩ ⟨s, hs⟩ h0
  simp only at hj
  obtain ⟨h1, _, h3, h4⟩ := fjr_spec T a b 13 0 ⟨j.val, j.isLt, by rw [Nat.zero_add, hj]; exact hf⟩
  exact ⟨h1, by unfold fj; omega, fun i hi => h4 i (Nat.zero_le _) hi⟩
theorem fj_uniq {T : List Int} {a b j : Nat} (ha : a < 13) (hb : b < 13) (h0 : 0 < b) (h : T.getD (tp a b j) 0 < 0) (h1 : ∀ i, i < j → ¬ T.getD (tp a b i) 0 < 0) : fj T a b = j := by
  obtain ⟨h2, _, h4⟩ := fj_spec ha hb h0 (T := T) ⟨_, tp_lt a b j, h⟩
  rcases Nat.lt_trichotomy (fj T a b) j with hl | hl | hl
  · exact (h1 _ hl h2).elim
  · exact hl
  · exact (h4 _ hl h).elim

/-- From and Skip of server s. -/
def tfr (tu : List (Int × Int)) (s : Nat) : Nat := (tu.getD s (0, 0)).1.toNat
def tsk (tu : List (Int × Int)) (s : Nat) : Nat := (tu.getD s (0, 0)).2.toNat
/-- The table when n slots are taken. -/
def tt (tu : List (Int × Int)) : Nat → List Int
  | 0 => List.replicate 13 (-1)
  | n + 1 => (tt tu n).set (tp (tfr tu (n % tu.length)) (tsk tu (n % tu.length)) (fj (tt tu n) (tfr tu (n % tu.length)) (tsk tu (n % tu.length)))) ((n % tu.length : Nat) : Int)
theorem tt_len (tu : List (Int × Int)) (n : Nat) : (tt tu n).length = 13 := by
  induction n with
  | zero => simp [tt]
  | succ n ih => simp [tt, ih]
def FitU (tu : List (Int × Int)) (k : Nat) : Prop := ∀ i, i < k → (0 ≤ (tu.getD i (0, 0)).1 ∧ (tu.getD i (0, 0)).1 ≤ 12) ∧ 1 ≤ (tu.getD i (0, 0)).2 ∧ (tu.getD i (0, 0)).2 ≤ 12
/-- The turns are right ones. -/
def VU (tu : List (Int × Int)) : Bool := decide (1 ≤ tu.length) && decide (tu.length ≤ 6) && decide (∀ i, i < tu.length → (0 ≤ (tu.getD i (0, 0)).1 ∧ (tu.getD i (0, 0)).1 ≤ 12) ∧ 1 ≤ (tu.getD i (0, 0)).2 ∧ (tu.getD i (0, 0)).2 ≤ 12)
theorem VU_iff {tu : List (Int × Int)} : VU tu = true ↔ 1 ≤ tu.length ∧ tu.length ≤ 6 ∧ FitU tu tu.length := by
  simp only [VU, FitU, Bool.and_eq_true, decide_eq_true_eq, and_assoc]
theorem VU_false {tu : List (Int × Int)} (h : ¬ (1 ≤ tu.length ∧ tu.length ≤ 6 ∧ FitU tu tu.length)) : VU tu = false := by rw [← VU_iff] at h; simpa using h
theorem FitU.zero (tu : List (Int × Int)) : FitU tu 0 := fun i hi => by omega
theorem FitU.succ {tu : List (Int × Int)} {k : Nat} (h : FitU tu k) (h0 : 0 ≤ (tu.getD k (0, 0)).1) (h1 : (tu.getD k (0, 0)).1 ≤ 12) (h2 : 1 ≤ (tu.getD k (0, 0)).2) (h3 : (tu.getD k (0, 0)).2 ≤ 12) : FitU tu (k + 1) := by
  intro i hi
  by_cases e : i = k
  · subst e; exact ⟨⟨h0, h1⟩, h2, h3⟩
  · exact h i (by omega)
theorem VU_get {tu : List (Int × Int)} (h : VU tu = true) {s : Nat} (hs : s < tu.length) : (tu.getD s (0, 0)).1 = (tfr tu s : Int) ∧ (tu.getD s (0, 0)).2 = (tsk tu s : Int) ∧ tfr tu s < 13 ∧ tsk tu s < 13 ∧ 0 < tsk tu s := by
  have := (VU_iff.1 h).2.2 s hs
  unfold tfr tsk
  omega
theorem VU_mod {tu : List (Int × Int)} (h : VU tu = true) (n : Nat) : n % tu.length < tu.length := Nat.mod_lt _ (VU_iff.1 h).1
/-- How many slots are free. -/
theorem cnt_set {T : List Int} {i : Nat} (hi : i < T.length) (p : Int → Bool) (x : Int) : (T.set i x).countP p + (if p (T.getD i 0) = true then 1 else 0) = T.countP p + (if p x = true then 1 else 0) := by
  induction T generalizing i with
  | nil => simp at hi
  | cons y T ih =>
    cases i with
    | zero => simp only [List.set, List.countP_cons, List.getD_cons_zero]; omega
    | succ i =>
      have := ih (i := i) (by simpa using hi)
      simp only [List.set, List.countP_cons, List.getD_cons_succ]; omega
theorem free_of {T : List Int} (hl : T.length = 13) (h : 0 < T.countP fun x => decide (x < 0)) : HasFree T := by
  obtain ⟨x, hx, hp⟩ := List.countP_pos_iff.1 h
  obtain ⟨s, hs, rfl⟩ := List.getElem_of_mem hx
  refine ⟨s, by omega, ?_⟩
  simpa [List.getD, hs] using hp
theorem tt_free {tu : List (Int × Int)} (h : VU tu = true) (n : Nat) (hn : n ≤ 13) : (tt tu n).countP (fun x => decide (x < 0)) = 13 - n := by
  induction n with
  | zero => simp [tt]
  | succ n ih =>
    have i1 := ih (by omega)
    have hf := free_of (tt_len tu n) (by omega)
    obtain ⟨_, _, h3, h4, h5⟩ := VU_get h (VU_mod h n)
    have h6 := (fj_spec h3 h4 h5 hf).1
    have h7 := cnt_set (T := tt tu n) (i := tp (tfr tu (n % tu.length)) (tsk tu (n % tu.length)) (fj (tt tu n) (tfr tu (n % tu.length)) (tsk tu (n % tu.length)))) (by rw [tt_len]; exact tp_lt _ _ _) (fun x => decide (x < 0)) ((n % tu.length : Nat) : Int)
    simp only [h6, decide_true, if_true] at h7
    rw [if_neg (by simp; omega)] at h7
    rw [tt]; omega
theorem tt_has {tu : List (Int × Int)} (h : VU tu = true) {n : Nat} (hn : n < 13) : HasFree (tt tu n) := free_of (tt_len tu n) (by rw [tt_free h n (by omega)]; omega)
theorem tt_fj {tu : List (Int × Int)} (h : VU tu = true) {n : Nat} (hn : n < 13) : (tt tu n).getD (tp (tfr tu (n % tu.length)) (tsk tu (n % tu.length)) (fj (tt tu n) (tfr tu (n % tu.length)) (tsk tu (n % tu.length)))) 0 < 0 ∧ fj (tt tu n) (tfr tu (n % tu.length)) (tsk tu (n % tu.length)) < 13 ∧ ∀ i, i < fj (tt tu n) (tfr tu (n % tu.length)) (tsk tu (n % tu.length)) → ¬ (tt tu n).getD (tp (tfr tu (n % tu.length)) (tsk tu (n % tu.length)) i) 0 < 0 := by
  obtain ⟨_, _, h3, h4, h5⟩ := VU_get h (VU_mod h n)
  exact fj_spec h3 h4 h5 (tt_has h hn)
theorem getD_rep {i : Nat} (hi : i < 13) : (List.replicate 13 (-1 : Int)).getD i 0 = -1 := by simp only [List.getD, List.getElem?_replicate, if_pos hi, Option.getD_some]
theorem tt_cell {tu : List (Int × Int)} (hv : VU tu = true) (n i : Nat) (hi : i < 13) : -1 ≤ (tt tu n).getD i 0 ∧ (tt tu n).getD i 0 < tu.length := by
  induction n with
  | zero => rw [tt, getD_rep hi]; omega
  | succ n ih =>
    rw [tt, List.getD]
    by_cases e : tp (tfr tu (n % tu.length)) (tsk tu (n % tu.length)) (fj (tt tu n) (tfr tu (n % tu.length)) (tsk tu (n % tu.length))) = i
    · rw [e, List.getElem?_set_self (by rw [tt_len]; exact hi)]
      simp only [Option.getD_some]
      have := VU_mod hv n
      omega
    · rw [List.getElem?_set_ne e, ← List.getD]; exact ih
/-- Tries that are over. -/
def NX (tu : List (Int × Int)) (n : Nat) (N : List Nat) : Prop := N.length = tu.length ∧ ∀ s, s < tu.length → N.getD s 0 ≤ 13 ∧ ∀ j, j < N.getD s 0 → ¬ (tt tu n).getD (tp (tfr tu s) (tsk tu s) j) 0 < 0
theorem NX.zero (tu : List (Int × Int)) : NX tu 0 (List.replicate tu.length 0) := by
  refine ⟨by simp, fun s hs => ?_⟩
  have : (List.replicate tu.length 0).getD s 0 = 0 := by simp [List.getD, hs]
  rw [this]
  exact ⟨by omega, fun j hj => by omega⟩
theorem tt_keep {tu : List (Int × Int)} {n s : Nat} (hs : s < 13) (h : ¬ (tt tu n).getD s 0 < 0) : ¬ (tt tu (n + 1)).getD s 0 < 0 := by
  rw [tt, List.getD]
  by_cases e : tp (tfr tu (n % tu.length)) (tsk tu (n % tu.length)) (fj (tt tu n) (tfr tu (n % tu.length)) (tsk tu (n % tu.length))) = s
  · rw [e, List.getElem?_set_self (by rw [tt_len]; exact hs)]
    simp only [Option.getD_some]
    omega
  · rw [List.getElem?_set_ne e, ← List.getD]; exact h
theorem NX.succ {tu : List (Int × Int)} {n : Nat} {N : List Nat} (hv : VU tu = true) (hn : n < 13) (h : NX tu n N) : NX tu (n + 1) (N.set (n % tu.length) (fj (tt tu n) (tfr tu (n % tu.length)) (tsk tu (n % tu.length)) + 1)) := by
  have hm := VU_mod hv n
  obtain ⟨h1, h2, h3⟩ := tt_fj hv hn
  refine ⟨by rw [List.length_set]; exact h.1, fun s hs => ?_⟩
  obtain ⟨h4, h5⟩ := h.2 s hs
  by_cases e : n % tu.length = s
  · rw [← e, List.getD, List.getElem?_set_self (by rw [h.1]; exact hm)]
    simp only [Option.getD_some]
    refine ⟨by omega, fun j hj => ?_⟩
    by_cases ej : j = fj (tt tu n) (tfr tu (n % tu.length)) (tsk tu (n % tu.length))
    · rw [ej, tt, List.getD, List.getElem?_set_self (by rw [tt_len]; exact tp_lt _ _ _)]
      simp only [Option.getD_some]
      omega
    · exact tt_keep (tp_lt _ _ _) (h3 j (by omega))
  · rw [List.getD, List.getElem?_set_ne e, ← List.getD]
    exact ⟨h4, fun j hj => tt_keep (tp_lt _ _ _) (h5 j hj)⟩
theorem NX.le {tu : List (Int × Int)} {n : Nat} {N : List Nat} (hv : VU tu = true) (hn : n < 13) (h : NX tu n N) : N.getD (n % tu.length) 0 ≤ fj (tt tu n) (tfr tu (n % tu.length)) (tsk tu (n % tu.length)) := by
  refine Decidable.byContradiction fun hc => ?_
  exact (h.2 _ (VU_mod hv n)).2 _ (by omega) (tt_fj hv hn).1
/-- TurnTable. -/
def TT (tu : List (Int × Int)) : List Int := if VU tu = true then tt tu 13 else []
theorem TT_len (tu : List (Int × Int)) : (TT tu).length ≤ 1048586 := by
  unfold TT; split
  · rw [tt_len]; omega
  · simp
/-- How often server s comes. -/
theorem tt_cnt {tu : List (Int × Int)} (h : VU tu = true) (s : Nat) (n : Nat) (hn : n ≤ 13) : (tt tu n).countP (fun x => decide (x = (s : Int))) = (List.range n).countP fun m => decide (m % tu.length = s) := by
  induction n with
  | zero =>
    have : List.countP (fun x => decide (x = (s : Int))) (List.replicate 13 (-1)) = 0 := by
      rw [List.countP_eq_zero]; intro x hx; rw [List.mem_replicate] at hx; simp only [decide_eq_true_eq]; omega
    rw [tt, this]; rfl
  | succ n ih =>
    have i1 := ih (by omega)
    have h6 := (tt_fj h (n := n) (by omega)).1
    have h7 := cnt_set (T := tt tu n) (i := tp (tfr tu (n % tu.length)) (tsk tu (n % tu.length)) (fj (tt tu n) (tfr tu (n % tu.length)) (tsk tu (n % tu.length)))) (by rw [tt_len]; exact tp_lt _ _ _) (fun x => decide (x = (s : Int))) ((n % tu.length : Nat) : Int)
    have h8 : decide ((tt tu n).getD (tp (tfr tu (n % tu.length)) (tsk tu (n % tu.length)) (fj (tt tu n) (tfr tu (n % tu.length)) (tsk tu (n % tu.length)))) 0 = (s : Int)) = false := by simp only [decide_eq_false_iff_not]; omega
    simp only [h8, Bool.false_eq_true, if_false] at h7
    rw [tt, List.range_succ, List.countP_append, List.countP_singleton]
    by_cases e : n % tu.length = s
    · rw [if_pos (by simp [e])] at h7
      rw [if_pos (by simp [e])]; omega
    · rw [if_neg (by simp only [decide_eq_true_eq]; omega)] at h7
      rw [if_neg (by simp [e])]; omega
theorem even_all : ∀ n : Fin 7, 0 < n.val → ∀ i k : Fin 6, i.val < n.val → k.val < n.val → ((List.range 13).countP fun m => decide (m % n.val = i.val)) ≤ ((List.range 13).countP fun m => decide (m % n.val = k.val)) + 1 ∧ (i.val < k.val → ((List.range 13).countP fun m => decide (m % n.val = k.val)) ≤ ((List.range 13).countP fun m => decide (m % n.val = i.val))) := by decide +kernel
end Go.Proofs.Ytjkcahmbocjacaa
