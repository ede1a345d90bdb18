
import Derived.Test.YtoaiaindcmihjaaGreatDoorMvc
import Derived.Test.YtoaiaindcmihjaaGreatDoorMva
import Derived.Deep.OwnRows
import Derived.Laws.BitsAllLaws
import Derived.Test.YtoaiaindcmihjaaGreatDoorMvb
import Derived.Lib.FieldsP
/-
  The plain mathematics of chapter 4: turns.
-/
namespace Go.Proofs.YtoaiaindcmihjaaGreatDoor

/-- The place of try j of a server. -/
def tp (a b j : Nat) : Nat := (a + j * b) % 13
theorem tp_lt (a b j : Nat) : tp a b j < 13 := by unfold tp; omega
theorem tp_all : ∀ a b s : Fin 13, 0 < b.val → ∃ j : Fin 13, tp a.val b.val j.val = s.val := by decide +kernel
theorem tp_succ (a b j : Nat) : tp a b (j + 1) = (tp a b j + b) % 13 := by
  unfold tp; rw [Nat.succ_mul]; omega
/-- The first try from j on that finds a slot free. -/
def fjr (T : List Int) (a b : Nat) : Nat → Nat → Nat
  | 0, j => j
  | f + 1, j => if T.getD (tp a b j) 0 < 0 then j else fjr T a b f (j + 1)
def fj (T : List Int) (a b : Nat) : Nat := fjr T a b 13 0
theorem fjr_spec (T : List Int) (a b : Nat) : ∀ f j, (∃ i, i < f ∧ T.getD (tp a b (j + i)) 0 < 0) → T.getD (tp a b (fjr T a b f j)) 0 < 0 ∧ j ≤ fjr T a b f j ∧ fjr T a b f j < j + f ∧ ∀ i, j ≤ i → i < fjr T a b f j → ¬ T.getD (tp a b i) 0 < 0 := by
  intro f
  induction f with
  | zero => rintro j ⟨i, hi, _⟩; omega
  | succ f ih =>
    rintro j ⟨i, hi, h⟩
    rw [fjr]
    by_cases c : T.getD (tp a b j) 0 < 0
    · rw [if_pos c]; exact ⟨c, Nat.le_refl _, by omega, fun i h1 h2 => by omega⟩
    · rw [if_neg c]
      have hi0 : i ≠ 0 := fun e => by subst e; exact c h
      obtain ⟨h1, h2, h3, h4⟩ := ih (j + 1) ⟨i - 1, by omega, by rw [show j + 1 + (i - 1) = j + i from by omega]; exact h⟩
      refine ⟨h1, by omega, by omega, fun i' h5 h6 => ?_⟩
      by_cases e : i' = j
      · subst e; exact c
      · exact h4 i' (by omega) h6
/-- A table with a free slot. -/
def HasFree (T : List Int) : Prop := ∃ s, s < 13 ∧ T.getD s 0 < 0
theorem fj_spec {T : List Int} {a b : Nat} (ha : a < 13) (hb : b < 13) (h0 : 0 < b) (h : HasFree T) : T.getD (tp a b (fj T a b)) 0 < 0 ∧ fj T a b < 13 ∧ ∀ i, i < fj T a b → ¬ T.getD (tp a b i) 0 < 0 := by
  obtain ⟨s, hs, hf⟩ := h
  obtain ⟨j, hj⟩ := tp_all ⟨a, ha⟩ ⟨b, hb⟩ ⟨s, hs⟩ h0
  simp only at hj
  obtain ⟨h1, _, h3, h4⟩ := fjr_spec T a b 13 0 ⟨j.val, j.isLt, by rw [Nat.zero_add, hj]; exact hf⟩
  exact ⟨h1, by unfold fj; omega, fun i hi => h4 i (Nat.zero_le _) hi⟩
theorem fj_uniq {T : List Int} {a b j : Nat} (ha : a < 13) (hb : b < 13) (h0 : 0 < b) (h : T.getD (tp a b j) 0 < 0) (h1 : ∀ i, i < j → ¬ T.getD (tp a b i) 0 < 0) : fj T a b = j := by
  obtain ⟨h2, _, h4⟩ := fj_spec ha hb h0 (T := T) ⟨_, tp_lt a b j, h⟩
  rcases Nat.lt_trichotomy (fj T a b) j with hl | hl | hl
  · exact (h1 _ hl h2).elim
  · exact hl
  · exact (h4 _ hl h).elim

/-- From and Skip of server s. -/
def tfr (tu : List (Int × Int)) (s : Nat) : Nat := (tu.getD s (0, 0)).1.toNat
def tsk (tu : List (Int × Int)) (s : Nat) : Nat := (tu.getD s (0, 0)).2.toNat
/-- The table when n slots are taken. -/
def tt (tu : List (Int × Int)) : Nat → List Int
  | 0 => List.replicate 13 (-1)
  | n + 1 => (tt tu n).set (tp (tfr tu (n % tu.length)) (tsk tu (n % tu.length)) (fj (tt tu n) (tfr tu (n % tu.length)) (tsk tu (n % tu.length)))) ((n % tu.length : Nat) : Int)
theorem tt_len (tu : List (Int × Int)) (n : Nat) : (tt tu n).length = 13 := by
  induction n with
  | zero => simp [tt]
  | succ n ih => simp [tt, ih]
def FitU (tu : List (Int × Int)) (k : Nat) : Prop := ∀ i, i < k → (0 ≤ (tu.getD i (0, 0)).1 ∧ (tu.getD i (0, 0)).1 ≤ 12) ∧ 1 ≤ (tu.getD i (0, 0)).2 ∧ (tu.getD i (0, 0)).2 ≤ 12
/-- The turns are right ones. -/
def VU (tu : List (Int × Int)) : Bool := decide (1 ≤ tu.length) && decide (tu.length ≤ 6) && decide (∀ i, i < tu.length → (0 ≤ (tu.getD i (0, 0)).1 ∧ (tu.getD i (0, 0)).1 ≤ 12) ∧ 1 ≤ (tu.getD i (0, 0)).2 ∧ (tu.getD i (0, 0)).2 ≤ 12)
theorem VU_iff {tu : List (Int × Int)} : VU tu = true ↔ 1 ≤ tu.length ∧ tu.length ≤ 6 ∧ FitU tu tu.length := by
  simp only [VU, FitU, Bool.and_eq_true, decide_eq_true_eq, and_assoc]
theorem VU_false {tu : List (Int × Int)} (h : ¬ (1 ≤ tu.length ∧ tu.length ≤ 6 ∧ FitU tu tu.length)) : VU tu = false := by rw [← VU_iff] at h; simpa using h
theorem FitU.zero (tu : List (Int × Int)) : FitU tu 0 := fun i hi => by omega
theorem FitU.succ {tu : List (Int × Int)} {k : Nat} (h : FitU tu k) (h0 : 0 ≤ (tu.getD k (0, 0)).1) (h1 : (tu.getD k (0, 0)).1 ≤ 12) (h2 : 1 ≤ (tu.getD k (0, 0)).2) (h3 : (tu.getD k (0, 0)).2 ≤ 12) : FitU tu (k + 1) := by
  intro i hi
  by_cases e : i = k
  · subst e; exact ⟨⟨h0, h1⟩, h2, h3⟩
  · exact h i (by omega)
theorem VU_get {tu : List (Int × Int)} (h : VU tu = true) {s : Nat} (hs : s < tu.length) : (tu.getD s (0, 0)).1 = (tfr tu s : Int) ∧ (tu.getD s (0, 0)).2 = (tsk tu s : Int) ∧ tfr tu s < 13 ∧ tsk tu s < 13 ∧ 0 < tsk tu s := by
  have := (VU_iff.1 h).2.2 s hs
  unfold tfr tsk
  omega
theorem VU_mod {tu : List (Int × Int)} (h : VU tu = true) (n : Nat) : n % tu.length < tu.length := Nat.mod_lt _ (VU_iff.1 h).1
/-- How many slots are free. -/
theorem cnt_set {T : List Int} {i : Nat} (hi : i < T.length) (p : Int → Bool) (x : Int) : (T.set i x).countP p + (if p (T.getD i 0) = true then 1 else 0) = T.countP p + (if p x = true then 1 else 0) := by
  induction T generalizing i with
  | nil => simp at hi
  | cons y T ih =>
    cases i with
    | zero => simp only [List.set, List.countP_cons, List.getD_cons_zero]; omega
    | succ i =>
      have := ih (i := i) (by simpa using hi)
      simp only [List.set, List.countP_cons, List.getD_cons_succ]; omega
theorem free_of {T : List Int} (hl : T.length = 13) (h : 0 < T.countP fun x => decide (x < 0)) : HasFree T := by
  obtain ⟨x, hx, hp⟩ := List.countP_pos_iff.1 h
  obtain ⟨s, hs, rfl⟩ := List.getElem_of_mem hx
  refine ⟨s, by omega, ?_⟩
  simpa [List.getD, hs] using hp
theorem tt_free {tu : List (Int × Int)} (h : VU tu = true) (n : Nat) (hn : n ≤ 13) : (tt tu n).countP (fun x => decide (x < 0)) = 13 - n := by
  induction n with
  | zero => simp [tt]
  | succ n ih =>
    have i1 := ih (by omega)
    have hf := free_of (tt_len tu n) (by omega)
    obtain ⟨_, _, h3, h4, h5⟩ := VU_get h (VU_mod h n)
    have h6 := (fj_spec h3 h4 h5 hf).1
    have h7 := cnt_set (T := tt tu n) (i := tp (tfr tu (n % tu.length)) (tsk tu (n % tu.length)) (fj (tt tu n) (tfr tu (n % tu.length)) (tsk tu (n % tu.length)))) (by rw [tt_len]; exact tp_lt _ _ _) (fun x => decide (x < 0)) ((n % tu.length : Nat) : Int)
    simp only [h6, decide_true, if_true] at h7
    rw [if_neg (by simp; omega)] at h7
    rw [tt]; omega
theorem tt_has {tu : List (Int × Int)} (h : VU tu = true) {n : Nat} (hn : n < 13) : HasFree (tt tu n) := free_of (tt_len tu n) (by rw [tt_free h n (by omega)]; omega)
theorem tt_fj {tu : List (Int × Int)} (h : VU tu = true) {n : Nat} (hn : n < 13) : (tt tu n).getD (tp (tfr tu (n % tu.length)) (tsk tu (n % tu.length)) (fj (tt tu n) (tfr tu (n % tu.length)) (tsk tu (n % tu.length)))) 0 < 0 ∧ fj (tt tu n) (tfr tu (n % tu.length)) (tsk tu (n % tu.length)) < 13 ∧ ∀ i, i < fj (tt tu n) (tfr tu (n % tu.length)) (tsk tu (n % tu.length)) → ¬ (tt tu n).getD (tp (tfr tu (n % tu.length)) (tsk tu (n % tu.length)) i) 0 < 0 := by
  obtain ⟨_, _, h3, h4, h5⟩ := VU_get h (VU_mod h n)
  exact fj_spec h3 h4 h5 (tt_has h hn)
theorem getD_rep {i : Nat} (hi : i < 13) : (List.replicate 13 (-1 : Int)).getD i 0 = -1 := by simp only [List.getD, List.getElem?_replicate, if_pos hi, Option.getD_some]
theorem tt_cell {tu : List (Int × Int)} (hv : VU tu = true) (n i : Nat) (hi : i < 13) : -1 ≤ (tt tu n).getD i 0 ∧ (tt tu n).getD i 0 < tu.length := by
  induction n with
  | zero => rw [tt, getD_rep hi]; omega
  | succ n ih =>
    rw [tt, List.getD]
    by_cases e : tp (tfr tu (n % tu.length)) (tsk tu (n % tu.length)) (fj (tt tu n) (tfr tu (n % tu.length)) (tsk tu (n % tu.length))) = i
    · rw [e, List.getElem?_set_self (by rw [tt_len]; exact hi)]
      simp only [Option.getD_some]
      have := VU_mod hv n
      omega
    · rw [List.getElem?_set_ne e, ← List.getD]; exact ih
/-- Tries that are over. -/
def NX (tu : List (Int × Int)) (n : Nat) (N : List Nat) : Prop := N.length = tu.length ∧ ∀ s, s < tu.length → N.getD s 0 ≤ 13 ∧ ∀ j, j < N.getD s 0 → ¬ (tt tu n).getD (tp (tfr tu s) (tsk tu s) j) 0 < 0
theorem NX.zero (tu : List (Int × Int)) : NX tu 0 (List.replicate tu.length 0) := by
  refine ⟨by simp, fun s hs => ?_⟩
  have : (List.replicate tu.length 0).getD s 0 = 0 := by simp [List.getD, hs]
  rw [this]
  exact ⟨by omega, fun j hj => by omega⟩
theorem tt_keep {tu : List (Int × Int)} {n s : Nat} (hs : s < 13) (h : ¬ (tt tu n).getD s 0 < 0) : ¬ (tt tu (n + 1)).getD s 0 < 0 := by
  rw [tt, List.getD]
  by_cases e : tp (tfr tu (n % tu.length)) (tsk tu (n % tu.length)) (fj (tt tu n) (tfr tu (n % tu.length)) (tsk tu (n % tu.length))) = s
  · rw [e, List.getElem?_set_self (by rw [tt_len]; exact hs)]
    simp only [Option.getD_some]
    omega
  · rw [List.getElem?_set_ne e, ← List.getD]; exact h
theorem NX.succ {tu : List (Int × Int)} {n : Nat} {N : List Nat} (hv : VU tu = true) (hn : n < 13) (h : NX tu n N) : NX tu (n + 1) (N.set (n % tu.length) (fj (tt tu n) (tfr tu (n % tu.length)) (tsk tu (n % tu.length)) + 1)) := by
  have hm := VU_mod hv n
  obtain ⟨h1, h2, h3⟩ := tt_fj hv hn
  refine ⟨by rw [List.length_set]; exact h.1, fun s hs => ?_⟩
  obtain ⟨h4, h5⟩ := h.2 s hs
  by_cases e : n % tu.length = s
  · rw [← e, List.getD, List.getElem?_set_self (by rw [h.1]; exact hm)]
    simp only [Option.getD_some]
    refine ⟨by omega, fun j hj => ?_⟩
    by_cases ej : j = fj (tt tu n) (tfr tu (n % tu.length)) (tsk tu (n % tu.length))
    · rw [ej, tt, List.getD, List.getElem?_set_self (by rw [tt_len]; exact tp_lt _ _ _)]
      simp only [Option.getD_some]
      omega
    · exact tt_keep (tp_lt _ _ _) (h3 j (by omega))
  · rw [List.getD, List.getElem?_set_ne e, ← List.getD]
    exact ⟨h4, fun j hj => tt_keep (tp_lt _ _ _) (h5 j hj)⟩
theorem NX.le {tu : List (Int × Int)} {n : Nat} {N : List Nat} (hv : VU tu = true) (hn : n < 13) (h : NX tu n N) : N.getD (n % tu.length) 0 ≤ fj (tt tu n) (tfr tu (n % tu.length)) (tsk tu (n % tu.length)) := by
  refine Decidable.byContradiction fun hc => ?_
  exact (h.2 _ (VU_mod hv n)).2 _ (by omega) (tt_fj hv hn).1
/-- TurnTable. -/
def TT (tu : List (Int × Int)) : List Int := if VU tu = true then tt tu 13 else []
theorem TT_len (tu : List (Int × Int)) : (TT tu).length ≤ 1048586 := by
  unfold TT; split
  · rw [tt_len]; omega
  · simp
/-- How often server s comes. -/
theorem tt_cnt {tu : List (Int × Int)} (h : VU tu = true) (s : Nat) (n : Nat) (hn : n ≤ 13) : (tt tu n).countP (fun x => decide (x = (s : Int))) = (List.range n).countP fun m => decide (m % tu.length = s) := by
  induction n with
  | zero =>
    have : List.countP (fun x => decide (x = (s : Int))) (List.replicate 13 (-1)) = 0 := by
      rw [List.countP_eq_zero]; intro x hx; rw [List.mem_replicate] at hx; simp only [decide_eq_true_eq]; omega
    rw [tt, this]; rfl
  | succ n ih =>
    have i1 := ih (by omega)
    have h6 := (tt_fj h (n := n) (by omega)).1
    have h7 := cnt_set (T := tt tu n) (i := tp (tfr tu (n % tu.length)) (tsk tu (n % tu.length)) (fj (tt tu n) (tfr tu (n % tu.length)) (tsk tu (n % tu.length)))) (by rw [tt_len]; exact tp_lt _ _ _) (fun x => decide (x = (s : Int))) ((n % tu.length : Nat) : Int)
    have h8 : decide ((tt tu n).getD (tp (tfr tu (n % tu.length)) (tsk tu (n % tu.length)) (fj (tt tu n) (tfr tu (n % tu.length)) (tsk tu (n % tu.length)))) 0 = (s : Int)) = false := by simp only [decide_eq_false_iff_not]; omega
    simp only [h8, Bool.false_eq_true, if_false] at h7
    rw [tt, List.range_succ, List.countP_append, List.countP_singleton]
    by_cases e : n % tu.length = s
    · rw [if_pos (by simp [e])] at h7
      rw [if_pos (by simp [e])]; omega
    · rw [if_neg (by simp only [decide_eq_true_eq]; omega)] at h7
      rw [if_neg (by simp [e])]; omega
theorem even_all : ∀ n : Fin 7, 0 < n.val → ∀ i k : Fin 6, i.val < n.val → k.val < n.val → ((List.range 13).countP fun m => decide (m % n.val = i.val)) ≤ ((List.range 13).countP fun m => decide (m % n.val = k.val)) + 1 ∧ (i.val < k.val → ((List.range 13).countP fun m => decide (m % n.val = k.val)) ≤ ((List.range 13).countP fun m => decide (m % n.val = i.val))) := by decide +kernel
end Go.Proofs.YtoaiaindcmihjaaGreatDoor
/-
  The plain mathematics of chapter 4: servers in the order of their places, and loads.
-/
namespace Go.Proofs.YtoaiaindcmihjaaGreatDoor

theorem cnt_setN {T : List Nat} {i : Nat} (hi : i < T.length) (p : Nat → Bool) (x : Nat) : (T.set i x).countP p + (if p (T.getD i 0) = true then 1 else 0) = T.countP p + (if p x = true then 1 else 0) := by
  induction T generalizing i with
  | nil => simp at hi
  | cons y T ih =>
    cases i with
    | zero => simp only [List.set, List.countP_cons, List.getD_cons_zero]; omega
    | succ i =>
      have := ih (i := i) (by simpa using hi)
      simp only [List.set, List.countP_cons, List.getD_cons_succ]; omega
/-- Two neighbours change places. -/
def sw (R : List Nat) (j : Nat) : List Nat := (R.set (j + 1) (R.getD j 0)).set j (R.getD (j + 1) 0)
theorem sw_len (R : List Nat) (j : Nat) : (sw R j).length = R.length := by simp [sw]
theorem getD_setN (l : List Nat) (i j x : Nat) : (l.set i x).getD j 0 = if i = j ∧ j < l.length then x else l.getD j 0 := by
  simp only [List.getD, List.getElem?_set]
  by_cases e : i = j
  · subst e
    by_cases h : i < l.length <;> simp [h]
  · simp [e]
theorem sw_get {R : List Nat} {j : Nat} (hj : j + 1 < R.length) (a : Nat) : (sw R j).getD a 0 = if a = j then R.getD (j + 1) 0 else if a = j + 1 then R.getD j 0 else R.getD a 0 := by
  unfold sw
  rw [getD_setN, getD_setN, List.length_set]
  by_cases e : a = j
  · subst e; rw [if_pos ⟨rfl, by omega⟩, if_pos rfl]
  · rw [if_neg (by omega), if_neg e]
    by_cases e2 : a = j + 1
    · subst e2; rw [if_pos ⟨rfl, by omega⟩, if_pos rfl]
    · rw [if_neg (by omega), if_neg e2]
theorem sw_perm {R : List Nat} {j : Nat} (hj : j + 1 < R.length) : (sw R j).Perm R := by
  rw [List.perm_iff_count]
  intro x
  unfold sw
  have a := cnt_setN (T := R) (i := j + 1) hj (fun y => y == x) (R.getD j 0)
  have b := cnt_setN (T := R.set (j + 1) (R.getD j 0)) (i := j) (by rw [List.length_set]; omega) (fun y => y == x) (R.getD (j + 1) 0)
  have e2 : (R.set (j + 1) (R.getD j 0)).getD j 0 = R.getD j 0 := by
    have hn : ¬ (j + 1 = j ∧ j < R.length) := by omega
    rw [getD_setN, if_neg hn]
  rw [e2] at b
  simp only [List.count]
  omega
/-- All servers, those up to i in their order but for the one at j, which is on its way to the front. -/
def IS (f : Nat → Int) (n : Nat) (R : List Nat) (i j : Nat) : Prop := R.Perm (List.range n) ∧ j ≤ i ∧ (∀ a b, a < b → b ≤ i → a ≠ j → b ≠ j → f (R.getD a 0) ≤ f (R.getD b 0)) ∧ ∀ b, j < b → b ≤ i → f (R.getD j 0) ≤ f (R.getD b 0)
/-- All servers, the first i of them in their order. -/
def SO (f : Nat → Int) (n : Nat) (R : List Nat) (i : Nat) : Prop := R.Perm (List.range n) ∧ ∀ a b, a < b → b < i → f (R.getD a 0) ≤ f (R.getD b 0)
theorem SO.zero (f : Nat → Int) (n : Nat) : SO f n (List.range n) 1 := ⟨List.Perm.refl _, fun a b h1 h2 => by omega⟩
theorem SO.len {f : Nat → Int} {n : Nat} {R : List Nat} {i : Nat} (h : SO f n R i) : R.length = n := by rw [h.1.length_eq, List.length_range]
theorem SO.ins {f : Nat → Int} {n : Nat} {R : List Nat} {i : Nat} (h : SO f n R i) : IS f n R i i := ⟨h.1, Nat.le_refl _, fun a b h1 h2 _ h4 => h.2 a b h1 (by omega), fun b h1 h2 => by omega⟩
theorem IS.len {f : Nat → Int} {n : Nat} {R : List Nat} {i j : Nat} (h : IS f n R i j) : R.length = n := by rw [h.1.length_eq, List.length_range]
theorem IS.step {f : Nat → Int} {n : Nat} {R : List Nat} {i j : Nat} (h : IS f n R i (j + 1)) (hi : i < n) (hc : f (R.getD (j + 1) 0) < f (R.getD j 0)) : IS f n (sw R j) i j := by
  have hl := h.len
  have hj := h.2.1
  have hj1 : j + 1 < R.length := by omega
  refine ⟨(sw_perm hj1).trans h.1, by omega, fun a b h1 h2 h3 h4 => ?_, fun b h1 h2 => ?_⟩
  · rw [sw_get hj1, sw_get hj1, if_neg h3, if_neg h4]
    by_cases ea : a = j + 1
    · rw [if_pos ea, if_neg (by omega)]
      exact h.2.2.1 j b (by omega) h2 (by omega) (by omega)
    · rw [if_neg ea]
      by_cases eb : b = j + 1
      · rw [if_pos eb]
        exact h.2.2.1 a j (by omega) (by omega) ea (by omega)
      · rw [if_neg eb]
        exact h.2.2.1 a b h1 h2 ea eb
  · rw [sw_get hj1, sw_get hj1, if_pos rfl, if_neg (by omega)]
    by_cases eb : b = j + 1
    · rw [if_pos eb]; omega
    · rw [if_neg eb]
      exact h.2.2.2 b (by omega) h2
theorem IS.fin {f : Nat → Int} {n : Nat} {R : List Nat} {i j : Nat} (h : IS f n R i j) (hc : j = 0 ∨ ¬ f (R.getD j 0) < f (R.getD (j - 1) 0)) : SO f n R (i + 1) := by
  refine ⟨h.1, fun a b h1 h2 => ?_⟩
  by_cases ea : a = j
  · subst ea; exact h.2.2.2 b h1 (by omega)
  · by_cases eb : b = j
    · subst eb
      rcases hc with rfl | hc
      · omega
      · by_cases e : a = b - 1
        · subst e; omega
        · have := h.2.2.1 a (b - 1) (by omega) (by omega) ea (by omega)
          omega
    · exact h.2.2.1 a b h1 (by omega) ea eb
theorem SO.mem {f : Nat → Int} {n : Nat} {R : List Nat} {i : Nat} (h : SO f n R i) {a : Nat} (ha : a < n) : R.getD a 0 < n := by
  have hl := h.len
  have : R.getD a 0 ∈ R := by simp [List.getD, show a < R.length from by omega]
  have := h.1.mem_iff.1 this
  exact List.mem_range.1 this
theorem SO.has {f : Nat → Int} {n : Nat} {R : List Nat} {i : Nat} (h : SO f n R i) {s : Nat} (hs : s < n) : ∃ a, a < n ∧ R.getD a 0 = s := by
  have := h.1.mem_iff.2 (List.mem_range.2 hs)
  obtain ⟨a, ha, e⟩ := List.getElem_of_mem this
  exact ⟨a, by rw [← h.len]; exact ha, by simp [List.getD, ha, e]⟩
theorem SO.lt256 {f : Nat → Int} {n : Nat} {R : List Nat} {i : Nat} (h : SO f n R i) : ∀ x ∈ R, x < n := fun _ hx => List.mem_range.1 (h.1.mem_iff.1 hx)
theorem SO.head {ps : List Int} {k : Int} (hv : VR ps = true) {R : List Nat} (h : SO (st ps k) ps.length R ps.length) : R.getD 0 0 = own ps k := by
  have h1 := (VR_iff.1 hv).1
  refine (own_uniq hv (h.mem (by omega)) fun i hi => ?_).symm
  obtain ⟨a, ha, rfl⟩ := h.has hi
  by_cases e : a = 0
  · subst e; exact Int.le_refl _
  · exact h.2 0 a (by omega) ha

/-- The one of the first n servers with g of which f is least, none if there is none. -/
def bb (g : Nat → Bool) (f : Nat → Int) : Nat → Option Nat
  | 0 => none
  | s + 1 => if g s = true ∧ (∀ b, bb g f s = some b → f s < f b) then some s else bb g f s
theorem bb_some {g : Nat → Bool} {f : Nat → Int} : ∀ {n b : Nat}, bb g f n = some b → b < n ∧ g b = true ∧ ∀ s, s < n → g s = true → f b ≤ f s := by
  intro n
  induction n with
  | zero => intro b h; simp [bb] at h
  | succ n ih =>
    intro b h
    rw [bb] at h
    by_cases c : g n = true ∧ (∀ b, bb g f n = some b → f n < f b)
    · rw [if_pos c] at h
      obtain rfl : n = b := by simpa using h
      refine ⟨by omega, c.1, fun s hs hg => ?_⟩
      by_cases e : s = n
      · subst e; exact Int.le_refl _
      · cases hb : bb g f n with
        | none =>
          exfalso
          have : ∀ m, bb g f m = none → ∀ s, s < m → g s = false := by
            intro m
            induction m with
            | zero => intro _ s hs; omega
            | succ m ihm =>
              intro hm s hs
              rw [bb] at hm
              split at hm
              · simp at hm
              · rename_i hc
                by_cases es : s = m
                · subst es
                  cases hgs : g s with
                  | false => rfl
                  | true => exact (hc ⟨hgs, fun b hb => by rw [hm] at hb; simp at hb⟩).elim
                · exact ihm hm s (by omega)
          have := this n hb s (by omega)
          rw [hg] at this; simp at this
        | some b =>
          have h1 := c.2 b hb
          have h2 := (ih hb).2.2 s (by omega) hg
          omega
    · rw [if_neg c] at h
      obtain ⟨h1, h2, h3⟩ := ih h
      refine ⟨by omega, h2, fun s hs hg => ?_⟩
      by_cases e : s = n
      · subst e
        refine Decidable.byContradiction fun hn => c ⟨hg, fun b' hb' => ?_⟩
        rw [h] at hb'
        obtain rfl : b = b' := by simpa using hb'
        omega
      · exact h3 s (by omega) hg
theorem bb_none {g : Nat → Bool} {f : Nat → Int} {n : Nat} (h : bb g f n = none) : ∀ s, s < n → g s = false := by
  induction n with
  | zero => intro s hs; omega
  | succ m ihm =>
    intro s hs
    rw [bb] at h
    split at h
    · simp at h
    · rename_i hc
      by_cases es : s = m
      · subst es
        cases hgs : g s with
        | false => rfl
        | true => exact (hc ⟨hgs, fun b hb => by rw [h] at hb; simp at hb⟩).elim
      · exact ihm h s (by omega)
theorem bb_is {g : Nat → Bool} {f : Nat → Int} {n b : Nat} (hf : ∀ i j, i < n → j < n → f i = f j → i = j) (hb : b < n) (hg : g b = true) (h : ∀ s, s < n → g s = true → f b ≤ f s) : bb g f n = some b := by
  cases e : bb g f n with
  | none => have := bb_none e b hb; rw [hg] at this; simp at this
  | some b' =>
    obtain ⟨h1, h2, h3⟩ := bb_some e
    have := h3 b hb hg
    have := h b' h1 h2
    rw [hf b b' hb h1 (by omega)]
theorem bb_no {g : Nat → Bool} {f : Nat → Int} {n : Nat} (h : ∀ s, s < n → g s = false) : bb g f n = none := by
  cases e : bb g f n with
  | none => rfl
  | some b => obtain ⟨h1, h2, _⟩ := bb_some e; rw [h b h1] at h2; simp at h2
theorem bb_ord {ps : List Int} {k : Int} (hv : VR ps = true) {R : List Nat} (h : SO (st ps k) ps.length R ps.length) {g : Nat → Bool} {i : Nat} (hi : i < ps.length) (hg : g (R.getD i 0) = true) (hn : ∀ j, j < i → g (R.getD j 0) = false) : bb g (st ps k) ps.length = some (R.getD i 0) := by
  refine bb_is (fun a b ha hb e => st_inj hv ha hb e) (h.mem hi) hg fun s hs hgs => ?_
  obtain ⟨a, ha, rfl⟩ := h.has hs
  rcases Nat.lt_trichotomy a i with hl | hl | hl
  · have := hn a hl; rw [hgs] at this; simp at this
  · rw [hl]; exact Int.le_refl _
  · exact h.2 i a hl ha
theorem bb_ord_no {ps : List Int} {k : Int} {R : List Nat} (h : SO (st ps k) ps.length R ps.length) {g : Nat → Bool} (hn : ∀ j, j < ps.length → g (R.getD j 0) = false) : bb g (st ps k) ps.length = none := by
  refine bb_no fun s hs => ?_
  obtain ⟨a, ha, rfl⟩ := h.has hs
  exact hn a ha

/-- May server s have one more? -/
def mo (load : Int) (C : List Int) (s : Nat) : Bool := decide (C.getD s 0 < load)
/-- The server of the next key when servers have C. -/
def nb (ps : List Int) (load : Int) (C : List Int) (k : Int) : Option Nat := bb (mo load C) (st ps k) ps.length
/-- What servers have, and those of keys, when j keys are placed. -/
def bs (ps ks : List Int) (load : Int) : Nat → List Int × List Int
  | 0 => (List.replicate ps.length 0, [])
  | j + 1 => ((bs ps ks load j).1.set ((nb ps load (bs ps ks load j).1 (ks.getD j 0)).getD 0) ((bs ps ks load j).1.getD ((nb ps load (bs ps ks load j).1 (ks.getD j 0)).getD 0) 0 + 1),
      (bs ps ks load j).2 ++ [(((nb ps load (bs ps ks load j).1 (ks.getD j 0)).getD 0 : Nat) : Int)])
theorem bs_len1 (ps ks : List Int) (load : Int) (j : Nat) : (bs ps ks load j).1.length = ps.length := by
  induction j with
  | zero => simp [bs]
  | succ j ih => simp [bs, ih]
theorem bs_len2 (ps ks : List Int) (load : Int) (j : Nat) : (bs ps ks load j).2.length = j := by
  induction j with
  | zero => simp [bs]
  | succ j ih => simp [bs, ih]
/-- Each of the first j keys has a server. -/
def BK (ps ks : List Int) (load : Int) (j : Nat) : Prop := ∀ i, i < j → (nb ps load (bs ps ks load i).1 (ks.getD i 0)).isSome = true
instance (ps ks : List Int) (load : Int) (j : Nat) : Decidable (BK ps ks load j) := inferInstanceAs (Decidable (∀ i, i < j → _))
def FitK (ks : List Int) (n : Nat) : Prop := ∀ i, i < n → 0 ≤ ks.getD i 0 ∧ ks.getD i 0 ≤ 63
instance (ks : List Int) (n : Nat) : Decidable (FitK ks n) := inferInstanceAs (Decidable (∀ i, i < n → _))
theorem FitK.zero (ks : List Int) : FitK ks 0 := fun i hi => by omega
theorem FitK.succ {l : List Int} {k : Nat} (h : FitK l k) (h0 : 0 ≤ l.getD k 0) (h1 : l.getD k 0 ≤ 63) : FitK l (k + 1) := by
  intro i hi
  by_cases e : i = k
  · subst e; exact ⟨h0, h1⟩
  · exact h i (by omega)
theorem BK.zero (ps ks : List Int) (load : Int) : BK ps ks load 0 := fun i hi => by omega
theorem BK.succ {ps ks : List Int} {load : Int} {k : Nat} (h : BK ps ks load k) (h0 : (nb ps load (bs ps ks load k).1 (ks.getD k 0)).isSome = true) : BK ps ks load (k + 1) := by
  intro i hi
  by_cases e : i = k
  · subst e; exact h0
  · exact h i (by omega)
def VBO (ps ks : List Int) (load : Int) : Prop := VR ps = true ∧ ks.length ≤ 8 ∧ (1 ≤ load ∧ load ≤ 8) ∧ FitK ks ks.length ∧ BK ps ks load ks.length
instance (ps ks : List Int) (load : Int) : Decidable (VBO ps ks load) := by unfold VBO; infer_instance
/-- BoundedOwners. -/
def BO (ps ks : List Int) (load : Int) : List Int × Bool := if VBO ps ks load then ((bs ps ks load ks.length).2, true) else ([], false)
theorem BO_no {ps ks : List Int} {load : Int} (h : ¬ VBO ps ks load) : BO ps ks load = ([], false) := by unfold BO; rw [if_neg h]
theorem BO_yes {ps ks : List Int} {load : Int} (h : VBO ps ks load) : BO ps ks load = ((bs ps ks load ks.length).2, true) := by unfold BO; rw [if_pos h]
theorem BO_ok {ps ks : List Int} {load : Int} (h : (BO ps ks load).2 = true) : VBO ps ks load := by
  refine Decidable.byContradiction fun hn => ?_
  rw [BO_no hn] at h; simp at h
theorem BO_len (ps ks : List Int) (load : Int) : (BO ps ks load).1.length ≤ 1048586 := by
  unfold BO; split
  · rename_i h; rw [bs_len2]; have := h.2.1; omega
  · simp
theorem nb_some {ps : List Int} {load : Int} {C : List Int} {k : Int} {b : Nat} (h : nb ps load C k = some b) : b < ps.length ∧ C.getD b 0 < load := by
  obtain ⟨h1, h2, _⟩ := bb_some h
  exact ⟨h1, by simpa [mo] using h2⟩
theorem bs_sum {ps ks : List Int} {load : Int} (j : Nat) (h : BK ps ks load j) : (bs ps ks load j).1.sum = j ∧ (∀ s, s < ps.length → 0 ≤ (bs ps ks load j).1.getD s 0 ∧ (bs ps ks load j).1.getD s 0 ≤ j) := by
  induction j with
  | zero =>
    have : ∀ n : Nat, (List.replicate n (0 : Int)).sum = 0 := by
      intro n
      induction n with
      | zero => rfl
      | succ n ih => rw [List.replicate_succ, List.sum_cons, ih]; rfl
    refine ⟨by simp [bs, this], fun s hs => ?_⟩
    simp [bs, List.getD, hs]
  | succ j ih =>
    obtain ⟨h1, h2⟩ := ih fun i hi => h i (by omega)
    obtain ⟨b, hb⟩ := Option.isSome_iff_exists.1 (h j (by omega))
    have h3 := nb_some hb
    rw [bs, hb]
    simp only [Option.getD_some]
    refine ⟨by rw [set_sumI (by rw [bs_len1]; exact h3.1), h1]; omega, fun s hs => ?_⟩
    have h4 := h2 s hs
    have h5 := h2 b h3.1
    by_cases e : b = s
    · subst e
      rw [List.getD, List.getElem?_set_self (by rw [bs_len1]; exact hs), Option.getD_some]; omega
    · rw [List.getD, List.getElem?_set_ne e, ← List.getD]; omega
theorem bs_load {ps ks : List Int} {load : Int} (j : Nat) (h : BK ps ks load j) (h0 : 0 ≤ load) : ∀ s, s < ps.length → (bs ps ks load j).1.getD s 0 ≤ load := by
  induction j with
  | zero => intro s hs; simp [bs, List.getD, hs]; exact h0
  | succ j ih =>
    intro s hs
    have h1 := ih fun i hi => h i (by omega)
    obtain ⟨b, hb⟩ := Option.isSome_iff_exists.1 (h j (by omega))
    have h3 := nb_some hb
    rw [bs, hb]
    simp only [Option.getD_some]
    by_cases e : b = s
    · subst e
      rw [List.getD, List.getElem?_set_self (by rw [bs_len1]; exact hs), Option.getD_some]; omega
    · rw [List.getD, List.getElem?_set_ne e, ← List.getD]; exact h1 s hs
theorem sum_le {l : List Int} {c : Int} (h : ∀ x ∈ l, x ≤ c) : l.sum ≤ c * l.length := by
  induction l with
  | nil => simp
  | cons y l ih =>
    have h1 := h y (by simp)
    have h2 := ih fun x hx => h x (by simp [hx])
    rw [List.sum_cons, List.length_cons, Int.natCast_add, Int.mul_add]
    simp only [Int.natCast_one, Int.mul_one]
    omega
theorem BO_room {ps ks : List Int} {load : Int} (h : VBO ps ks load) : (ks.length : Int) ≤ load * ps.length := by
  obtain ⟨_, _, h3, _, h5⟩ := h
  have a := (bs_sum _ h5).1
  have b := bs_load _ h5 (by omega)
  have c := sum_le (l := (bs ps ks load ks.length).1) (c := load) fun x hx => by
    obtain ⟨i, hi, rfl⟩ := List.getElem_of_mem hx
    rw [bs_len1] at hi
    have := b i hi
    simpa [List.getD, bs_len1, hi] using this
  rw [bs_len1] at c
  omega
theorem bs_get {ps ks : List Int} {load : Int} {i : Nat} : ∀ j, i < j → (bs ps ks load j).2.getD i 0 = (((nb ps load (bs ps ks load i).1 (ks.getD i 0)).getD 0 : Nat) : Int) := by
  intro j
  induction j with
  | zero => intro h; omega
  | succ j ih =>
    intro h
    rw [bs]
    simp only
    by_cases e : i = j
    · subst e
      rw [List.getD, List.getElem?_append_right (by rw [bs_len2]; omega), bs_len2]
      simp
    · rw [List.getD, List.getElem?_append_left (by rw [bs_len2]; omega), ← List.getD]
      exact ih (by omega)
theorem BO_own {ps ks : List Int} {load : Int} (h : VBO ps ks load) (hl : (ks.length : Int) ≤ load) {i : Nat} (hi : i < ks.length) : (((nb ps load (bs ps ks load i).1 (ks.getD i 0)).getD 0 : Nat) : Int) = OW ps (ks.getD i 0) := by
  obtain ⟨h1, h2, h3, h4, h5⟩ := h
  have a := h4 i hi
  have b := (bs_sum i fun j hj => h5 j (by omega)).2
  rw [OW_yes h1 a.1 a.2]
  have : nb ps load (bs ps ks load i).1 (ks.getD i 0) = some (own ps (ks.getD i 0)) := by
    refine bb_is (fun a b ha hb e => st_inj h1 ha hb e) (own_lt h1) ?_ fun s hs _ => own_min hs
    have := b _ (own_lt (k := ks.getD i 0) h1)
    simp only [mo, decide_eq_true_eq]; omega
  rw [this, Option.getD_some]
end Go.Proofs.YtoaiaindcmihjaaGreatDoor
/-
  spec.validRing, owner, ValidRing, OwnerOf, SharesOf, MovedBy.
-/
namespace Go.Proofs.YtoaiaindcmihjaaGreatDoor
open Go.RowKit

theorem VR_end {l : List Int} (h : FitV l l.length) : VR l = inR (l.length : Int) 1 6 := by
  rw [Bool.eq_iff_iff, VR_iff, inR_iff]
  constructor
  · intro h2; omega
  · intro h2; exact ⟨by omega, by omega, h⟩
theorem VR_bad1 {l : List Int} {k : Nat} (hk : k < l.length) (h : ¬ (0 ≤ l.getD k 0 ∧ l.getD k 0 ≤ 63)) : VR l = false :=
  VR_false fun h2 => h ⟨(h2.2.2 k hk).1, (h2.2.2 k hk).2.1⟩
theorem VR_bad2 {l : List Int} {k : Nat} (hk : k < l.length) (h : l.getD k 0 ∈ l.take k) : VR l = false :=
  VR_false fun h2 => (h2.2.2 k hk).2.2 h

set_option maxHeartbeats 4000000 in
theorem specvalidRing_any (a : Option Addr) (l : List Int) (cap : Nat) (w : World) (hr : Reads w a l) (hl : l.length ≤ 1048586) (hcap : l.length ≤ cap) :
    Calls Tryz.prog 80 #[.slice a l.length cap] w fun e w' => e = .returned (.bool (VR l)) ∧ ∃ n, w' = w.drewN n := by
  go_enter Tryz.func80, Tryz.ntmps80
  go_wp2
  go_loopw [3] (fun i wr => ∃ k n : Nat, k ≤ l.length ∧ i = .int .i64 k ∧ Hid (FitV l k) ∧ wr = w.drewN n) (fun i _ => l.length - (intOf i).toNat)
  case atStart => exact ⟨0, 0, Nat.zero_le _, rfl, fun j hj => by omega, rfl⟩
  case round =>
    obtain ⟨k, n, hk, rfl, hf, rfl⟩ := hrel
    by_cases hlt : k < l.length
    · obtain ⟨b, off, y, rfl, hb, hcell, hy⟩ := hr.get hlt
      by_cases g1 : inR y 0 63 = true
      · have c1 : ∀ wx, Calls Tryz.prog 58 #[.int .i64 y, .int .i64 0, .int .i64 63] wx fun e w' => e = .returned (.bool true) ∧ wx = w' := fun wx => by
          have := inRange_any y 0 63 wx; rwa [g1] at this
        have D1 := Lib.hid (fun n => c1 (w.drewN n))
        have ht := hr.take' k
        have hk1 : (k : Int) ≤ (cap : Int) := by omega
        have hk2 : (k : Int) < (l.length : Int) := by omega
        have hk3 : (0 : Int) ≤ (k : Int) := by omega
        by_cases g2 : inL (l.take k) y = true
        · have c2 : ∀ wx, Reads wx (some ⟨b, off, none⟩) (l.take k) → Calls Tryz.prog 51 #[.slice (some ⟨b, off, none⟩) k cap, .int .i64 y] wx fun e w' => e = .returned (.bool true) ∧ wx = w' := fun wx h => by
            have := has_any (some ⟨b, off, none⟩) (l.take k) k cap y wx h (by rw [List.length_take]; omega) (by omega)
            rwa [g2] at this
          have D2 := Lib.hid (fun n => c2 (w.drewN n) ht)
          have HB := Lib.hid (VR_bad2 hlt (by rw [hy.out]; simpa [inL] using g2))
          clear c1 c2 g1 g2
          go_wp2_with fail
          go_quiet ((with_reducible first | (go_at_call 58; exact quiet_lf (D1.out _)) | (go_at_call 51; exact quiet_lf (D2.out _))))
          all_goals
            go_wp2
            go_ret
            exact ⟨ret_bool HB.out.symm, _, World.drewN_drewN _ _ _⟩
        · have g2' : inL (l.take k) y = false := by simpa using g2
          have c2 : ∀ wx, Reads wx (some ⟨b, off, none⟩) (l.take k) → Calls Tryz.prog 51 #[.slice (some ⟨b, off, none⟩) k cap, .int .i64 y] wx fun e w' => e = .returned (.bool false) ∧ wx = w' := fun wx h => by
            have := has_any (some ⟨b, off, none⟩) (l.take k) k cap y wx h (by rw [List.length_take]; omega) (by omega)
            rwa [g2'] at this
          have D2 := Lib.hid (fun n => c2 (w.drewN n) ht)
          have HB := Lib.hid (hf.out.succ (by rw [hy.out]; exact (inR_iff.1 g1).1) (by rw [hy.out]; exact (inR_iff.1 g1).2) (by rw [hy.out]; simpa [inL] using g2))
          clear c1 c2 g1 g2 g2'
          go_wp2_with fail
          go_quiet ((with_reducible first | (go_at_call 58; exact quiet_lf (D1.out _)) | (go_at_call 51; exact quiet_lf (D2.out _))))
          all_goals
            go_wp2
            go_roundw
            case rel => exact ⟨k + 1, _, by omega, by go_num, HB, rfl⟩
            case measure => simp [intOf]; omega
      · have g1' : inR y 0 63 = false := by simpa using g1
        have c1 : ∀ wx, Calls Tryz.prog 58 #[.int .i64 y, .int .i64 0, .int .i64 63] wx fun e w' => e = .returned (.bool false) ∧ wx = w' := fun wx => by
          have := inRange_any y 0 63 wx; rwa [g1'] at this
        have D1 := Lib.hid (fun n => c1 (w.drewN n))
        have HB := Lib.hid (VR_bad1 hlt (by rw [hy.out]; exact fun h => g1 (inR_iff.2 h)))
        have hk1 : (k : Int) ≤ (cap : Int) := by omega
        have hk2 : (k : Int) < (l.length : Int) := by omega
        have hk3 : (0 : Int) ≤ (k : Int) := by omega
        clear c1 g1 g1'
        go_wp2_with fail
        go_quiet ((with_reducible first | (go_at_call 58; exact quiet_lf (D1.out _))))
        all_goals
          go_wp2
          go_ret
          exact ⟨ret_bool HB.out.symm, _, World.drewN_drewN _ _ _⟩
    · obtain rfl : k = l.length := by omega
      have c1 : ∀ wx, Calls Tryz.prog 58 #[.int .i64 (l.length : Int), .int .i64 1, .int .i64 6] wx fun e w' => e = .returned (.bool (VR l)) ∧ wx = w' := fun wx => by
        have := inRange_any (l.length : Int) 1 6 wx; rwa [← VR_end hf.out] at this
      have C1 := Lib.hid c1
      clear c1
      go_wp2_with fail
      refine (C1.out _).mono ?_
      rintro e w2 ⟨rfl, rfl⟩
      go_wp2
      go_ret
      exact ⟨rfl, _, rfl⟩


theorem st_eq {l : List Int} {k : Int} {i : Nat} {y : Int} (h : l.getD i 0 = y) (hy : 0 ≤ y) (hy' : y ≤ 63) (hk : 0 ≤ k) (hk' : k ≤ 63) : ∃ Y Z T, T = st l k i ∧ IntKind.i64.wrap (y - k) = Y ∧ IntKind.i64.wrap (Y + 64) = Z ∧ Z.tmod 64 = T ∧ 0 ≤ T ∧ T < 64 ∧ 0 ≤ Z ∧ Z < 200 ∧ -100 ≤ Y ∧ Y ≤ 100 := by
  refine ⟨y - k, y - k + 64, st l k i, rfl, IntWalk.i64_in _ (by omega), IntWalk.i64_in _ (by omega), ?_, ?_, ?_, by omega, by omega, by omega, by omega⟩
  · rw [Int.tmod_eq_emod_of_nonneg (by omega)]; unfold st offI; rw [h]
  · unfold st; exact off_nn.1
  · unfold st; exact off_nn.2

set_option maxHeartbeats 2000000 in
theorem specowner_any (a : Option Addr) (l : List Int) (cap : Nat) (k : Int) (w : World) (hr : Reads w a l) (hv : VR l = true) (hk : 0 ≤ k) (hk' : k ≤ 63) :
    Calls Tryz.prog 106 #[.slice a l.length cap, .int .i64 k] w fun e w' => e = .returned (.int .i64 (own l k : Nat)) ∧ ∃ n, w' = w.drewN n := by
  have hl1 := (VR_iff.1 hv).1
  have hl6 := (VR_iff.1 hv).2.1
  have HV := Lib.hid hv
  clear hv
  go_enter Tryz.func106, Tryz.ntmps106
  go_wp2
  go_loopw [5, 6] (fun b i wr => ∃ t q bb t1 : Nat, t + 1 ≤ l.length ∧ i = .int .i64 (t1 : Int) ∧ b = .int .i64 (bb : Int) ∧ Hid (t1 = t + 1) ∧ Hid (bb = bsm (st l k) t) ∧ wr = w.drewN q) (fun _ i _ => l.length - (intOf i).toNat)
  case atStart => exact ⟨0, 0, 0, 1, by omega, rfl, rfl, rfl, rfl, rfl⟩
  case round =>
    obtain ⟨t, q, bb, t1, ht, rfl, rfl, HT1, HBB, rfl⟩ := hrel
    by_cases hlt : t + 1 < l.length
    · have hbt := bsm_le (st l k) t
      have hbb := HBB.out
      have hnew : bsm (st l k) (t + 1) = if st l k (t + 1) < st l k bb then t + 1 else bb := by rw [bsm, hbb]
      rw [← hbb] at hbt
      obtain ⟨b1, o1, y1, rfl, hb1, hc1, hy1⟩ := hr.get hlt
      obtain ⟨y2, hc2, hy2⟩ := hr.at_ (k := bb) (by omega)
      have r1 := VR_rng HV.out hlt
      have r2 := VR_rng HV.out (i := bb) (by omega)
      rw [hy1.out] at r1
      rw [hy2.out] at r2
      obtain ⟨Y1, Z1, T1, hT1, e1, e2, e3, n1, n2, n3, n4, n5, n6⟩ := st_eq (k := k) hy1.out r1.1 r1.2 hk hk'
      obtain ⟨Y2, Z2, T2, hT2, f1, f2, f3, m1, m2, m3, m4, m5, m6⟩ := st_eq (k := k) hy2.out r2.1 r2.2 hk hk'
      rw [← hT1, ← hT2] at hnew
      have ht1 : ((t + 1 : Nat) : Int) < (l.length : Int) := by omega
      have hb1' : (bb : Int) < (l.length : Int) := by omega
      have ht1e := HT1.out
      rw [← ht1e] at ht1 hc1
      have ht1w : IntKind.i64.wrap ((t1 : Int) + 1) = ((t1 + 1 : Nat) : Int) := by rw [IntWalk.i64_in _ (by omega)]; rfl
      clear hT1 hT2 hbb hy1 hy2 ht1e
      by_cases hc : T1 < T2
      · rw [if_pos hc] at hnew
        have HN := Lib.hid hnew
        clear hnew
        go_wp2
        go_quiet (fail)
        go_wp2
        go_roundw
        case rel => exact ⟨t1, _, t1, t1 + 1, by have := HT1.out; omega, by first | rfl | go_num, rfl, rfl, Lib.hid (by rw [HT1.out, HN.out]), by first | rfl | exact World.drewN_drewN _ _ _⟩
        case measure => simp [intOf]; omega
      · rw [if_neg hc] at hnew
        have HN := Lib.hid hnew
        clear hnew
        go_wp2
        go_quiet (fail)
        go_wp2
        go_roundw
        case rel => exact ⟨t1, _, bb, t1 + 1, by have := HT1.out; omega, by first | rfl | go_num, rfl, rfl, Lib.hid (by rw [HT1.out, HN.out]), by first | rfl | exact World.drewN_drewN _ _ _⟩
        case measure => simp [intOf]; omega
    · have ht1 : ¬ (t1 : Int) < (l.length : Int) := by have := HT1.out; omega
      have e : bb = own l k := by rw [HBB.out, own, show l.length - 1 = t from by omega]
      have E := Lib.hid e
      clear e
      go_wp2
      go_ret
      exact ⟨by first | rfl | (rw [E.out]; rfl), _, rfl⟩
end Go.Proofs.YtoaiaindcmihjaaGreatDoor
/-
  spec.ValidRing, OwnerOf, SharesOf.
-/
namespace Go.Proofs.YtoaiaindcmihjaaGreatDoor
open Go.RowKit

theorem made_tabR (w : World) (base n : Nat) (hb : base ≤ w.heap.size) (hn : n ≤ 100) : Tab (w.alloc (.cells (madeCells #[.int .i64 0] n) 3)) base w.heap.size n n (List.replicate n 0) := by
  have e := toList_madeCells_one (Value.int .i64 0) n
  have := World.ownsRow_lit (e := 3) (size := 1) (base := base) w (madeCells #[.int .i64 0] n) n hb (by unfold maxLen; omega) (by rw [← Array.length_toList, e]; simp)
  rw [e] at this
  unfold Tab
  rw [List.map_replicate]
  exact this

set_option maxHeartbeats 4000000 in
theorem specSharesOf_any (a : Option Addr) (l : List Int) (cap : Nat) (w : World) (hr : Reads w a l) (_hi : ∀ n ∈ l, In64 n) (hl : l.length ≤ 1048586) (hcap : l.length ≤ cap) :
    Calls Tryz.prog 81 #[.slice a l.length cap] w fun e w' => ∃ v, e = .returned v ∧ Own w' w.heap.size v (SH l) ∧ Below w.heap.size w w' := by
  have cV := specvalidRing_any a l cap w hr hl hcap
  obtain ⟨R, hR⟩ : ∃ R, R = SH l := ⟨_, rfl⟩
  rw [← hR]
  have HR := Lib.hid hR
  clear hR
  by_cases hv : VR l = true
  · rw [hv] at cV
    have CV := Lib.hid cV
    have hl1 := (VR_iff.1 hv).1
    have hl6 := (VR_iff.1 hv).2.1
    have e : R = shr l 64 := by rw [HR.out]; unfold SH; rw [if_pos hv]
    have E := Lib.hid e
    have CO := Lib.hid (fun wx h k h1 h2 => specowner_any a l cap k wx h hv h1 h2)
    have HV := Lib.hid hv
    clear cV e hv
    obtain ⟨N, hN⟩ : ∃ N, N = l.length := ⟨_, rfl⟩
    have hmk := run_make_row' (P := Tryz.prog) 23 3 (.int .i64 0) 8 Tryz.underlying23 infoInt rfl .i64 .i64 l.length (by omega) (by omega)
    have xA := fun n => made_tabR (w.drewN n) w.heap.size l.length (Nat.le_refl _) (by omega)
    obtain ⟨BB, hBB⟩ : ∃ BB, BB = madeCells #[.int .i64 0] l.length := ⟨_, rfl⟩
    rw [← hBB] at hmk xA
    have XA := Lib.hid xA
    clear hBB xA
    go_enter Tryz.func81, Tryz.ntmps81
    go_wp2_with fail
    refine CV.out.mono ?_
    rintro e w' ⟨rfl, n, rfl⟩
    have bA := (Go.below_drewN (Below.refl w.heap.size w) n).alloc (Nat.le_refl _) (.cells BB 3)
    go_wp2_with fail
    go_loopw [4] (fun iv wr => ∃ j : Nat, j ≤ 64 ∧ iv = .int .i64 j ∧ Tab wr w.heap.size w.heap.size l.length l.length (shr l j) ∧ Below w.heap.size w wr) (fun iv _ => 64 - (intOf iv).toNat)
    case atStart => exact ⟨0, by omega, rfl, XA.out n, bA⟩
    case round =>
      clear bA hmk
      obtain ⟨j, hj, rfl, hT, hB⟩ := hrel
      by_cases hj6 : j < 64
      · have hj1 : (j : Int) < 64 := by omega
        have ho := own_lt (k := (j : Int)) HV.out
        have hnn := shr_nn HV.out j _ ho
        have hsh : shr l (j + 1) = (shr l j).set (own l j) ((shr l j).getD (own l j) 0 + 1) := rfl
        have cO := CO.out wr (hr.below hB) (j : Int) (by omega) (by omega)
        have cO2 := fun n => CO.out (wr.drewN n) (hr.below (Go.below_drewN hB n)) (j : Int) (by omega) (by omega)
        obtain ⟨s, hs⟩ : ∃ s, s = own l (j : Int) := ⟨_, rfl⟩
        rw [← hs] at ho hnn hsh cO
        have cO2' : ∀ n, Calls Tryz.prog 106 #[.slice a l.length cap, .int .i64 (j : Int)] (wr.drewN n) fun e w' => e = .returned (.int .i64 (s : Int)) ∧ ∃ m, w' = (wr.drewN n).drewN m := fun n => by have := cO2 n; rwa [← hs] at this
        have C1 := Lib.hid cO
        have C2 := Lib.hid cO2'
        obtain ⟨y, hcy, hy⟩ := hT.get (k := s) ho
        have hfz := hT.frozen s
        rw [hy.out] at hsh hnn
        have hyw : IntKind.i64.wrap (y + 1) = y + 1 := IntWalk.i64_in _ (by omega)
        have hst := fun n => (hT.below (Go.below_drewN (Below.refl _ wr) n)).store s (y + 1)
        have hs1 : (s : Int) < (l.length : Int) := by omega
        have HSH := Lib.hid hsh
        have HST := Lib.hid hst
        clear hs hsh cO cO2 cO2' hst hy
        go_wp2_with fail
        refine C1.out.mono ?_
        rintro e w2 ⟨rfl, n1, rfl⟩
        go_wp2_with fail
        refine (C2.out n1).mono ?_
        rintro e w2 ⟨rfl, n2, rfl⟩
        go_wp2
        go_roundw
        case rel => exact ⟨j + 1, by omega, by go_num, by rw [HSH.out]; exact HST.out _, (Go.below_drewN hB _).setCell (p := ⟨w.heap.size, s, none⟩) (Nat.le_refl _) _⟩
        case measure => simp [intOf]; omega
      · obtain rfl : j = 64 := by omega
        have ho := hT.own
        rw [← E.out] at ho
        have hlR : R.length = l.length := by rw [E.out, shr_len]
        go_wp2
        go_ret
        exact ⟨_, rfl, ho, hB⟩
  · have e : R = [] := by rw [HR.out]; unfold SH; rw [if_neg hv]
    subst e
    rw [show VR l = false from by simpa using hv] at cV
    have CV := Lib.hid cV
    clear cV hv
    go_enter Tryz.func81, Tryz.ntmps81
    go_wp2_with fail
    refine CV.out.mono ?_
    rintro e w' ⟨rfl, n, rfl⟩
    go_wp2
    go_ret
    exact ⟨_, rfl, Own.nil _ _, Go.below_drewN (Below.refl _ _) n⟩
end Go.Proofs.YtoaiaindcmihjaaGreatDoor
/-
  The reader that draws arguments from a code: newReader, pick, one.
-/
namespace Go.Proofs.YtoaiaindcmihjaaGreatDoor
open Go.RowKit

/-- The slice (its address, its length) holds bytes, in a block below g. -/
def Bytes (w : World) (g : Nat) (a : Option Addr) (n : Nat) : Prop := n = 0 ∨ ∃ b off, a = some ⟨b, off, none⟩ ∧ b < g ∧ ∀ i, i < n → ∃ x : Int, 0 ≤ x ∧ x ≤ 255 ∧ w.cell? ⟨b, off + i, none⟩ = some (.int .u8 x)
theorem Bytes.of_block {w w' : World} {g : Nat} {a : Option Addr} {n : Nat} (h : Bytes w g a n) (hw : ∀ k, k < g → w'.heap[k]? = w.heap[k]?) : Bytes w' g a n := by
  rcases h with h | ⟨b, off, ha, hb, hc⟩
  · exact .inl h
  · refine .inr ⟨b, off, ha, hb, fun i hi => ?_⟩
    obtain ⟨x, h1, h2, h3⟩ := hc i hi
    exact ⟨x, h1, h2, (World.cell?_of_block (w := w) (hw b hb)).trans h3⟩
theorem Bytes.le {w : World} {g g' : Nat} {a : Option Addr} {n : Nat} (h : Bytes w g a n) (hg : g ≤ g') : Bytes w g' a n := by
  rcases h with h | ⟨b, off, ha, hb, hc⟩
  · exact .inl h
  · exact .inr ⟨b, off, ha, by omega, hc⟩

/-- The reader in block g: at most 2000 bytes, p of them read. -/
structure Rdr (w : World) (g p : Nat) : Prop where
  ex : ∃ a n cap, w.heap[g]? = some (.cells #[.slice a n cap, .int .i64 p] 74 (0, 0)) ∧ Bytes w g a n ∧ n ≤ 2000
theorem Rdr.lt {w : World} {g p : Nat} (h : Rdr w g p) : g < w.heap.size := by
  obtain ⟨a, n, cap, h1, _⟩ := h.ex
  exact (Array.getElem?_eq_some_iff.1 h1).1
theorem Rdr.of_block {w w' : World} {g p : Nat} (h : Rdr w g p) (hw : ∀ k, k ≤ g → w'.heap[k]? = w.heap[k]?) : Rdr w' g p := by
  obtain ⟨a, n, cap, h1, h2, h3⟩ := h.ex
  exact ⟨a, n, cap, (hw g (Nat.le_refl _)).trans h1, h2.of_block (fun k hk => hw k (by omega)), h3⟩
theorem Rdr.below {w w' : World} {g p : Nat} (h : Rdr w g p) (hb : Below w.heap.size w w') : Rdr w' g p := h.of_block fun k hk => hb.block k (by have := h.lt; omega)
theorem Rdr.kept {w w' : World} {g p : Nat} {row : Option Nat} (h : Rdr w g p) (hg : w.grownBy w' row) (hr : ∀ k, row = some k → g < k) : Rdr w' g p :=
  h.of_block fun k hk => hg.block k (by have := h.lt; omega) (fun e => by have := hr k e.symm; omega)

theorem bits_xor_i64_nat (a b : Nat) (ha : a < 9223372036854775808) (hb : b < 9223372036854775808) : bits .xor .i64 (a : Int) (b : Int) = ((a ^^^ b : Nat) : Int) := by
  have hx : a ^^^ b < 2 ^ 63 := Nat.xor_lt_two_pow (by omega) (by omega)
  have h1 : (BitVec.ofInt 64 (a : Int)).toNat = a := by
    rw [BitVec.ofInt_natCast, BitVec.toNat_ofNat]; exact Nat.mod_eq_of_lt (by omega)
  have h2 : (BitVec.ofInt 64 (b : Int)).toNat = b := by
    rw [BitVec.ofInt_natCast, BitVec.toNat_ofNat]; exact Nat.mod_eq_of_lt (by omega)
  show IntKind.i64.wrap ((BitVec.ofInt 64 (a : Int) ^^^ BitVec.ofInt 64 (b : Int)).toNat : Int) = _
  rw [BitVec.toNat_xor, h1, h2, IntKind.wrap_i64]
  omega
theorem xor_pos {a b : Int} (h1 : 0 ≤ a) (h2 : a < 9223372036854775808) (h3 : 0 ≤ b) (h4 : b < 9223372036854775808) : 0 ≤ bits .xor .i64 a b := by
  obtain ⟨A, rfl⟩ := Int.eq_ofNat_of_zero_le h1
  obtain ⟨B, rfl⟩ := Int.eq_ofNat_of_zero_le h3
  rw [bits_xor_i64_nat A B (by omega) (by omega)]
  omega

theorem rdr_step {w : World} {g p : Nat} {a : Option Addr} {n cap : Nat} (hg : w.heap[g]? = some (.cells #[.slice a n cap, .int .i64 p] 74 (0, 0))) (hB : Bytes w g a n) (hn : n ≤ 2000) :
    Rdr (w.setCell ⟨g, 1, none⟩ (.int .i64 ((p : Int) + 1))) g (p + 1) ∧ w.grownBy (w.setCell ⟨g, 1, none⟩ (.int .i64 ((p : Int) + 1))) (some g) := by
  refine ⟨⟨a, n, cap, ?_, hB.of_block (fun k hk => heap_setCell_other _ _ _ _ (by show k ≠ g; omega)), hn⟩, rfl, rfl, rfl, by simp, fun k _ hk => heap_setCell_other _ _ _ _ (fun e => hk (by rw [e]))⟩
  rw [heap_setCell_same w g 1 _ _ _ hg]; rfl
theorem Rdr.drewN {w : World} {g p : Nat} (h : Rdr w g p) (n : Nat) : Rdr (w.drewN n) g p := h.of_block fun _ _ => rfl
theorem grownBy_drewN {w w' : World} {row : Option Nat} (h : w.grownBy w' row) (n : Nat) : w.grownBy (w'.drewN n) row := ⟨h.os, h.tape, h.output, h.size, h.block⟩

/-- A number in 0..k-1, or 0. -/
def Picked (k y : Int) : Prop := (1 ≤ k → 0 ≤ y ∧ y < k) ∧ (k < 1 → y = 0)

set_option maxHeartbeats 2000000 in
theorem pick_any (g p : Nat) (k : Int) (w : World) (hR : Rdr w g p) (hp : p ≤ 1000000) (hk : k ≤ 1000000) :
    Calls Tryz.prog 37 #[.pointer (some ⟨g, 0, none⟩), .int .i64 k] w fun e w' => ∃ y, e = .returned (.int .i64 y) ∧ Picked k y ∧ Rdr w' g (p + 1) ∧ w.grownBy w' (some g) := by
  obtain ⟨a, n, cap, hg, hB, hn⟩ := hR.ex
  have c0 : w.cell? ⟨g, 0, none⟩ = some (.slice a n cap) := by rw [cell_of_row w g 0 _ _ _ hg]; rfl
  have c1 : w.cell? ⟨g, 1, none⟩ = some (.int .i64 (p : Int)) := by rw [cell_of_row w g 1 _ _ _ hg]; rfl
  have f1 : w.frozen? ⟨g, 1, none⟩ = false := frozen_of_row w g 1 _ _ hg
  have hst := rdr_step hg hB hn
  have HST := Lib.hid hst
  clear hst hg
  by_cases h1 : k < 1
  · go_enter Tryz.func37, Tryz.ntmps37
    go_wp2
    go_ret
    exact ⟨0, rfl, ⟨fun h => by omega, fun _ => rfl⟩, HST.out.1, HST.out.2⟩
  by_cases h2 : n = 0
  · subst h2
    go_enter Tryz.func37, Tryz.ntmps37
    go_wp2
    go_ret
    exact ⟨0, rfl, ⟨fun h => by omega, fun _ => rfl⟩, HST.out.1, HST.out.2⟩
  have hn0 : ((n : Int) == 0) = false := by simp; exact h2
  rcases hB with hB | ⟨b, off, rfl, hb, hc⟩
  · exact absurd hB h2
  have hk0 : (k == 0) = false := by simp; omega
  by_cases h3 : p < n
  · obtain ⟨x, x0, x1, hx⟩ := hc p h3
    have hxs : (w.setCell ⟨g, 1, none⟩ (.int .i64 ((p : Int) + 1))).cell? ⟨b, off + p, none⟩ = some (.int .u8 x) := (World.cell?_of_block (w := w) (heap_setCell_other _ _ _ _ (by show b ≠ g; omega))).trans hx
    clear hc
    go_enter Tryz.func37, Tryz.ntmps37
    go_wp2
    go_ret
    exact ⟨_, rfl, ⟨fun h => ⟨Int.emod_nonneg _ (by omega), Int.emod_lt_of_pos _ (by omega)⟩, fun h => by omega⟩, HST.out.1, HST.out.2⟩
  · obtain ⟨q, hq⟩ : ∃ q, q = p % n := ⟨_, rfl⟩
    obtain ⟨s7, h7⟩ : ∃ s, s = p * 7 := ⟨_, rfl⟩
    obtain ⟨s10, h10⟩ : ∃ s, s = s7 + 3 := ⟨_, rfl⟩
    obtain ⟨r, hr⟩ : ∃ r, r = s10 % n := ⟨_, rfl⟩
    obtain ⟨d, hd⟩ : ∃ d, d = p / n := ⟨_, rfl⟩
    have hqn : q < n := by rw [hq]; exact Nat.mod_lt _ (by omega)
    have hrn : r < n := by rw [hr]; exact Nat.mod_lt _ (by omega)
    have hdn : d ≤ p := by rw [hd]; exact Nat.div_le_self _ _
    obtain ⟨x, x0, x1, hx⟩ := hc q hqn
    obtain ⟨z, z0, z1, hz⟩ := hc r hrn
    have hxs : (w.setCell ⟨g, 1, none⟩ (.int .i64 ((p : Int) + 1))).cell? ⟨b, off + q, none⟩ = some (.int .u8 x) := (World.cell?_of_block (w := w) (heap_setCell_other _ _ _ _ (by show b ≠ g; omega))).trans hx
    have hzs : (w.setCell ⟨g, 1, none⟩ (.int .i64 ((p : Int) + 1))).cell? ⟨b, off + r, none⟩ = some (.int .u8 z) := (World.cell?_of_block (w := w) (heap_setCell_other _ _ _ _ (by show b ≠ g; omega))).trans hz
    have e1 : (p : Int).tmod n = (q : Int) := by rw [hq, Int.tmod_eq_emod_of_nonneg (by omega), Int.natCast_emod]
    have e2 : IntKind.i64.wrap ((p : Int) * 7) = (s7 : Int) := by rw [IntWalk.i64_in _ (by omega), h7]; simp
    have e3 : IntKind.i64.wrap ((s7 : Int) + 3) = (s10 : Int) := by rw [IntWalk.i64_in _ (by omega), h10]; simp
    have e4 : (s10 : Int).tmod n = (r : Int) := by rw [hr, Int.tmod_eq_emod_of_nonneg (by omega), Int.natCast_emod]
    have e5 : (p : Int).tdiv n = (d : Int) := by rw [hd, Int.tdiv_eq_ediv_of_nonneg (by omega), Int.natCast_ediv]
    have c1 : (q : Int) < n := by omega
    have c2 : (r : Int) < n := by omega
    have b1 : s7 ≤ 7000000 := by omega
    have b2 : s10 ≤ 7000003 := by omega
    have hn1 : (n : Int) ≠ 0 := by omega
    clear hc hx hz hq h7 h10 hr hd
    go_enter Tryz.func37, Tryz.ntmps37
    go_wp2
    go_quiet (fail)
    go_wp2
    go_ret
    exact ⟨_, rfl, ⟨fun h => ⟨Int.tmod_nonneg _ (xor_pos (by omega) (by omega) (by omega) (by omega)), Int.tmod_lt_of_pos _ (by omega)⟩, fun h => by omega⟩, HST.out.1.drewN _, grownBy_drewN HST.out.2 _⟩

theorem Picked.pos {k y : Int} (h : Picked k y) (hk : 1 ≤ k) : 0 ≤ y ∧ y < k := h.1 hk

set_option maxHeartbeats 1000000 in
theorem newReader_any (a : Option Addr) (n cap : Nat) (w : World) (hB : Bytes w w.heap.size a n) (hn : n ≤ 9223372036854775807) (hc : n ≤ cap) :
    Calls Tryz.prog 29 #[.slice a n cap] w fun e w' => e = .returned (.pointer (some ⟨w.heap.size, 0, none⟩)) ∧ Rdr w' w.heap.size 0 ∧ Below w.heap.size w w' ∧ w.heap.size < w'.heap.size := by
  by_cases h : 2000 < n
  · rcases hB with hB | ⟨b, off, rfl, hb, hcc⟩
    · omega
    · go_enter Tryz.func29, Tryz.ntmps29
      go_wp2
      go_ret
      exact ⟨rfl, ⟨_, 2000, cap, heap_alloc_new _ _, (show Bytes w w.heap.size _ 2000 from .inr ⟨b, off, rfl, hb, fun i hi => hcc i (by omega)⟩).of_block (fun k hk => Below.heap_alloc _ _ _ hk), by omega⟩, (Below.refl _ _).alloc (Nat.le_refl _) _, by simp⟩
  · go_enter Tryz.func29, Tryz.ntmps29
    go_wp2
    go_ret
    refine ⟨rfl, ⟨a, n, cap, heap_alloc_new _ _, hB.of_block (fun k hk => Below.heap_alloc _ _ _ hk), by omega⟩, (Below.refl _ _).alloc (Nat.le_refl _) _, by simp⟩

set_option maxHeartbeats 1000000 in
theorem one_any (g p : Nat) (gl : Nat) (cap : Nat) (l : List Int) (w : World) (hR : Rdr w g p) (hp : p ≤ 1000000) (hc : CellsAt w gl 0 l) (hgl : g < gl) (h0 : 0 < l.length) (hl : l.length ≤ 1000000) (n : Nat) (hn : l.length = n) :
    Calls Tryz.prog 41 #[.pointer (some ⟨g, 0, none⟩), .slice (some ⟨gl, 0, none⟩) n cap] w fun e w' => ∃ y, e = .returned (.int .i64 y) ∧ y ∈ l ∧ Rdr w' g (p + 1) ∧ w.grownBy w' (some g) := by
  subst hn
  go_enter Tryz.func41, Tryz.ntmps41
  go_wp2_with fail
  refine (pick_any g p _ _ hR hp (by omega)).mono ?_
  rintro e w' ⟨y, rfl, hy, hR', hg⟩
  obtain ⟨y0, y1⟩ := hy.pos (by omega)
  obtain ⟨i, rfl⟩ := Int.eq_ofNat_of_zero_le y0
  have hil : i < l.length := by omega
  have hcell : w'.cell? ⟨gl, i, none⟩ = some (.int .i64 (l.getD i 0)) := by
    have := hc i hil
    rw [Nat.zero_add] at this
    exact hg.cell this (by simp; omega)
  obtain ⟨x, hx⟩ : ∃ x, l.getD i 0 = x := ⟨_, rfl⟩
  rw [hx] at hcell
  have hm : x ∈ l := by rw [← hx, List.getD_eq_getElem?_getD, List.getElem?_eq_getElem hil]; exact List.getElem_mem hil
  clear hx
  go_wp2
  go_ret
  exact ⟨x, rfl, hm, hR', hg⟩

theorem CellsAt.lit (w : World) (l : List Int) : CellsAt (w.alloc (.cells (l.map (Value.int .i64)).toArray 3)) w.heap.size 0 l := by
  intro i hi
  rw [cell_of_row _ _ _ _ _ _ (heap_alloc_new _ _)]
  simp [List.getD, hi]
theorem grownBy_trans {a b c : World} {row : Option Nat} (h : a.grownBy b row) (k : b.grownBy c row) : a.grownBy c row :=
  ⟨k.os.trans h.os, k.tape.trans h.tape, k.output.trans h.output, Nat.le_trans h.size k.size, fun i hi hne => (k.block i (Nat.lt_of_lt_of_le hi h.size) hne).trans (h.block i hi hne)⟩
theorem grownBy_alloc' {a b : World} {row : Option Nat} (h : a.grownBy b row) (o : Obj) : a.grownBy (b.alloc o) row := grownBy_trans h (World.grownBy_alloc b o row)
/-- An append to a slice of the call's own, made behind a. -/
theorem grownBy_own {a b c : World} {row : Option Nat} {base : Nat} {v : Value} {l : List Int} (h : a.grownBy b row) (ho : Own b base v l) (hb : a.heap.size ≤ base) (k : b.grownBy c v.ownBlock) : a.grownBy c row :=
  ⟨k.os.trans h.os, k.tape.trans h.tape, k.output.trans h.output, Nat.le_trans h.size k.size, fun i hi hne => (k.block i (Nat.lt_of_lt_of_le hi h.size) (fun e => by have := (ho.lt i e.symm).1; omega)).trans (h.block i hi hne)⟩

set_option maxHeartbeats 1000000 in
theorem slots_any (g p : Nat) (w : World) (hR : Rdr w g p) (hp : p ≤ 900000) :
    Calls Tryz.prog 69 #[.pointer (some ⟨g, 0, none⟩)] w fun e w' => ∃ m : Int, e = .returned (.int .i64 m) ∧ (-1 ≤ m ∧ m ≤ 11) ∧ Rdr w' g (p + 2) ∧ w.grownBy w' (some g) := by
  go_enter Tryz.func69, Tryz.ntmps69
  go_wp2_with fail
  refine (pick_any g p _ _ hR (by omega) (by omega)).mono ?_
  rintro e w1 ⟨y, rfl, hy, hR1, hg1⟩
  have gl := hR1.lt
  by_cases hy0 : y = 0
  · have hd : (y == 0) = true := by simp [hy0]
    have hc : CellsAt (w1.alloc (.cells #[.int .i64 0, .int .i64 11, .int .i64 (-1)] 3)) w1.heap.size 0 [0, 11, -1] := CellsAt.lit w1 [0, 11, -1]
    have hR2 := hR1.below ((Below.refl w1.heap.size w1).alloc (Nat.le_refl _) (.cells #[.int .i64 0, .int .i64 11, .int .i64 (-1)] 3))
    clear hy0 hy
    go_wp2_with fail
    refine (one_any g (p + 1) _ _ [0, 11, -1] _ hR2 (by omega) hc gl (by simp) (by simp) 3 rfl).mono ?_
    rintro e w2 ⟨z, rfl, hz, hR3, hg3⟩
    have hz2 : -1 ≤ z ∧ z ≤ 11 := by simp at hz; omega
    clear hc hz
    go_wp2
    go_ret
    exact ⟨z, rfl, hz2, hR3, grownBy_trans (grownBy_alloc' hg1 _) hg3⟩
  · have hd : (y == 0) = false := by simpa using hy0
    have hc : CellsAt (w1.alloc (.cells #[.int .i64 6, .int .i64 8, .int .i64 10, .int .i64 5, .int .i64 7, .int .i64 4, .int .i64 3, .int .i64 2, .int .i64 1] 3)) w1.heap.size 0 [6, 8, 10, 5, 7, 4, 3, 2, 1] := CellsAt.lit w1 [6, 8, 10, 5, 7, 4, 3, 2, 1]
    have hR2 := hR1.below ((Below.refl w1.heap.size w1).alloc (Nat.le_refl _) (.cells #[.int .i64 6, .int .i64 8, .int .i64 10, .int .i64 5, .int .i64 7, .int .i64 4, .int .i64 3, .int .i64 2, .int .i64 1] 3))
    clear hy0 hy
    go_wp2_with fail
    refine (one_any g (p + 1) _ _ [6, 8, 10, 5, 7, 4, 3, 2, 1] _ hR2 (by omega) hc gl (by simp) (by simp) 9 rfl).mono ?_
    rintro e w2 ⟨z, rfl, hz, hR3, hg3⟩
    have hz2 : -1 ≤ z ∧ z ≤ 11 := by simp at hz; omega
    clear hc hz
    go_wp2
    go_ret
    exact ⟨z, rfl, hz2, hR3, grownBy_trans (grownBy_alloc' hg1 _) hg3⟩

theorem Own.ne_g {w : World} {base : Nat} {v : Value} {l : List Int} (h : Own w base v l) {g : Nat} (hg : g < base) : v.ownBlock = none ∨ v.ownBlock ≠ some g := by
  cases hv : v.ownBlock with
  | none => exact .inl rfl
  | some k =>
    have := h.lt k hv
    exact .inr (fun e => by cases e; omega)
/-- 'append(s, y, z)'. -/
theorem push_two {wr : World} {ops : Array Oper} {rest : List Oper} {o : Oper} {a : Act} {Q : Exit → Act → World → Prop} (hgd : o.guard = none) (s x : Operand)
    (ho : o.op = .call { callee := .builtin .append, args := #[s, x], argTypes := #[23, 23] })
    (base : Nat) (v : Value) (l : List Int) (y z : Int) (hs : a.eval s = v) (hown : Own wr base v l) (hx : a.eval x = .slice (some ⟨wr.heap.size, 0, none⟩) 2 2)
    (hl : l.length < 1000000000000) (hbase : base ≤ wr.heap.size)
    (h : ∀ v' w', Own w' base v' (l ++ [y, z]) → v' ≠ .slice none 0 0 → wr.grownBy w' v.ownBlock → wpList Tryz.prog ops Q rest (a.put o.dst v') w') :
    wpList Tryz.prog ops Q (o :: rest) a (wr.alloc (.cells #[.int .i64 y, .int .i64 z] 3)) := by
  obtain ⟨i0, hi, hz0, hz1, hz2⟩ := info_parts infoInt
  refine wpList_append_own _ hgd s x 23 ho base 3 i0 (.int .i64 0) 1 8 Tryz.underlying23 hi hz0 hz1 hz2 rfl (by decide) v l.length (l.map (Value.int .i64)) hs (World.ownsRow.alloc hown _) ⟨wr.heap.size, 0, none⟩ 2 2 [.int .i64 y, .int .i64 z] hx rfl (fun j u hu => ?_) (fun u hu => by simp at hu; rcases hu with rfl | rfl <;> rfl) (by unfold maxLen; omega) (by omega) (by simp; omega) fun v' w' h1 h2 h3 => h v' w' ?_ ?_ ?_
  · have := CellsAt.lit wr [y, z]
    have hj : j < 2 := by simpa using (List.getElem?_eq_some_iff.1 hu).1
    have h2 := this j hj
    rw [Addr.add_lit]
    rw [show ((List.map (Value.int .i64) [y, z]).toArray) = #[.int .i64 y, .int .i64 z] from rfl] at h2
    rw [h2]
    match j, hj, hu with
    | 0, _, hu => simpa using hu
    | 1, _, hu => simpa using hu
  · unfold Own
    rw [List.length_append, List.map_append]
    exact h1
  · intro e
    have := (h3.1 e).2
    omega
  · refine ⟨h2.os, h2.tape, h2.output, Nat.le_trans (by simp) h2.size, fun k hk hne => ?_⟩
    rw [h2.block k (by simp; omega) hne]; exact Below.heap_alloc _ _ _ hk
end Go.Proofs.YtoaiaindcmihjaaGreatDoor
/-
  spec.PairCount, apart, ApartBy, LeastApart, TwoLevels, BestLevels.
-/
namespace Go.Proofs.YtoaiaindcmihjaaGreatDoor
open Go.RowKit

theorem VX_eq (m x y : Int) : VX m x y = (SZ m && VK [x, y]) := by
  rw [Bool.eq_iff_iff]
  simp only [VX_iff, Bool.and_eq_true, SZ_iff, VK_iff]
  constructor
  · rintro ⟨h1, h2, h3, h4, h5, h6, h7⟩
    refine ⟨⟨h1, h2⟩, by simp, ?_, by simp [h7]⟩
    intro z hz
    simp at hz
    rcases hz with rfl | rfl <;> omega
  · rintro ⟨⟨h1, h2⟩, _, h3, h4⟩
    have hx := h3 x (by simp)
    have hy := h3 y (by simp)
    refine ⟨h1, h2, hx.1, hx.2, hy.1, hy.2, ?_⟩
    intro e; subst e; simp at h4

theorem meet_at {m x y : Int} {a b : Nat} (ha : 1 ≤ a) (hb : b < 31) : meet m x y ((a - 1) * 31 + b) = decide (hs a b m x = hs a b m y) := by
  unfold meet; rw [fA_at a b hb ha, fB_at a b hb]
theorem mtt_at {m : Int} {l : List Int} {a b : Nat} (ha : 1 ≤ a) (hb : b < 31) : mtt m l ((a - 1) * 31 + b) = mt a b m l := by
  unfold mtt; rw [fA_at a b hb ha, fB_at a b hb]

/-- apart's answer. -/
def apV (m : Int) (l : List Int) : Value := .tuple #[.int .i64 (apR (ap m l)).1, .int .i64 (apR (ap m l)).2.1, .bool (apR (ap m l)).2.2]

set_option maxHeartbeats 4000000 in
theorem apart_any (m : Int) (al : Option Addr) (l : List Int) (cap : Nat) (w : World) (hr : Reads w al l) (hm : 1 ≤ m) (hm' : m ≤ 31) (hv : VK l = true) :
    Calls Tryz.prog 107 #[.int .i64 m, .slice al l.length cap] w fun e w' => e = .returned (apV m l) ∧ ∃ n, w' = w.drewN n := by
  go_enter Tryz.func107, Tryz.ntmps107
  go_wp2
  go_loopw [7] (fun i wr => ∃ a n : Nat, 1 ≤ a ∧ a ≤ 31 ∧ i = .int .i64 a ∧ Hid (∀ s, s < (a - 1) * 31 → mtt m l s ≠ 0) ∧ wr = w.drewN n) (fun i _ => 31 - (intOf i).toNat)
  case atStart => exact ⟨1, 0, by omega, by omega, rfl, fun s hs => by omega, rfl⟩
  case round =>
    obtain ⟨a, n, ha, ha', rfl, hn, rfl⟩ := hrel
    by_cases hlt : a < 31
    · have da : decide ((a : Int) < 31) = true := by simp; omega
      go_wp2
      go_loopw [8] (fun i wq => ∃ b n : Nat, b ≤ 31 ∧ i = .int .i64 b ∧ Hid (∀ s, s < (a - 1) * 31 + b → mtt m l s ≠ 0) ∧ wq = w.drewN n) (fun i _ => 31 - (intOf i).toNat)
      case atStart => exact ⟨0, n, by omega, rfl, hn, rfl⟩
      case round =>
        clear hn
        obtain ⟨b, n, hb, rfl, hn, rfl⟩ := hrel
        by_cases hlt2 : b < 31
        · have hc := meetings_any a b m al l cap (w.drewN n) (hr.below below_q) (by omega) (by omega) (by omega) (by omega) hm hm' hv
          obtain ⟨X, hX⟩ : ∃ X, X = mt a b m l := ⟨_, rfl⟩
          rw [← hX] at hc
          have HX : Hid (mtt m l ((a - 1) * 31 + b) = X) := by show mtt m l ((a - 1) * 31 + b) = X; rw [mtt_at ha hlt2, hX]
          have HC := Lib.hid hc
          clear hX hc
          by_cases e : X = 0
          · have hd : ((X : Int) == 0) = true := by simp [e]
            have hap : ap m l = some ((a - 1) * 31 + b) := ap_some (by omega) (by rw [HX.out, e]) hn.out
            have hA : apV m l = .tuple #[.int .i64 a, .int .i64 b, .bool true] := by unfold apV; rw [hap]; simp only [apR, fA_at a b hlt2 ha, fB_at a b hlt2]
            have HA := Lib.hid hA
            clear e hap hA
            go_wp2_with fail
            refine HC.out.mono ?_
            rintro e w1 ⟨rfl, n1, rfl⟩
            go_wp2
            go_ret3
            rw [HA.out]
            exact ⟨rfl, _, (by first | rfl | exact World.drewN_drewN _ _ _)⟩
          · have hd : ((X : Int) == 0) = false := by simp; omega
            have hn2 : Hid (∀ s, s < (a - 1) * 31 + (b + 1) → mtt m l s ≠ 0) := by
              intro s hs
              by_cases e2 : s = (a - 1) * 31 + b
              · rw [e2, HX.out]; exact e
              · exact hn.out s (by omega)
            clear e hn
            go_wp2_with fail
            refine HC.out.mono ?_
            rintro e w1 ⟨rfl, n1, rfl⟩
            go_wp2
            go_roundw
            case rel => exact ⟨b + 1, _, by omega, by go_num, hn2, (by first | rfl | exact World.drewN_drewN _ _ _)⟩
            case measure => simp [intOf]; omega
        · obtain rfl : b = 31 := by omega
          go_wp2
          go_roundw
          case rel => exact ⟨a + 1, _, by omega, by omega, by go_num, by rw [show (a + 1 - 1) * 31 = (a - 1) * 31 + 31 by omega]; exact hn, rfl⟩
          case measure => simp [intOf]; omega
    · obtain rfl : a = 31 := by omega
      have hap : ap m l = none := ap_none (fun s hs => hn.out s (by omega))
      have hA : apV m l = .tuple #[.int .i64 0, .int .i64 0, .bool false] := by unfold apV; rw [hap]; rfl
      have HA := Lib.hid hA
      clear hap hA
      go_wp2
      go_ret3
      rw [HA.out]
      exact ⟨rfl, _, rfl⟩

def APv (m : Int) (l : List Int) : Value := .tuple #[.int .i64 (AP m l).1, .int .i64 (AP m l).2.1, .bool (AP m l).2.2]
theorem APv_yes {m : Int} {l : List Int} (h1 : SZ m = true) (h2 : VK l = true) : APv m l = apV m l := by
  unfold APv apV AP; rw [if_pos ⟨h1, h2⟩]
theorem APv_no {m : Int} {l : List Int} (h : ¬ (SZ m = true ∧ VK l = true)) : APv m l = .tuple #[.int .i64 0, .int .i64 0, .bool false] := by
  unfold APv AP; rw [if_neg h]

set_option maxHeartbeats 2000000 in
theorem specLeastApart_any (al : Option Addr) (l : List Int) (cap : Nat) (w : World) (hr : Reads w al l) (_hi : ∀ n ∈ l, In64 n) (hl : l.length ≤ 1048586) (hcap : l.length ≤ cap) :
    Calls Tryz.prog 83 #[.slice al l.length cap] w fun e w' => e = .returned (.int .i64 (LA l)) ∧ Below w.heap.size w w' := by
  have hc := specvalidKeys_any al l cap w hr hl hcap
  by_cases g2 : VK l = true
  · obtain ⟨i0, hi0, h1, h2, h3⟩ := la_spec g2
    have hLA : LA l = (i0 : Int) + 1 := by unfold LA; rw [if_pos g2, h1]
    have HLA := Lib.hid hLA
    have H2 := Lib.hid h2
    have H3 := Lib.hid h3
    rw [g2] at hc
    clear hLA h1 h2 h3
    go_enter Tryz.func83, Tryz.ntmps83
    go_wp2_with fail
    refine hc.mono ?_
    rintro e w1 ⟨rfl, n, rfl⟩
    go_wp2
    go_loopw [3] (fun i wr => ∃ k n : Nat, k ≤ i0 ∧ i = .int .i64 ((k : Int) + 1) ∧ wr = w.drewN n) (fun i _ => i0 + 1 - (intOf i).toNat)
    case atStart => exact ⟨0, n, by omega, by go_num, rfl⟩
    case round =>
      obtain ⟨k, n, hk, rfl, rfl⟩ := hrel
      have hc2 := apart_any ((k : Int) + 1) al l cap (w.drewN n) (hr.below below_q) (by omega) (by omega) g2
      by_cases e : k = i0
      · subst e
        cases ha : ap ((k : Int) + 1) l with
        | none => have := H2.out; rw [ha] at this; simp at this
        | some t =>
          unfold apV at hc2
          rw [ha] at hc2
          simp only [apR] at hc2
          clear ha
          go_wp2_with fail
          refine hc2.mono ?_
          rintro e w1 ⟨rfl, n1, rfl⟩
          go_wp2
          go_ret
          exact ⟨ret_int HLA.out.symm, below_q⟩
      · have ha := H3.out k (by omega)
        unfold apV at hc2
        rw [ha] at hc2
        simp only [apR] at hc2
        clear ha
        go_wp2_with fail
        refine hc2.mono ?_
        rintro e w1 ⟨rfl, n1, rfl⟩
        go_wp2
        go_roundw
        case rel => exact ⟨k + 1, _, by omega, by go_num, (by first | rfl | exact World.drewN_drewN _ _ _)⟩
        case measure => simp [intOf]; omega
  · have g2' : VK l = false := by simpa using g2
    rw [g2'] at hc
    go_enter Tryz.func83, Tryz.ntmps83
    go_wp2_with fail
    refine hc.mono ?_
    rintro e w1 ⟨rfl, n, rfl⟩
    go_wp2
    go_ret
    refine ⟨ret_int ?_, below_q⟩
    unfold LA; rw [if_neg g2]

theorem mt100 {a b m : Int} {l : List Int} (h : VK l = true) : mt a b m l ≤ 100 := by
  unfold mt
  exact pr_le100 (by rw [List.length_map]; exact (VK_iff.1 h).1)

/-- The best so far. -/
def bst (f : Nat → Nat) : Nat → Int
  | 0 => -1
  | t + 1 => (mn f t : Int)
theorem bst_take {f : Nat → Nat} {t : Nat} (h : bst f t < 0 ∨ (f t : Int) < bst f t) : bst f (t + 1) = f t := by
  cases t with
  | zero => rfl
  | succ t =>
    simp only [bst] at h ⊢
    rw [mn, if_pos (by omega)]
theorem bst_keep {f : Nat → Nat} {t : Nat} (h : ¬ (bst f t < 0) ∧ ¬ (f t : Int) < bst f t) : bst f (t + 1) = bst f t := by
  cases t with
  | zero => simp [bst] at h
  | succ t =>
    simp only [bst] at h ⊢
    rw [mn, if_neg (by omega)]
theorem lvl_le {l : List Int} (h : VK l = true) (t : Nat) : lvl l t ≤ 216 := by
  have := (VK_iff.1 h).1
  have h2 := mt100 (a := fA t) (b := fB t) (m := l.length) h
  unfold lvl mtt; omega
theorem bst_range {l : List Int} (h : VK l = true) (t : Nat) : -1 ≤ bst (lvl l) t ∧ bst (lvl l) t ≤ 216 := by
  cases t with
  | zero => simp [bst]
  | succ t =>
    simp only [bst]
    obtain ⟨i, _, hi⟩ := mn_mem (lvl l) t
    have := lvl_le h i
    omega

end Go.Proofs.YtoaiaindcmihjaaGreatDoor
/-
  spec.answer, RunDesk.
-/
namespace Go.Proofs.YtoaiaindcmihjaaGreatDoor
open Go.RowKit

theorem rls_in64 (s : List UInt8) : ∀ x ∈ rls s, In64 x := fun x hx => by
  unfold rls at hx
  obtain ⟨p, _, rfl⟩ := List.mem_map.1 hx
  have := rnm_le p
  unfold In64; omega
theorem rls_len (s : List UInt8) : (rls s).length ≤ s.length + 1 := by
  unfold rls pcs
  rw [List.length_map, List.length_append, List.length_singleton]
  have := cut_len 44 s; omega
theorem ans_what {s : List UInt8} (h : (pcs 32 s).length ≠ 2) : ANS s = wWhat := by
  unfold ANS
  split
  · rename_i a b e; rw [e] at h; simp at h
  · rfl
theorem ans_two {s a b : List UInt8} (h : pcs 32 s = [a, b]) : ANS s = an2 a (rls b) := by unfold ANS; rw [h]
set_option maxHeartbeats 16000000 in
set_option maxRecDepth 100000 in
theorem answer_any (s : List UInt8) (w : World) (hs : s.length ≤ 1048576) : Calls Tryz.prog 50 #[.string (B8 s)] w fun e w' => e = .returned (.string (B8 (ANS s))) ∧ Below w.heap.size w w' := by
  have cS := splitAt_any s 32 w (by omega)
  obtain ⟨A, hA⟩ : ∃ A, A = ANS s := ⟨_, rfl⟩
  obtain ⟨ps, hps⟩ : ∃ ps, ps = pcs 32 s := ⟨_, rfl⟩
  have hpl := fun p (h : p ∈ pcs 32 s) => pcs_lens h
  have hpll : (pcs 32 s).length ≤ s.length + 1 := by unfold pcs; rw [List.length_append, List.length_singleton]; have := cut_len 32 s; omega
  obtain ⟨S, hS⟩ : ∃ S, S = B8 s := ⟨_, rfl⟩
  rw [← hps] at cS hpl hpll
  rw [← hS] at cS ⊢
  rw [← hA]
  rw [show ((32 : UInt8).toNat : Int) = 32 from rfl] at cS
  have CS := Lib.hid cS
  have HA := Lib.hid hA
  have HPS := Lib.hid hps
  have HPL := Lib.hid hpl
  clear cS hA hps hpl hS
  by_cases h2 : ps.length = 2
  rotate_left
  · have hAw : A = wWhat := by rw [HA.out]; exact ans_what (by rw [← HPS.out]; exact h2)
    have hd : ((ps.length : Int) != 2) = true := by simp; omega
    subst hAw
    clear h2
    go_enter Tryz.func50, Tryz.ntmps50
    go_wp2_with fail
    refine CS.out.mono ?_
    rintro e w1 ⟨v1, rfl, o1, b1⟩
    obtain ⟨a1, c1, rfl, _, _, _⟩ := o1.form
    go_wp2
    go_ret
    exact ⟨rfl, b1⟩
  obtain ⟨a, b, rfl⟩ : ∃ a b, ps = [a, b] := by
    match ps, h2 with
    | [a, b], _ => exact ⟨a, b, rfl⟩
  have hAA : A = an2 a (rls b) := by rw [HA.out]; exact ans_two HPS.out.symm
  have hla := HPL.out a (by simp)
  have hlb := HPL.out b (by simp)
  have cR := fun wx => readList_any b wx (by omega)
  have hi64 := rls_in64 b
  have hll := rls_len b
  obtain ⟨l, hl⟩ : ∃ l, l = rls b := ⟨_, rfl⟩
  rw [← hl] at cR hi64 hll hAA
  have hl9 : l.length ≤ 1048586 := by omega
  have hta := B8_list a
  obtain ⟨Sb, hSb⟩ : ∃ S, S = B8 b := ⟨_, rfl⟩
  obtain ⟨Sa, hSa⟩ : ∃ S, S = B8 a := ⟨_, rfl⟩
  rw [← hSb] at cR
  rw [← hSa] at hta
  have CR := Lib.hid cR
  have HAA := Lib.hid hAA
  have HI := Lib.hid hi64
  have HSa := Lib.hid hSa
  have HSb := Lib.hid hSb
  clear cR hAA hi64 hll hl hSb hSa hla hlb h2 HA HPL HPS hpll
  go_enter Tryz.func50, Tryz.ntmps50
  go_wp2_with fail
  refine CS.out.mono ?_
  rintro e w1 ⟨v1, rfl, o1, b1⟩
  obtain ⟨a1, c1, rfl, r1, _, _⟩ := o1.form
  obtain ⟨gb, off, rfl, hgb, hc0⟩ := r1.get (k := 0) (by simp)
  obtain ⟨gb2, off2, e2, _, hc1⟩ := r1.get (k := 1) (by simp)
  injection e2 with e2
  injection e2 with e2 e3 _
  subst e2
  subst e3
  rw [Nat.add_zero] at hc0
  rw [show ([a, b] : List (List UInt8)).getD 0 [] = a from rfl, ← HSa.out] at hc0
  rw [show ([a, b] : List (List UInt8)).getD 1 [] = b from rfl, ← HSb.out] at hc1
  rw [show ([a, b] : List (List UInt8)).length = 2 from rfl]
  clear o1 r1 CS
  go_wp2_with fail
  refine (CR.out _).mono ?_
  rintro e w2 ⟨v2, rfl, o2, b2⟩
  have hc2 : w2.cell? ⟨gb, off, none⟩ = some (.string Sa) := (b2.cell (by exact hgb)).trans hc0
  obtain ⟨a2, c2, rfl, r2, hlc2, _, _⟩ := o2.form
  have B2 := b1.trans (b2.mono b1.size)
  clear hc0 hc1 b1 b2 o2 CR
  have vh := fun wx (h : Reads wx a2 l) => specvalidHomes_any 10 a2 l c2 wx h (by unfold In64; omega) hl9
  by_cases wL : a = wLinear
  · have ww := wL
    have bL : (a == ([108, 105, 110, 101, 97, 114] : List UInt8)) = true := by rw [ww]; rfl
    have bF : (a == ([102, 97, 105, 114] : List UInt8)) = false := by rw [ww]; rfl
    have bS : (a == ([115, 104, 97, 114, 101, 115] : List UInt8)) = false := by rw [ww]; rfl
    have bA : (a == ([97, 112, 97, 114, 116] : List UInt8)) = false := by rw [ww]; rfl
    have bT : (a == ([116, 114, 101, 101] : List UInt8)) = false := by rw [ww]; rfl
    have hAv := HAA.out
    unfold an2 at hAv
    rw [if_pos ww] at hAv
    cases hv : VH 10 l with
    | false =>
      rw [hv] at hAv
      obtain rfl : A = wWrong := by rw [hAv]; rfl
      have c0 := vh w2 r2
      rw [hv] at c0
      have C0 := Lib.hid c0
      clear c0 hAv ww wL HAA hv vh
      go_wp2_with fail
      refine C0.out.mono ?_
      rintro e w' ⟨rfl, rfl⟩
      go_wp2
      go_ret
      exact ⟨rfl, B2⟩
    | true =>
      rw [hv, if_pos rfl] at hAv
      have c0 := vh w2 r2
      rw [hv] at c0
      have C0 := Lib.hid c0
      clear c0
      have hh := VH_homes hv
      have c1 : Calls Tryz.prog 79 #[.int .i64 10, .slice a2 l.length c2] w2 fun e w' => ∃ v, e = .returned (.tuple #[v, .int .i64 (lin 10 l l.length).2]) ∧ Own w' w2.heap.size v (lin 10 l l.length).1 ∧ Below w2.heap.size w2 w' := linear_any 10 a2 l c2 w2 r2 hh
      have hk := keys_lt (lin_keys 10 l l.length) (by have := hh.len; omega)
      have hkl := lin_len 10 l l.length
      obtain ⟨R, hR⟩ : ∃ R, R = (lin 10 l l.length).1 := ⟨_, rfl⟩
      obtain ⟨Z, hZ⟩ : ∃ Z, Z = (lin 10 l l.length).2 := ⟨_, rfl⟩
      rw [← hR] at c1 hk hkl hAv
      rw [← hZ] at c1
      have C1 := Lib.hid c1
      have HK := Lib.hid hk
      have HAV := Lib.hid hAv
      have HKL := Lib.hid hkl
      clear c1 hk hkl hR hZ hh hv ww wL vh hAv HAA
      go_wp2_with fail
      refine C0.out.mono ?_
      rintro e w' ⟨rfl, rfl⟩
      go_wp2_with fail
      refine C1.out.mono ?_
      rintro e w3 ⟨v3, rfl, o3, b3⟩
      obtain ⟨a3, c3, rfl, r3, _, _, _⟩ := o3.form
      have B3 := B2.trans (b3.mono B2.size)
      have ct := listText_any a3 R c3 w3 r3 (by have := HKL.out; omega) HK.out
      rw [← HAV.out] at ct
      have CT := Lib.hid ct
      clear o3 ct C1 C0
      go_wp2_with fail
      refine CT.out.mono ?_
      rintro e w' ⟨rfl, rfl⟩
      go_wp2
      go_ret
      exact ⟨rfl, B3⟩
  by_cases wF : a = wFair
  · have ww := wF
    have bL : (a == ([108, 105, 110, 101, 97, 114] : List UInt8)) = false := by rw [ww]; rfl
    have bF : (a == ([102, 97, 105, 114] : List UInt8)) = true := by rw [ww]; rfl
    have bS : (a == ([115, 104, 97, 114, 101, 115] : List UInt8)) = false := by rw [ww]; rfl
    have bA : (a == ([97, 112, 97, 114, 116] : List UInt8)) = false := by rw [ww]; rfl
    have bT : (a == ([116, 114, 101, 101] : List UInt8)) = false := by rw [ww]; rfl
    have hAv := HAA.out
    unfold an2 at hAv
    rw [if_neg (by rw [ww]; decide), if_pos ww] at hAv
    cases hv : VH 10 l with
    | false =>
      rw [hv] at hAv
      obtain rfl : A = wWrong := by rw [hAv]; rfl
      have c0 := vh w2 r2
      rw [hv] at c0
      have C0 := Lib.hid c0
      clear c0 hAv ww wF HAA hv vh
      go_wp2_with fail
      refine C0.out.mono ?_
      rintro e w' ⟨rfl, rfl⟩
      go_wp2
      go_ret
      exact ⟨rfl, B2⟩
    | true =>
      rw [hv, if_pos rfl] at hAv
      have c0 := vh w2 r2
      rw [hv] at c0
      have C0 := Lib.hid c0
      clear c0
      have hh := VH_homes hv
      have c1 : Calls Tryz.prog 78 #[.int .i64 10, .slice a2 l.length c2] w2 fun e w' => ∃ v, e = .returned v ∧ Own w' w2.heap.size v (rob 10 l l.length) ∧ Below w2.heap.size w2 w' := robin_any 10 a2 l c2 w2 r2 hh
      have hri := rob_inv hh l.length (Nat.le_refl _)
      have hk := keys_lt hri.2.1 (by have := hh.len; omega)
      have hkl := hri.1
      obtain ⟨R, hR⟩ : ∃ R, R = rob 10 l l.length := ⟨_, rfl⟩
      rw [← hR] at c1 hk hkl hAv
      have C1 := Lib.hid c1
      have HK := Lib.hid hk
      have HAV := Lib.hid hAv
      have HKL := Lib.hid hkl
      clear c1 hk hkl hR hh hv ww wF vh hAv HAA hri
      go_wp2_with fail
      refine C0.out.mono ?_
      rintro e w' ⟨rfl, rfl⟩
      go_wp2_with fail
      refine C1.out.mono ?_
      rintro e w3 ⟨v3, rfl, o3, b3⟩
      obtain ⟨a3, c3, rfl, r3, _, _, _⟩ := o3.form
      have B3 := B2.trans (b3.mono B2.size)
      have ct := listText_any a3 R c3 w3 r3 (by have := HKL.out; omega) HK.out
      rw [← HAV.out] at ct
      have CT := Lib.hid ct
      clear o3 ct C1 C0
      go_wp2_with fail
      refine CT.out.mono ?_
      rintro e w' ⟨rfl, rfl⟩
      go_wp2
      go_ret
      exact ⟨rfl, B3⟩
  by_cases wS : a = wShares
  · have ww := wS
    have bL : (a == ([108, 105, 110, 101, 97, 114] : List UInt8)) = false := by rw [ww]; rfl
    have bF : (a == ([102, 97, 105, 114] : List UInt8)) = false := by rw [ww]; rfl
    have bS : (a == ([115, 104, 97, 114, 101, 115] : List UInt8)) = true := by rw [ww]; rfl
    have bA : (a == ([97, 112, 97, 114, 116] : List UInt8)) = false := by rw [ww]; rfl
    have bT : (a == ([116, 114, 101, 101] : List UInt8)) = false := by rw [ww]; rfl
    have hAv := HAA.out
    unfold an2 at hAv
    rw [if_neg (by rw [ww]; decide), if_neg (by rw [ww]; decide), if_pos ww] at hAv
    cases hv : VR l with
    | false =>
      rw [hv] at hAv
      obtain rfl : A = wWrong := by rw [hAv]; rfl
      have c0 := specvalidRing_any a2 l c2 w2 r2 hl9 hlc2
      rw [hv] at c0
      have C0 := Lib.hid c0
      clear c0 hAv ww wS HAA hv vh
      go_wp2_with fail
      refine C0.out.mono ?_
      rintro e w' ⟨rfl, n, rfl⟩
      go_wp2
      go_ret
      exact ⟨rfl, Go.below_drewN B2 n⟩
    | true =>
      rw [hv, if_pos rfl] at hAv
      have c0 := specvalidRing_any a2 l c2 w2 r2 hl9 hlc2
      rw [hv] at c0
      have C0 := Lib.hid c0
      clear c0
      have hsl := SH_lt hv
      have c1 := fun wx (h : Reads wx a2 l) => specSharesOf_any a2 l c2 wx h HI.out hl9 hlc2
      obtain ⟨R, hR⟩ : ∃ R, R = SH l := ⟨_, rfl⟩
      rw [← hR] at c1 hsl hAv
      have C1 := Lib.hid c1
      have HK := Lib.hid hsl
      have HAV := Lib.hid hAv
      clear c1 hsl hR hv ww wS vh hAv HAA
      go_wp2_with fail
      refine C0.out.mono ?_
      rintro e w' ⟨rfl, n, rfl⟩
      have r2b := r2.below (Go.below_drewN (Below.refl _ _) n)
      have B2b := Go.below_drewN B2 n
      clear r2 B2
      go_wp2_with fail
      refine (C1.out _ r2b).mono ?_
      rintro e w3 ⟨v3, rfl, o3, b3⟩
      obtain ⟨a3, c3, rfl, r3, _, _, _⟩ := o3.form
      have B3 := B2b.trans (b3.mono B2b.size)
      have ct := listText_any a3 R c3 w3 r3 (by have := HK.out.1; omega) HK.out.2
      rw [← HAV.out] at ct
      have CT := Lib.hid ct
      clear o3 ct C1 C0
      go_wp2_with fail
      refine CT.out.mono ?_
      rintro e w' ⟨rfl, rfl⟩
      go_wp2
      go_ret
      exact ⟨rfl, B3⟩
  by_cases wA : a = wApart
  · have ww := wA
    have bL : (a == ([108, 105, 110, 101, 97, 114] : List UInt8)) = false := by rw [ww]; rfl
    have bF : (a == ([102, 97, 105, 114] : List UInt8)) = false := by rw [ww]; rfl
    have bS : (a == ([115, 104, 97, 114, 101, 115] : List UInt8)) = false := by rw [ww]; rfl
    have bA : (a == ([97, 112, 97, 114, 116] : List UInt8)) = true := by rw [ww]; rfl
    have bT : (a == ([116, 114, 101, 101] : List UInt8)) = false := by rw [ww]; rfl
    have hAv := HAA.out
    unfold an2 at hAv
    rw [if_neg (by rw [ww]; decide), if_neg (by rw [ww]; decide), if_neg (by rw [ww]; decide), if_pos ww] at hAv
    cases hv : VK l with
    | false =>
      rw [hv] at hAv
      obtain rfl : A = wWrong := by rw [hAv]; rfl
      have c0 := specvalidKeys_any a2 l c2 w2 r2 hl9 hlc2
      rw [hv] at c0
      have C0 := Lib.hid c0
      clear c0 hAv ww wA HAA hv vh
      go_wp2_with fail
      refine C0.out.mono ?_
      rintro e w' ⟨rfl, n, rfl⟩
      go_wp2
      go_ret
      exact ⟨rfl, Go.below_drewN B2 n⟩
    | true =>
      rw [hv, if_pos rfl] at hAv
      have c0 := specvalidKeys_any a2 l c2 w2 r2 hl9 hlc2
      rw [hv] at c0
      have C0 := Lib.hid c0
      clear c0
      have hla := LA_facts hv
      have c1 := fun wx (h : Reads wx a2 l) => specLeastApart_any a2 l c2 wx h HI.out hl9 hlc2
      obtain ⟨q, hq⟩ : ∃ q : Nat, LA l = q := ⟨(LA l).toNat, by omega⟩
      rw [hq] at c1 hla
      rw [hq, Int.toNat_natCast] at hAv
      have ct := fun wx => number_any q wx (by omega)
      rw [← hAv] at ct
      have C1 := Lib.hid c1
      have CT := Lib.hid ct
      clear c1 hla hq hv ww wA vh hAv HAA ct
      go_wp2_with fail
      refine C0.out.mono ?_
      rintro e w' ⟨rfl, n, rfl⟩
      have r2b := r2.below (Go.below_drewN (Below.refl _ _) n)
      have B2b := Go.below_drewN B2 n
      clear r2 B2
      go_wp2_with fail
      refine (C1.out _ r2b).mono ?_
      rintro e w3 ⟨rfl, b3⟩
      have B3 := B2b.trans (b3.mono B2b.size)
      clear C1 C0
      go_wp2_with fail
      refine (CT.out _).mono ?_
      rintro e w' ⟨rfl, rfl⟩
      go_wp2
      go_ret
      exact ⟨rfl, B3⟩
  by_cases wT : a = wTree
  · have ww := wT
    have bL : (a == ([108, 105, 110, 101, 97, 114] : List UInt8)) = false := by rw [ww]; rfl
    have bF : (a == ([102, 97, 105, 114] : List UInt8)) = false := by rw [ww]; rfl
    have bS : (a == ([115, 104, 97, 114, 101, 115] : List UInt8)) = false := by rw [ww]; rfl
    have bA : (a == ([97, 112, 97, 114, 116] : List UInt8)) = false := by rw [ww]; rfl
    have bT : (a == ([116, 114, 101, 101] : List UInt8)) = true := by rw [ww]; rfl
    have hAv := HAA.out
    unfold an2 at hAv
    rw [if_neg (by rw [ww]; decide), if_neg (by rw [ww]; decide), if_neg (by rw [ww]; decide), if_neg (by rw [ww]; decide), if_pos ww] at hAv
    cases hv : VNm l with
    | false =>
      rw [hv] at hAv
      obtain rfl : A = wWrong := by rw [hAv]; rfl
      have c0 := specvalidNames_any a2 l c2 w2 r2 hl9 hlc2
      rw [hv] at c0
      have C0 := Lib.hid c0
      clear c0 hAv ww wT HAA hv vh
      go_wp2_with fail
      refine C0.out.mono ?_
      rintro e w' ⟨rfl, n, rfl⟩
      go_wp2
      go_ret
      exact ⟨rfl, Go.below_drewN B2 n⟩
    | true =>
      rw [hv, if_pos rfl] at hAv
      have c0 := specvalidNames_any a2 l c2 w2 r2 hl9 hlc2
      rw [hv] at c0
      have C0 := Lib.hid c0
      clear c0
      have ct := trie_any a2 l c2 hv 6 0 0 rfl (by simp)
      rw [← hAv, Int.natCast_zero] at ct
      have CT := Lib.hid ct
      clear hv ww wT vh hAv HAA ct
      go_wp2_with fail
      refine C0.out.mono ?_
      rintro e w' ⟨rfl, n, rfl⟩
      have r2b := r2.below (Go.below_drewN (Below.refl _ _) n)
      have B2b := Go.below_drewN B2 n
      clear r2 B2 C0
      go_wp2_with fail
      refine (CT.out _ r2b).mono ?_
      rintro e w3 ⟨rfl, b3⟩
      have B3 := B2b.trans (b3.mono B2b.size)
      go_wp2
      go_ret
      exact ⟨rfl, B3⟩
  have bL : (a == ([108, 105, 110, 101, 97, 114] : List UInt8)) = false := by rw [beq_eq_false_iff_ne]; exact wL
  have bF : (a == ([102, 97, 105, 114] : List UInt8)) = false := by rw [beq_eq_false_iff_ne]; exact wF
  have bS : (a == ([115, 104, 97, 114, 101, 115] : List UInt8)) = false := by rw [beq_eq_false_iff_ne]; exact wS
  have bA : (a == ([97, 112, 97, 114, 116] : List UInt8)) = false := by rw [beq_eq_false_iff_ne]; exact wA
  have bT : (a == ([116, 114, 101, 101] : List UInt8)) = false := by rw [beq_eq_false_iff_ne]; exact wT
  obtain rfl : A = wWhat := by
    rw [HAA.out]; unfold an2
    rw [if_neg wL, if_neg wF, if_neg wS, if_neg wA, if_neg wT]
  clear wL wF wS wA wT HAA vh
  go_wp2
  go_ret
  exact ⟨rfl, B2⟩
end Go.Proofs.YtoaiaindcmihjaaGreatDoor
/-
  spec.RunDesk.
-/
namespace Go.Proofs.YtoaiaindcmihjaaGreatDoor
open Go.RowKit

theorem an2_len (a : List UInt8) (l : List Int) : (an2 a l).length ≤ 1000 := by
  have hw : wWrong.length ≤ 1000 := by decide
  have hh : wWhat.length ≤ 1000 := by decide
  unfold an2
  by_cases h1 : a = wLinear
  · rw [if_pos h1]
    by_cases hv : VH 10 l = true
    · rw [if_pos hv]
      have h := VH_homes hv
      have := ltx_len _ (keys_lt (lin_keys 10 l l.length) (by have := h.len; omega))
      rw [lin_len] at this; omega
    · rw [if_neg hv]; exact hw
  rw [if_neg h1]
  by_cases h2 : a = wFair
  · rw [if_pos h2]
    by_cases hv : VH 10 l = true
    · rw [if_pos hv]
      have h := VH_homes hv
      have hri := rob_inv h l.length (Nat.le_refl _)
      have := ltx_len _ (keys_lt hri.2.1 (by have := h.len; omega))
      rw [hri.1] at this; omega
    · rw [if_neg hv]; exact hw
  rw [if_neg h2]
  by_cases h3 : a = wShares
  · rw [if_pos h3]
    by_cases hv : VR l = true
    · rw [if_pos hv]
      have h := SH_lt hv
      have := ltx_len _ h.2
      omega
    · rw [if_neg hv]; exact hw
  rw [if_neg h3]
  by_cases h4 : a = wApart
  · rw [if_pos h4]
    by_cases hv : VK l = true
    · rw [if_pos hv]
      have h := LA_facts hv
      have := dec_short (n := (LA l).toNat) (by omega)
      omega
    · rw [if_neg hv]; exact hw
  rw [if_neg h4]
  by_cases h5 : a = wTree
  · rw [if_pos h5]
    by_cases hv : VNm l = true
    · rw [if_pos hv]
      have := ttr_len' hv (f := 6) (d := 0) (e := 0) rfl (by simp)
      omega
    · rw [if_neg hv]; exact hw
  rw [if_neg h5]
  exact hh
theorem ANS_len (s : List UInt8) : (ANS s).length ≤ 1000 := by
  unfold ANS
  split
  · exact an2_len _ _
  · decide
/-- The answers to the first lines. -/
def rdk (ls : List (List UInt8)) : List UInt8 := ls.flatMap (fun s => ANS s ++ [10])
theorem rdk_take {ls : List (List UInt8)} {i : Nat} (h : i < ls.length) : rdk (ls.take (i + 1)) = rdk (ls.take i) ++ ANS (ls.getD i []) ++ [10] := by
  unfold rdk
  rw [List.take_succ_eq_append_getElem h, List.flatMap_append]
  simp [List.getD, h]
theorem rdk_len (ls : List (List UInt8)) : (rdk ls).length ≤ 1001 * ls.length := by
  induction ls with
  | nil => simp [rdk]
  | cons s ls ih =>
    have := ANS_len s
    unfold rdk at ih ⊢
    rw [List.flatMap_cons, List.length_append, List.length_append, List.length_singleton, List.length_cons]
    omega
theorem RDk_rdk {ls : List (List UInt8)} (h : ls.length ≤ 20) : RDk ls = rdk ls := by unfold RDk; rw [if_pos h]; rfl
theorem RDk_len (ls : List (List UInt8)) : (RDk ls).length ≤ 20020 := by
  by_cases h : ls.length ≤ 20
  · rw [RDk_rdk h]; have := rdk_len ls; omega
  · unfold RDk; rw [if_neg h]; simp
set_option maxHeartbeats 8000000 in
set_option maxRecDepth 100000 in
theorem specRunDesk_any (a : Option Addr) (ls : List (List UInt8)) (cap : Nat) (w : World) (hr : ReadsX w a ls) (hl : ls.length ≤ 1048586) (hs : ∀ s ∈ ls, s.length ≤ 1048576) : Calls Tryz.prog 20 #[.slice a ls.length cap] w fun e w' => e = .returned (.string (B8 (RDk ls))) ∧ Below w.heap.size w w' := by
  obtain ⟨M, hM⟩ : ∃ M, M = ls.length := ⟨_, rfl⟩
  obtain ⟨R, hR⟩ : ∃ R, R = RDk ls := ⟨_, rfl⟩
  have HM := Lib.hid hM
  have HR := Lib.hid hR
  have HS := Lib.hid hs
  rw [← hR]
  rw [← hM] at hl ⊢
  clear hM hR hs
  by_cases h20 : M ≤ 20
  rotate_left
  · have hRn : R = [] := by rw [HR.out]; unfold RDk; rw [if_neg (by rw [← HM.out]; exact h20)]
    subst hRn
    have h1 : (M : Int) > 20 := by omega
    go_enter Tryz.func20, Tryz.ntmps20
    go_wp2
    go_ret
    exact ⟨rfl, Below.refl _ _⟩
  have h1 : ¬ (M : Int) > 20 := by omega
  have hR2 : R = rdk ls := by rw [HR.out]; exact RDk_rdk (by rw [← HM.out]; exact h20)
  have HR2 := Lib.hid hR2
  have Bw := Below.refl w.heap.size w
  clear hR2 HR
  go_enter Tryz.func20, Tryz.ntmps20
  go_wp2
  go_loopw [3, 4] (fun ov iv wr => ∃ (i : Nat) (T : List UInt8), i ≤ M ∧ iv = .int .i64 (i : Int) ∧ ov = .string (B8 T) ∧ Hid (T = rdk (ls.take i)) ∧ T.length ≤ 1001 * i ∧ Below w.heap.size w wr) (fun _ iv _ => M - (intOf iv).toNat)
  case atStart => exact ⟨0, [], by omega, rfl, rfl, rfl, by simp, Bw⟩
  case round =>
    clear Bw
    rename World => wo
    obtain ⟨i, T, hi, rfl, rfl, hT, hTl, hB⟩ := hrel
    by_cases hlt : i < M
    · have hi1 : (i : Int) < (M : Int) := by omega
      have hil : i < ls.length := by have := HM.out; omega
      obtain ⟨b, off, rfl, hb, hc⟩ := (hr.below hB).get hil
      have hsl := HS.out (ls.getD i []) (by simp [List.getD, hil])
      have hst := rdk_take hil
      obtain ⟨s, hs⟩ : ∃ s, s = ls.getD i [] := ⟨_, rfl⟩
      rw [← hs] at hc hsl hst
      have ca := answer_any s wo hsl
      have hal := ANS_len s
      obtain ⟨A, hA⟩ : ∃ A, A = ANS s := ⟨_, rfl⟩
      rw [← hA] at ca hal hst
      rw [← hT.out] at hst
      obtain ⟨S, hS⟩ : ∃ S, S = B8 s := ⟨_, rfl⟩
      rw [← hS] at ca hc
      have CA := Lib.hid ca
      have HST : Hid (T ++ A ++ [10] = rdk (ls.take (i + 1))) := hst.symm
      have HLL : (T ++ A ++ [10]).length ≤ 1001 * (i + 1) := by simp only [List.length_append, List.length_singleton]; omega
      clear hst hs hA hS ca hsl hil
      go_wp2_with fail
      refine CA.out.mono ?_
      rintro e w2 ⟨rfl, b2⟩
      have hB2 := hB.trans (b2.mono hB.size)
      clear b2 hB CA hc
      go_wp2
      go_roundw
      case rel => exact ⟨i + 1, T ++ A ++ [10], by omega, by go_num, by rw [← B8_app, ← B8_app], HST, HLL, hB2⟩
      case measure => simp [intOf]; omega
    · obtain rfl : i = M := by omega
      have hf : T = R := by rw [hT.out, HR2.out, HM.out, List.take_length]
      subst hf
      go_wp2
      go_ret
      exact ⟨rfl, hB⟩
end Go.Proofs.YtoaiaindcmihjaaGreatDoor
/-
  Texts cut into the runs of digits: what strings.FieldsFunc gives of a text, and of the text of a tree.
-/
namespace Go.Proofs.YtoaiaindcmihjaaGreatDoor

/-- No digit. -/
def isN (r : Nat) : Bool := decide (r < 48) || decide (57 < r)
theorem isN_isD (x : UInt8) : isN x.toNat = !isD x := by
  unfold isN isD
  by_cases h : 48 ≤ x.toNat ∧ x.toNat ≤ 57
  · rw [decide_eq_true h, decide_eq_false (by omega), decide_eq_false (by omega)]; rfl
  · rw [decide_eq_false h]
    by_cases h1 : x.toNat < 48
    · rw [decide_eq_true h1]; rfl
    · rw [decide_eq_false h1, decide_eq_true (by omega)]; rfl
/-- The runs of digits; the first one may have begun. -/
def frun : List UInt8 → Option (List UInt8) → List (List UInt8)
  | [], st => st.toList
  | x :: t, st => if isD x = true then frun t (some (st.getD [] ++ [x])) else st.toList ++ frun t none
theorem frun_nod {s : List UInt8} (h : nod s) (p : List UInt8) : frun s (some p) = p :: frun s none := by
  cases s with
  | nil => rfl
  | cons c t => rw [frun, frun, h c t rfl]; simp
theorem frun_app : ∀ (p s : List UInt8) (q : List UInt8), (∀ c ∈ p, isD c = true) → frun (p ++ s) (some q) = frun s (some (q ++ p)) := by
  intro p
  induction p with
  | nil => intro s q _; simp
  | cons c p ih =>
    intro s q h
    rw [List.cons_append, frun, if_pos (h c (by simp)), ih _ _ (fun x hx => h x (List.mem_cons_of_mem _ hx))]
    simp
theorem dec_isD : ∀ (n : Nat), ∀ c ∈ dec n, isD c = true := by
  intro n
  induction n using Nat.strongRecOn with
  | ind n ih =>
    intro c hc
    by_cases h : n < 10
    · rw [dec_lt h, List.mem_singleton] at hc
      rw [hc]; exact isD_dgt h
    · rw [dec_ge h, List.mem_append, List.mem_singleton] at hc
      rcases hc with hc | hc
      · exact ih (n / 10) (by omega) c hc
      · rw [hc]; exact isD_dgt (by omega)
theorem frun_dec (n : Nat) {s : List UInt8} (h : nod s) : frun (dec n ++ s) none = dec n :: frun s none := by
  obtain ⟨m, t, h1, h2⟩ := dec_head n
  have hd := dec_isD n
  rw [h2] at hd ⊢
  rw [List.cons_append, frun, if_pos (hd _ (by simp)), frun_app t s _ (fun c hc => hd c (by simp [hc])), frun_nod h]
  simp
theorem frun_sep {c : UInt8} (h : isD c = false) (s : List UInt8) : frun (c :: s) none = frun s none := by
  rw [frun, h]; simp
/-- The runs of digits of the text of a tree are its names. -/
theorem frun_ttr {l : List Int} (hn : l.Nodup) (hr : ∀ x ∈ l, 0 ≤ x ∧ x ≤ 63) : ∀ f d e s, f + d = 6 → e < 2 ^ d → nod s → frun (ttr l f d e ++ s) none = (lvs l f d e).map (fun x => dec x.toNat) ++ frun s none := by
  have one : ∀ f d e s, (tfl l d e).length ≤ 1 → nod s → frun (ttr l f d e ++ s) none = (tfl l d e).map (fun x => dec x.toNat) ++ frun s none := by
    intro f d e s h hs
    rcases tfl_cases l d e with h0 | ⟨x, h1⟩ | h2
    · rw [ttr_none h0, h0, List.singleton_append, frun_sep (by decide)]; rfl
    · rw [ttr_one h1, h1, frun_dec _ hs]; rfl
    · omega
  intro f
  induction f with
  | zero =>
    intro d e s hf he hs
    obtain rfl : d = 6 := by omega
    exact one 0 6 e s (tfl_six hn hr e) hs
  | succ f ih =>
    intro d e s hf he hs
    have hp : 2 ^ (d + 1) = 2 * 2 ^ d := by rw [Nat.pow_succ]; omega
    by_cases h : (tfl l d e).length ≤ 1
    · rw [lvs, if_pos h]; exact one (f + 1) d e s h hs
    · rw [lvs, if_neg h, ttr_more (by omega)]
      have e1 : [40] ++ ttr l f (d + 1) e ++ [32] ++ ttr l f (d + 1) (e + 2 ^ d) ++ [41] ++ s = 40 :: (ttr l f (d + 1) e ++ 32 :: (ttr l f (d + 1) (e + 2 ^ d) ++ 41 :: s)) := by simp
      rw [e1, frun_sep (by decide), ih (d + 1) e _ (by omega) (by omega) (nod_cons (by decide)), frun_sep (by decide), ih (d + 1) (e + 2 ^ d) _ (by omega) (by omega) (nod_cons (by decide)), frun_sep (by decide)]
      simp
theorem ttr_ascii (l : List Int) : ∀ f d e, ∀ c ∈ ttr l f d e, c.toNat < 128 := by
  have dg : ∀ n, ∀ c ∈ dec n, c.toNat < 128 := fun n c hc => by
    have := dec_isD n c hc
    unfold isD at this
    have := of_decide_eq_true this
    omega
  intro f
  induction f with
  | zero =>
    intro d e c hc
    rcases tfl_cases l d e with h0 | ⟨x, h1⟩ | h2
    · rw [ttr_none h0, List.mem_singleton] at hc; rw [hc]; decide
    · rw [ttr_one h1] at hc; exact dg _ c hc
    · cases hx : tfl l d e with
      | nil => rw [hx] at h2; simp at h2
      | cons x t =>
        rw [ttr, hx] at hc
        exact dg _ c hc
  | succ f ih =>
    intro d e c hc
    rcases tfl_cases l d e with h0 | ⟨x, h1⟩ | h2
    · rw [ttr_none h0, List.mem_singleton] at hc; rw [hc]; decide
    · rw [ttr_one h1] at hc; exact dg _ c hc
    · rw [ttr_more h2] at hc
      simp only [List.mem_append, List.mem_singleton] at hc
      rcases hc with (((hc | hc) | hc) | hc) | hc
      · rw [hc]; decide
      · exact ih _ _ c hc
      · rw [hc]; decide
      · exact ih _ _ c hc
      · rw [hc]; decide
/-- The fields, by the pass over the runes, of a text in ASCII. -/
theorem spans_ascii (s : List UInt8) (ha : ∀ c ∈ s, c.toNat < 128) : ∀ (f pos : Nat) (st : Option Nat) (acc : List (Nat × Nat)), s.length ≤ pos + f → pos ≤ s.length → (∀ a, st = some a → a ≤ pos) →
    (Go.Lib.closeSpans (B8 s) (Go.Lib.spansFromP isN (B8 s) f pos st acc)).map (fun p => (s.drop p.1).take (p.2 - p.1)) = acc.map (fun p => (s.drop p.1).take (p.2 - p.1)) ++ frun (s.drop pos) (st.map fun a => (s.drop a).take (pos - a)) := by
  have hsz : (B8 s).size = s.length := by show s.toArray.size = _; simp
  intro f
  induction f with
  | zero =>
    intro pos st acc h hp hst
    obtain rfl : pos = s.length := by omega
    rw [List.drop_length]
    cases st with
    | none => simp [Go.Lib.spansFromP, Go.Lib.closeSpans, frun]
    | some a => simp [Go.Lib.spansFromP, Go.Lib.closeSpans, frun, hsz]
  | succ f ih =>
    intro pos st acc h hp hst
    by_cases hlt : pos < s.length
    · have hx : s.drop pos = s[pos] :: s.drop (pos + 1) := (List.drop_eq_getElem_cons hlt)
      have hdc : Utf8.decode (B8 s) pos = (s[pos].toNat, 1) := by
        rw [← Go.Lib.decodeL_drop]
        show Go.Lib.decodeL (s.drop pos) = _
        rw [hx]
        rw [Go.Lib.decodeL_N]
        exact Go.Lib.decodeN_ascii _ _ _ _ _ (ha _ (List.getElem_mem hlt))
      simp only [Go.Lib.spansFromP]
      rw [if_pos (by rw [hsz]; exact hlt), hdc, isN_isD, hx, frun]
      have grow : ∀ a, a ≤ pos → (s.drop a).take (pos + 1 - a) = (s.drop a).take (pos - a) ++ [s[pos]] := fun a h => by
        rw [show pos + 1 - a = pos - a + 1 by omega, List.take_add_one]
        congr 1
        rw [List.getElem?_drop, show a + (pos - a) = pos by omega]
        simp [hlt]
      cases hd : isD s[pos] with
      | true =>
        simp only [Bool.not_true, Bool.false_eq_true, if_false, if_true]
        cases st with
        | none =>
          rw [ih (pos + 1) (some pos) acc (by omega) (by omega) (fun a h => by cases h; omega)]
          have := grow pos (Nat.le_refl _)
          simp only [Option.map_some, Option.map_none, Option.getD_none]
          rw [this]; simp
        | some a =>
          rw [ih (pos + 1) (some a) acc (by omega) (by omega) (fun b h => by cases h; have := hst a rfl; omega)]
          simp only [Option.map_some, Option.getD_some]
          rw [grow a (hst a rfl)]
      | false =>
        simp only [Bool.not_false, if_true, Bool.false_eq_true, if_false]
        cases st with
        | none =>
          rw [ih (pos + 1) none acc (by omega) (by omega) (fun a h => by cases h)]
          simp
        | some a =>
          rw [ih (pos + 1) none (acc ++ [(a, pos)]) (by omega) (by omega) (fun a h => by cases h)]
          simp
    · obtain rfl : pos = s.length := by omega
      rw [Go.Lib.spansFromP_end _ _ _ _ _ _ (by rw [hsz]; omega), List.drop_length]
      cases st with
      | none => simp [Go.Lib.closeSpans, frun]
      | some a => simp [Go.Lib.closeSpans, frun, hsz]
theorem fields_ascii (s : List UInt8) (ha : ∀ c ∈ s, c.toNat < 128) : Go.Lib.goFieldsP isN (B8 s) = (frun s none).map B8 := by
  have hsz : (B8 s).size = s.length := by show s.toArray.size = _; simp
  have h := spans_ascii s ha (B8 s).size 0 none [] (by rw [hsz]; omega) (by omega) (fun a h => by cases h)
  unfold Go.Lib.goFieldsP Go.Lib.spansOfP
  simp only [List.map_nil, List.nil_append, List.drop_zero, Option.map_none] at h
  rw [← h, List.map_map]
  refine List.map_congr_left fun p _ => ?_
  show (B8 s).extract p.1 p.2 = B8 ((s.drop p.1).take (p.2 - p.1))
  exact ByteArray.extract_mk s p.1 p.2
/-- The fields of the text of a tree. -/
theorem fields_TXT {l : List Int} (hv : VNm l = true) : Go.Lib.goFieldsP isN (B8 (TXT l)) = ((lvs l 6 0 0).map (fun x => dec x.toNat)).map B8 := by
  obtain ⟨h1, h2, h3⟩ := VNm_iff.1 hv
  have e : TXT l = ttr l 6 0 0 := by unfold TXT; rw [if_pos hv]
  rw [e, fields_ascii _ (ttr_ascii l 6 0 0)]
  have := frun_ttr h3 h2 6 0 0 [] rfl (by simp) nod_nil
  rw [List.append_nil] at this
  rw [this]
  simp [frun]
end Go.Proofs.YtoaiaindcmihjaaGreatDoor
