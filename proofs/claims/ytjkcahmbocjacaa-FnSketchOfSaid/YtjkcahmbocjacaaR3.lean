/-
  The plain mathematics of chapter 4: servers in the order of their places, and loads.
-/
import Derived.Test.YtjkcahmbocjacaaR2
namespace Go.Proofs.Ytjkcahmbocjacaa

theorem cnt_setN {T : List Nat} {i : Nat} (hi : i < T.length) (p : Nat → Bool) (x : Nat) : (T.set i x).countP p + (if p (T.getD i 0) = true then 1 else 0) = T.countP p + (if p x = true then 1 else 0) := by
  induction T generalizing i with
  | nil => simp at hi
  | cons y T ih =>
    cases i with
    | zero => simp only [List.set, List.countP_cons, List.getD_cons_zero]; omega
    | succ i =>
      have := ih (i := i) (by simpa using hi)
      simp only [List.set, List.countP_cons, List.getD_cons_succ]; omega
/-- Two neighbours change places. -/
def sw (R : List Nat) (j : Nat) : List Nat := (R.set (j + 1) (R.getD j 0)).set j (R.getD (j + 1) 0)
theorem sw_len (R : List Nat) (j : Nat) : (sw R j).length = R.length := by simp [sw]
theorem getD_setN (l : List Nat) (i j x : Nat) : (l.set i x).getD j 0 = if i = j ∧ j < l.length then x else l.getD j 0 := by
  simp only [List.getD, List.getElem?_set]
  by_cases e : i = j
  · subst e
    by_cases h : i < l.length <;> simp [h]
  · simp [e]
theorem sw_get {R : List Nat} {j : Nat} (hj : j + 1 < R.length) (a : Nat) : (sw R j).getD a 0 = if a = j then R.getD (j + 1) 0 else if a = j + 1 then R.getD j 0 else R.getD a 0 := by
  unfold sw
  rw [getD_setN, getD_setN, List.length_set]
  by_cases e : a = j
  · subst e; rw [if_pos ⟨rfl, by omega⟩, if_pos rfl]
  · rw [if_neg (by omega), if_neg e]
    by_cases e2 : a = j + 1
    · subst e2; rw [if_pos ⟨rfl, by omega⟩, if_pos rfl]
    · rw [if_neg (by omega), if_neg e2]
theorem sw_perm {R : List Nat} {j : Nat} (hj : j + 1 < R.length) : (sw R j).Perm R := by
  rw [List.perm_iff_count]
  intro x
  unfold sw
  have a := cnt_setN (T := R) (i := j + 1) hj (fun y => y == x) (R.getD j 0)
  have b := cnt_setN (T := R.set (j + 1) (R.getD j 0)) (i := j) (by rw [List.length_set]; omega) (fun y => y == x) (R.getD (j + 1) 0)
  have e2 : (R.set (j + 1) (R.getD j 0)).getD j 0 = R.getD j 0 := by
    have hn : ¬ (j + 1 = j ∧ j < R.length) := by omega
    rw [getD_setN, if_neg hn]
  rw [e2] at b
  simp only [List.count]
  omega
/-- All servers, those up to i in their order but for the one at j, which is on its way to the front. -/
def IS (f : Nat → Int) (n : Nat) (R : List Nat) (i j : Nat) : Prop := R.Perm (List.range n) ∧ j ≤ i ∧ (∀ a b, a < b → b ≤ i → a ≠ j → b ≠ j → f (R.getD a 0) ≤ f (R.getD b 0)) ∧ ∀ b, j < b → b ≤ i → f (R.getD j 0) ≤ f (R.getD b 0)
/-- All servers, the first i of them in their order. -/
def SO (f : Nat → Int) (n : Nat) (R : List Nat) (i : Nat) : Prop := R.Perm (List.range n) ∧ ∀ a b, a < b → b < i → f (R.getD a 0) ≤ f (R.getD b 0)
theorem SO.zero (f : Nat → Int) (n : Nat) : SO f n (List.range n) 1 := ⟨List.Perm.refl _, fun a b h1 h2 => by omega⟩
theorem SO.len {f : Nat → Int} {n : Nat} {R : List Nat} {i : Nat} (h : SO f n R i) : R.length = n := by rw [h.1.length_eq, List.length_range]
theorem SO.ins {f : Nat → Int} {n : Nat} {R : List Nat} {i : Nat} (h : SO f n R i) : IS f n R i i := ⟨h.1, Nat.le_refl _, fun a b h1 h2 _ h4 => h.2 a b h1 (by omega), fun b h1 h2 => by omega⟩
theorem IS.len {f : Nat → Int} {n : Nat} {R : List Nat} {i j : Nat} (h : IS f n R i j) : R.length = n := by rw [h.1.length_eq, List.length_range]
theorem IS.step {f : Nat → Int} {n : Nat} {R : List Nat} {i j : Nat} (h : IS f n R i (j + 1)) (hi : i < n) (hc : f (R.getD (j + 1) 0) < f (R.getD j 0)) : IS f n (sw R j) i j := by
  have hl := h.len
  have hj := h.2.1
  have hj1 : j + 1 < R.length := by omega
  refine ⟨(sw_perm hj1).trans h.1, by omega, fun a b h1 h2 h3 h4 => ?_, fun b h1 h2 => ?_⟩
  · rw [sw_get hj1, sw_get hj1, if_neg h3, if_neg h4]
    by_cases ea : a = j + 1
    · rw [if_pos ea, if_neg (by omega)]
      exact h.2.2.1 j b (by omega) h2 (by omega) (by omega)
    · rw [if_neg ea]
      by_cases eb : b = j + 1
      · rw [if_pos eb]
        exact h.2.2.1 a j (by omega) (by omega) ea (by omega)
      · rw [if_neg eb]
        exact h.2.2.1 a b h1 h2 ea eb
  · rw [sw_get hj1, sw_get hj1, if_pos rfl, if_neg (by omega)]
    by_cases eb : b = j + 1
    · rw [if_pos eb]; omega
    · rw [if_neg eb]
      exact h.2.2.2 b (by omega) h2
theorem IS.fin {f : Nat → Int} {n : Nat} {R : List Nat} {i j : Nat} (h : IS f n R i j) (hc : j = 0 ∨ ¬ f (R.getD j 0) < f (R.getD (j - 1) 0)) : SO f n R (i + 1) := by
  refine ⟨h.1, fun a b h1 h2 => ?_⟩
  by_cases ea : a = j
  · subst ea; exact h.2.2.2 b h1 (by omega)
  · by_cases eb : b = j
    · subst eb
      rcases hc with rfl | hc
      · omega
      · by_cases e : a = b - 1
        · subst e; omega
        · have := h.2.2.1 a (b - 1) (by omega) (by omega) ea (by omega)
          omega
    · exact h.2.2.1 a b h1 (by omega) ea eb
theorem SO.mem {f : Nat → Int} {n : Nat} {R : List Nat} {i : Nat} (h : SO f n R i) {a : Nat} (ha : a < n) : R.getD a 0 < n := by
  have hl := h.len
  have : R.getD a 0 ∈ R := by simp [List.getD, show a < R.length from by omega]
  have := h.1.mem_iff.1 this
  exact List.mem_range.1 this
theorem SO.has {f : Nat → Int} {n : Nat} {R : List Nat} {i : Nat} (h : SO f n R i) {s : Nat} (hs : s < n) : ∃ a, a < n ∧ R.getD a 0 = s := by
  have := h.1.mem_iff.2 (List.mem_range.2 hs)
  obtain ⟨a, ha, e⟩ := List.getElem_of_mem this
  exact ⟨a, by rw [← h.len]; exact ha, by simp [List.getD, ha, e]⟩
theorem SO.lt256 {f : Nat → Int} {n : Nat} {R : List Nat} {i : Nat} (h : SO f n R i) : ∀ x ∈ R, x < n := fun _ hx => List.mem_range.1 (h.1.mem_iff.1 hx)
theorem SO.head {ps : List Int} {k : Int} (hv : VR ps = true) {R : List Nat} (h : SO (st ps k) ps.length R ps.length) : R.getD 0 0 = own ps k := by
  have h1 := (VR_iff.1 hv).1
  refine (own_uniq hv (h.mem (by omega)) fun i hi => ?_).symm
  obtain ⟨a, ha, rfl⟩ := h.has hi
  by_cases e : a = 0
  · subst e; exact Int.le_refl _
  · exact h.2 0 a (by omega) ha

/-- The one of the first n servers with g of which f is least, none if there is none. -/
def bb (g : Nat → Bool) (f : Nat → Int) : Nat → Option Nat
  | 0 => none
  | s + 1 => if g s = true ∧ (∀ b, bb g f s = some b → f s < f b) then some s else bb g f s
theorem bb_some {g : Nat → Bool} {f : Nat → Int} : ∀ {n b : Nat}, bb g f n = some b → b < n ∧ g b = true ∧ ∀ s, s < n → g s = true → f b ≤ f s := by
  intro n
  induction n with
  | zero => intro b h; simp [bb] at h
  | succ n ih =>
    intro b h
    rw [bb] at h
    by_cases c : g n = true ∧ (∀ b, bb g f n = some b → f n < f b)
    · rw [if_pos c] at h
      obtain rfl : n = b := by simpa using h
      refine ⟨by omega, c.1, fun s hs hg => ?_⟩
      by_cases e : s = n
      · subst e; exact Int.le_refl _
      · cases hb : bb g f n with
        | none =>
          exfalso
          have : ∀ m, bb g f m = none → ∀ s, s < m → g s = false := by
            intro m
            induction m with
            | zero => intro _ s hs; omega
            | succ m ihm =>
              intro hm s hs
              rw [bb] at hm
              split at hm
              · simp at hm
              · rename_i hc
                by_cases es : s = m
                · subst es
                  cases hgs : g s with
                  | false => rfl
                  | true => exact (hc ⟨hgs, fun b hb => by rw [hm] at hb; simp at hb⟩).elim
                · exact ihm hm s (by omega)
          have := this n hb s (by omega)
          rw [hg] at this; simp at this
        | some b =>
          have h1 := c.2 b hb
          have h2 := (ih hb).2.2 s (by omega) hg
          omega
    · rw [if_neg c] at h
      obtain ⟨h1, h2, h3⟩ := ih h
      refine ⟨by omega, h2, fun s hs hg => ?_⟩
      by_cases e : s = n
      · subst e
        refine Decidable.byContradiction fun hn => c ⟨hg, fun b' hb' => ?_⟩
        rw [h] at hb'
        obtain rfl : b = b' := by simpa using hb'
        omega
      · exact h3 s (by omega) hg
theorem bb_none {g : Nat → Bool} {f : Nat → Int} {n : Nat} (h : bb g f n = none) : ∀ s, s < n → g s = false := by
  induction n with
  | zero => intro s hs; omega
  | succ m ihm =>
    intro s hs
    rw [bb] at h
    split at h
    · simp at h
    · rename_i hc
      by_cases es : s = m
      · subst es
        cases hgs : g s with
        | false => rfl
        | true => exact (hc ⟨hgs, fun b hb => by rw [h] at hb; simp at hb⟩).elim
      · exact ihm h s (by omega)
theorem bb_is {g : Nat → Bool} {f : Nat → Int} {n b : Nat} (hf : ∀ i j, i < n → j < n → f i = f j → i = j) (hb : b < n) (hg : g b = true) (h : ∀ s, s < n → g s = true → f b ≤ f s) : bb g f n = some b := by
  cases e : bb g f n with
  | none => have := bb_none e b hb; rw [hg] at this; simp at this
  | some b' =>
    obtain ⟨h1, h2, h3⟩ := bb_some e
    have := h3 b hb hg
    have := h b' h1 h2
    rw [hf b b' hb h1 (by omega)]
theorem bb_no {g : Nat → Bool} {f : Nat → Int} {n : Nat} (h : ∀ s, s < n → g s = false) : bb g f n = none := by
  cases e : bb g f n with
  | none => rfl
  | some b => obtain ⟨h1, h2, _⟩ := bb_some e; rw [h b h1] at h2; simp at h2
theorem bb_ord {ps : List Int} {k : Int} (hv : VR ps = true) {R : List Nat} (h : SO (st ps k) ps.length R ps.length) {g : Nat → Bool} {i : Nat} (hi : i < ps.length) (hg : g (R.getD i 0) = true) (hn : ∀ j, j < i → g (R.getD j 0) = false) : bb g (st ps k) ps.length = some (R.getD i 0) := by
  refine bb_is (fun a b ha hb e => st_inj hv ha hb e) (h.mem hi) hg fun s hs hgs => ?_
  obtain ⟨a, ha, rfl⟩ := h.has hs
  rcases Nat.lt_trichotomy a i with hl | hl | hl
  · have := hn a hl; rw [hgs] at this; simp at this
  · rw [hl]; exact Int.le_refl _
  · exact h.2 i a hl ha
theorem bb_ord_no {ps : List Int} {k : Int} {R : List Nat} (h : SO (st ps k) ps.length R ps.length) {g : Nat → Bool} (hn : ∀ j, j < ps.length → g (R.getD j 0) = false) : bb g (st ps k) ps.length = none := by
  refine bb_no fun s hs => ?_
  obtain ⟨a, ha, rfl⟩ := h.has hs
  exact hn a ha

/-- May server s have one more? -/
def mo (load : Int) (C : List Int) (s : Nat) : Bool := decide (C.getD s 0 < load)
/-- The server of the next key when servers have C. -/
def nb (ps : List Int) (load : Int) (C : List Int) (k : Int) : Option Nat := bb (mo load C) (st ps k) ps.length
/-- What servers have, and those of keys, when j keys are placed. -/
def bs (ps ks : List Int) (load : Int) : Nat → List Int × List Int
  | 0 => (List.replicate ps.length 0, [])
  | j + 1 => ((bs ps ks load j).1.set ((nb ps load (bs ps ks load j).1 (ks.getD j 0)).getD 0) ((bs ps ks load j).1.getD ((nb ps load (bs ps ks load j).1 (ks.getD j 0)).getD 0) 0 + 1),
      (bs ps ks load j).2 ++ [(((nb ps load (bs ps ks load j).1 (ks.getD j 0)).getD 0 : Nat) : Int)])
theorem bs_len1 (ps ks : List Int) (load : Int) (j : Nat) : (bs ps ks load j).1.length = ps.length := by
  induction j with
  | zero => simp [bs]
  | succ j ih => simp [bs, ih]
theorem bs_len2 (ps ks : List Int) (load : Int) (j : Nat) : (bs ps ks load j).2.length = j := by
  induction j with
  | zero => simp [bs]
  | succ j ih => simp [bs, ih]
/-- Each of the first j keys has a server. -/
def BK (ps ks : List Int) (load : Int) (j : Nat) : Prop := ∀ i, i < j → (nb ps load (bs ps ks load i).1 (ks.getD i 0)).isSome = true
instance (ps ks : List Int) (load : Int) (j : Nat) : Decidable (BK ps ks load j) := inferInstanceAs (Decidable (∀ i, i < j → _))
def FitK (ks : List Int) (n : Nat) : Prop := ∀ i, i < n → 0 ≤ ks.getD i 0 ∧ ks.getD i 0 ≤ 63
instance (ks : List Int) (n : Nat) : Decidable (FitK ks n) := inferInstanceAs (Decidable (∀ i, i < n → _))
theorem FitK.zero (ks : List Int) : FitK ks 0 := fun i hi => by omega
theorem FitK.succ {l : List Int} {k : Nat} (h : FitK l k) (h0 : 0 ≤ l.getD k 0) (h1 : l.getD k 0 ≤ 63) : FitK l (k + 1) := by
  intro i hi
  by_cases e : i = k
  · subst e; exact ⟨h0, h1⟩
  · exact h i (by omega)
theorem BK.zero (ps ks : List Int) (load : Int) : BK ps ks load 0 := fun i hi => by omega
theorem BK.succ {ps ks : List Int} {load : Int} {k : Nat} (h : BK ps ks load k) (h0 : (nb ps load (bs ps ks load k).1 (ks.getD k 0)).isSome = true) : BK ps ks load (k + 1) := by
  intro i hi
  by_cases e : i = k
  · subst e; exact h0
  · exact h i (by omega)
def VBO (ps ks : List Int) (load : Int) : Prop := VR ps = true ∧ ks.length ≤ 8 ∧ (1 ≤ load ∧ load ≤ 8) ∧ FitK ks ks.length ∧ BK ps ks load ks.length
instance (ps ks : List Int) (load : Int) : Decidable (VBO ps ks load) := by unfold VBO; infer_instance
/-- BoundedOwners. -/
def BO (ps ks : List Int) (load : Int) : List Int × Bool := if VBO ps ks load then ((bs ps ks load ks.length).2, true) else ([], false)
theorem BO_no {ps ks : List Int} {load : Int} (h : ¬ VBO ps ks load) : BO ps ks load = ([], false) := by unfold BO; rw [if_neg h]
theorem BO_yes {ps ks : List Int} {load : Int} (h : VBO ps ks load) : BO ps ks load = ((bs ps ks load ks.length).2, true) := by unfold BO; rw [if_pos h]
theorem BO_ok {ps ks : List Int} {load : Int} (h : (BO ps ks load).2 = true) : VBO ps ks load := by
  refine Decidable.byContradiction fun hn => ?_
  rw [BO_no hn] at h; simp at h
theorem BO_len (ps ks : List Int) (load : Int) : (BO ps ks load).1.length ≤ 1048586 := by
  unfold BO; split
  · rename_i h; rw [bs_len2]; have := h.2.1; omega
  · simp
theorem nb_some {ps : List Int} {load : Int} {C : List Int} {k : Int} {b : Nat} (h : nb ps load C k = some b) : b < ps.length ∧ C.getD b 0 < load := by
  obtain ⟨h1, h2, _⟩ := bb_some h
  exact ⟨h1, by simpa [mo] using h2⟩
theorem bs_sum {ps ks : List Int} {load : Int} (j : Nat) (h : BK ps ks load j) : (bs ps ks load j).1.sum = j ∧ (∀ s, s < ps.length → 0 ≤ (bs ps ks load j).1.getD s 0 ∧ (bs ps ks load j).1.getD s 0 ≤ j) := by
  induction j with
  | zero =>
    have : ∀ n : Nat, (List.replicate n (0 : Int)).sum = 0 := by
      intro n
      induction n with
      | zero => rfl
      | succ n ih => rw [List.replicate_succ, List.sum_cons, ih]; rfl
    refine ⟨by simp [bs, this], fun s hs => ?_⟩
    simp [bs, List.getD, hs]
  | succ j ih =>
    obtain ⟨h1, h2⟩ := ih fun i hi => h i (by omega)
    obtain ⟨b, hb⟩ := Option.isSome_iff_exists.1 (h j (by omega))
    have h3 := nb_some hb
    rw [bs, hb]
    simp only [Option.getD_some]
    refine ⟨by rw [set_sumI (by rw [bs_len1]; exact h3.1), h1]; omega, fun s hs => ?_⟩
    have h4 := h2 s hs
    have h5 := h2 b h3.1
    by_cases e : b = s
    · subst e
      rw [List.getD, List.getElem?_set_self (by rw [bs_len1]; exact hs), Option.getD_some]; omega
    · rw [List.getD, List.getElem?_set_ne e, ← List.getD]; omega
theorem bs_load {ps ks : List Int} {load : Int} (j : Nat) (h : BK ps ks load j) (h0 : 0 ≤ load) : ∀ s, s < ps.length → (bs ps ks load j).1.getD s 0 ≤ load := by
  induction j with
  | zero => intro s hs; simp [bs, List.getD, hs]; exact h0
  | succ j ih =>
    intro s hs
    have h1 := ih fun i hi => h i (by omega)
    obtain ⟨b, hb⟩ := Option.isSome_iff_exists.1 (h j (by omega))
    have h3 := nb_some hb
    rw [bs, hb]
    simp only [Option.getD_some]
    by_cases e : b = s
    · subst e
      rw [List.getD, List.getElem?_set_self (by rw [bs_len1]; exact hs), Option.getD_some]; omega
    · rw [List.getD, List.getElem?_set_ne e, ← List.getD]; exact h1 s hs
theorem sum_le {l : List Int} {c : Int} (h : ∀ x ∈ l, x ≤ c) : l.sum ≤ c * l.length := by
  induction l with
  | nil => simp
  | cons y l ih =>
    have h1 := h y (by simp)
    have h2 := ih fun x hx => h x (by simp [hx])
    rw [List.sum_cons, List.length_cons, Int.natCast_add, Int.mul_add]
    simp only [Int.natCast_one, Int.mul_one]
    omega
theorem BO_room {ps ks : List Int} {load : Int} (h : VBO ps ks load) : (ks.length : Int) ≤ load * ps.length := by
  obtain ⟨_, _, h3, _, h5⟩ := h
  have a := (bs_sum _ h5).1
  have b := bs_load _ h5 (by omega)
  have c := sum_le (l := (bs ps ks load ks.length).1) (c := load) fun x hx => by
    obtain ⟨i, hi, rfl⟩ := List.getElem_of_mem hx
    rw [bs_len1] at hi
    have := b i hi
    simpa [List.getD, bs_len1, hi] using this
  rw [bs_len1] at c
  omega
theorem bs_get {ps ks : List Int} {load : Int} {i : Nat} : ∀ j, i < j → (bs ps ks load j).2.getD i 0 = (((nb ps load (bs ps ks load i).1 (ks.getD i 0)).getD 0 : Nat) : Int) := by
  intro j
  induction j with
  | zero => intro h; omega
  | succ j ih =>
    intro h
    rw [bs]
    simp only
    by_cases e : i = j
    · subst e
      rw [List.getD, List.getElem?_append_right (by rw [bs_len2]; omega), bs_len2]
      simp
    · rw [List.getD, List.getElem?_append_left (by rw [bs_len2]; omega), ← List.getD]
      exact ih (by omega)
theorem BO_own {ps ks : List Int} {load : Int} (h : VBO ps ks load) (hl : (ks.length : Int) ≤ load) {i : Nat} (hi : i < ks.length) : (((nb ps load (bs ps ks load i).1 (ks.getD i 0)).getD 0 : Nat) : Int) = OW ps (ks.getD i 0) := by
  obtain ⟨h1, h2, h3, h4, h5⟩ := h
  have a := h4 i hi
  have b := (bs_sum i fun j hj => h5 j (by omega)).2
  rw [OW_yes h1 a.1 a.2]
  have : nb ps load (bs ps ks load i).1 (ks.getD i 0) = some (own ps (ks.getD i 0)) := by
    refine bb_is (fun a b ha hb e => st_inj h1 ha hb e) (own_lt h1) ?_ fun s hs _ => own_min hs
    have := b _ (own_lt (k := ks.getD i 0) h1)
    simp only [mo, decide_eq_true_eq]; omega
  rw [this, Option.getD_some]
end Go.Proofs.Ytjkcahmbocjacaa
