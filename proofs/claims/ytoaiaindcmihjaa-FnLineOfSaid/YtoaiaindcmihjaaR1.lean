/-
  The plain mathematics of chapter 4: rings, scores, jumps.
-/
import Derived.Test.YtoaiaindcmihjaaM2
namespace Go.Proofs.Ytoaiaindcmihjaa

/-- The first place up to n at which f is least. -/
def bsm (f : Nat → Int) : Nat → Nat
  | 0 => 0
  | n + 1 => if f (n + 1) < f (bsm f n) then n + 1 else bsm f n
theorem bsm_le (f : Nat → Int) (n : Nat) : bsm f n ≤ n := by
  induction n with
  | zero => simp [bsm]
  | succ n ih => rw [bsm]; split <;> omega
theorem bsm_min (f : Nat → Int) (n : Nat) : ∀ i, i ≤ n → f (bsm f n) ≤ f i := by
  induction n with
  | zero => intro i hi; obtain rfl : i = 0 := by omega
            simp [bsm]
  | succ n ih =>
    intro i hi
    rw [bsm]
    by_cases e : i = n + 1
    · subst e; split <;> omega
    · have := ih i (by omega)
      split <;> omega
theorem bsm_first (f : Nat → Int) (n : Nat) : ∀ i, i < bsm f n → f (bsm f n) < f i := by
  induction n with
  | zero => intro i hi; simp [bsm] at hi
  | succ n ih =>
    intro i hi
    rw [bsm] at hi ⊢
    split at hi
    · rename_i h
      rw [if_pos h]
      have := bsm_min f n i (by omega)
      omega
    · rename_i h
      rw [if_neg h]
      exact ih i hi
theorem bsm_uniq {f : Nat → Int} {n b : Nat} (h : b ≤ n) (h1 : ∀ i, i ≤ n → f b ≤ f i) (h2 : ∀ i, i < b → f b < f i) : bsm f n = b := by
  have a1 := bsm_min f n b h
  have a2 := h1 _ (bsm_le f n)
  rcases Nat.lt_trichotomy (bsm f n) b with hl | hl | hl
  · have := h2 _ hl; omega
  · exact hl
  · have := bsm_first f n _ hl; omega
theorem bsm_congr {f g : Nat → Int} {n : Nat} (h : ∀ i, i ≤ n → f i = g i) : bsm f n = bsm g n := by
  induction n with
  | zero => rfl
  | succ n ih =>
    have e := ih fun i hi => h i (by omega)
    rw [bsm, bsm, e, h (n + 1) (by omega), h (bsm g n) (by have := bsm_le g n; omega)]

/-- Steps from a key to the place of server i. -/
def st (ps : List Int) (k : Int) (i : Nat) : Int := offI 64 k (ps.getD i 0)
/-- The server of a key on a ring. -/
def own (ps : List Int) (k : Int) : Nat := bsm (st ps k) (ps.length - 1)
/-- The places of servers on a ring. -/
def VR (ps : List Int) : Bool := decide (1 ≤ ps.length) && decide (ps.length ≤ 6) && decide (∀ i, i < ps.length → 0 ≤ ps.getD i 0 ∧ ps.getD i 0 ≤ 63 ∧ ps.getD i 0 ∉ ps.take i)
def FitV (ps : List Int) (k : Nat) : Prop := ∀ i, i < k → 0 ≤ ps.getD i 0 ∧ ps.getD i 0 ≤ 63 ∧ ps.getD i 0 ∉ ps.take i
theorem VR_iff {ps : List Int} : VR ps = true ↔ 1 ≤ ps.length ∧ ps.length ≤ 6 ∧ FitV ps ps.length := by
  simp only [VR, FitV, Bool.and_eq_true, decide_eq_true_eq, and_assoc]
theorem VR_false {ps : List Int} (h : ¬ (1 ≤ ps.length ∧ ps.length ≤ 6 ∧ FitV ps ps.length)) : VR ps = false := by rw [← VR_iff] at h; simpa using h
theorem FitV.zero (ps : List Int) : FitV ps 0 := fun i hi => by omega
theorem FitV.succ {ps : List Int} {k : Nat} (h : FitV ps k) (h0 : 0 ≤ ps.getD k 0) (h1 : ps.getD k 0 ≤ 63) (h2 : ps.getD k 0 ∉ ps.take k) : FitV ps (k + 1) := by
  intro i hi
  by_cases e : i = k
  · subst e; exact ⟨h0, h1, h2⟩
  · exact h i (by omega)
theorem FitV.take {ps : List Int} {n : Nat} (h : FitV ps ps.length) (hn : n ≤ ps.length) : FitV (ps.take n) (ps.take n).length := by
  intro i hi
  rw [List.length_take] at hi
  have h1 := h i (by omega)
  have e : (ps.take n).getD i 0 = ps.getD i 0 := by rw [List.getD, List.getElem?_take, if_pos (by omega), List.getD]
  rw [e, List.take_take, show min i n = i from by omega]
  exact h1
theorem VR_take {ps : List Int} (h : VR ps = true) (h2 : 2 ≤ ps.length) : VR (ps.take (ps.length - 1)) = true := by
  have h3 := VR_iff.1 h
  refine VR_iff.2 ⟨by rw [List.length_take]; omega, by rw [List.length_take]; omega, h3.2.2.take (by omega)⟩
theorem VR_rng {ps : List Int} (h : VR ps = true) {i : Nat} (hi : i < ps.length) : 0 ≤ ps.getD i 0 ∧ ps.getD i 0 ≤ 63 := by
  have := (VR_iff.1 h).2.2 i hi; exact ⟨this.1, this.2.1⟩
theorem VR_inj {ps : List Int} (h : VR ps = true) {i j : Nat} (hi : i < ps.length) (hj : j < ps.length) (e : ps.getD i 0 = ps.getD j 0) : i = j := by
  have key : ∀ a b, a < b → b < ps.length → ps.getD a 0 = ps.getD b 0 → False := by
    intro a b hab hb e
    refine ((VR_iff.1 h).2.2 b hb).2.2 ?_
    rw [← e]
    have ha : a < (ps.take b).length := by rw [List.length_take]; omega
    have : (ps.take b)[a] = ps.getD a 0 := by simp [List.getD, show a < ps.length from by omega]
    rw [← this]
    exact List.getElem_mem ha
  rcases Nat.lt_trichotomy i j with hl | hl | hl
  · exact (key i j hl hj e).elim
  · exact hl
  · exact (key j i hl hi e.symm).elim
theorem off_inj {k p q : Int} (hp : 0 ≤ p) (hp' : p ≤ 63) (hq : 0 ≤ q) (hq' : q ≤ 63) (h : offI 64 k p = offI 64 k q) : p = q := by
  unfold offI at h; omega
theorem off_selfR {k : Int} : offI 64 k k = 0 := by unfold offI; omega
theorem off_nn {k p : Int} : 0 ≤ offI 64 k p ∧ offI 64 k p < 64 := by unfold offI; omega
theorem st_inj {ps : List Int} {k : Int} (h : VR ps = true) {i j : Nat} (hi : i < ps.length) (hj : j < ps.length) (e : st ps k i = st ps k j) : i = j := by
  have a := VR_rng h hi
  have b := VR_rng h hj
  exact VR_inj h hi hj (off_inj a.1 a.2 b.1 b.2 e)
theorem own_lt {ps : List Int} {k : Int} (h : VR ps = true) : own ps k < ps.length := by
  have := bsm_le (st ps k) (ps.length - 1)
  have := (VR_iff.1 h).1
  unfold own; omega
theorem own_min {ps : List Int} {k : Int} {i : Nat} (hi : i < ps.length) : st ps k (own ps k) ≤ st ps k i := bsm_min _ _ i (by omega)
theorem own_uniq {ps : List Int} {k : Int} (h : VR ps = true) {b : Nat} (hb : b < ps.length) (h1 : ∀ i, i < ps.length → st ps k b ≤ st ps k i) : own ps k = b := by
  have a1 := own_lt (k := k) h
  have a2 := own_min (k := k) hb
  have a3 := h1 _ a1
  exact st_inj (k := k) h a1 hb (by omega)
theorem own_place {ps : List Int} (h : VR ps = true) {i : Nat} (hi : i < ps.length) : own ps (ps.getD i 0) = i := by
  refine own_uniq h hi fun j _ => ?_
  have e : st ps (ps.getD i 0) i = 0 := off_selfR
  have := off_nn (k := ps.getD i 0) (p := ps.getD j 0)
  unfold st at e ⊢; omega

/-- A key's server, or -1. -/
def OW (ps : List Int) (k : Int) : Int := if VR ps = true ∧ 0 ≤ k ∧ k ≤ 63 then (own ps k : Int) else -1
theorem OW_yes {ps : List Int} {k : Int} (h : VR ps = true) (hk : 0 ≤ k) (hk' : k ≤ 63) : OW ps k = (own ps k : Int) := by unfold OW; rw [if_pos ⟨h, hk, hk'⟩]
theorem OW_no {ps : List Int} {k : Int} (h : ¬ (VR ps = true ∧ 0 ≤ k ∧ k ≤ 63)) : OW ps k = -1 := by unfold OW; rw [if_neg h]
theorem OW_ok {ps : List Int} {k : Int} (h : ¬ OW ps k < 0) : VR ps = true ∧ 0 ≤ k ∧ k ≤ 63 := by
  refine Decidable.byContradiction fun hn => h ?_
  rw [OW_no hn]; omega

/-- Places without that of server i. -/
theorem erase_get {ps : List Int} {i j : Nat} : (ps.eraseIdx i).getD j 0 = if j < i then ps.getD j 0 else ps.getD (j + 1) 0 := by
  simp only [List.getD, List.getElem?_eraseIdx]; split <;> rfl
theorem erase_len {ps : List Int} {i : Nat} (hi : i < ps.length) : (ps.eraseIdx i).length = ps.length - 1 := by rw [List.length_eraseIdx]; simp [hi]
theorem VR_of {ps : List Int} (h1 : 1 ≤ ps.length) (h2 : ps.length ≤ 6) (h3 : ∀ i, i < ps.length → 0 ≤ ps.getD i 0 ∧ ps.getD i 0 ≤ 63) (h4 : ∀ i j, i < j → j < ps.length → ps.getD i 0 ≠ ps.getD j 0) : VR ps = true := by
  refine VR_iff.2 ⟨h1, h2, fun i hi => ⟨(h3 i hi).1, (h3 i hi).2, fun hm => ?_⟩⟩
  obtain ⟨j, hj, e⟩ := List.getElem_of_mem hm
  rw [List.length_take] at hj
  refine h4 j i (by omega) hi ?_
  rw [← e]
  simp [List.getD, show j < ps.length from by omega]
theorem VR_erase {ps : List Int} (h : VR ps = true) (h2 : 2 ≤ ps.length) {i : Nat} (hi : i < ps.length) : VR (ps.eraseIdx i) = true := by
  have h3 := VR_iff.1 h
  refine VR_of (by rw [erase_len hi]; omega) (by rw [erase_len hi]; omega) (fun j hj => ?_) (fun a b hab hb e => ?_)
  · rw [erase_len hi] at hj
    rw [erase_get]
    split
    · exact VR_rng h (by omega)
    · exact VR_rng h (by omega)
  · rw [erase_len hi] at hb
    rw [erase_get, erase_get] at e
    split at e <;> split at e
    · have := VR_inj h (by omega) (by omega) e; omega
    · have := VR_inj h (by omega) (by omega) e; omega
    · omega
    · have := VR_inj h (by omega) (by omega) e; omega
theorem own_erase {ps : List Int} {k : Int} (h : VR ps = true) {i : Nat} (hi : i < ps.length) (hne : i ≠ own ps k) : (ps.eraseIdx i).getD (own (ps.eraseIdx i) k) 0 = ps.getD (own ps k) 0 := by
  have ho := own_lt (k := k) h
  have h2 : 2 ≤ ps.length := by omega
  have hv := VR_erase h h2 hi
  have hl := erase_len hi
  let b := if own ps k < i then own ps k else own ps k - 1
  have hb : b < (ps.eraseIdx i).length := by rw [hl]; show (if own ps k < i then own ps k else own ps k - 1) < _; split <;> omega
  have eb : (ps.eraseIdx i).getD b 0 = ps.getD (own ps k) 0 := by
    rw [erase_get]
    show (if (if own ps k < i then own ps k else own ps k - 1) < i then _ else _) = _
    by_cases hlt : own ps k < i
    · rw [if_pos (show b < i from by show (if own ps k < i then own ps k else own ps k - 1) < i; rw [if_pos hlt]; exact hlt)]
      show ps.getD (if own ps k < i then own ps k else own ps k - 1) 0 = _
      rw [if_pos hlt]
    · have e : b = own ps k - 1 := by show (if own ps k < i then own ps k else own ps k - 1) = _; rw [if_neg hlt]
      have e2 : (if own ps k < i then own ps k else own ps k - 1) = own ps k - 1 := if_neg hlt
      rw [e2, if_neg (by omega), e]
      congr 1; omega
  have hown : own (ps.eraseIdx i) k = b := by
    refine own_uniq hv hb fun j hj => ?_
    unfold st
    rw [eb, erase_get]
    rw [hl] at hj
    split
    · exact own_min (ps := ps) (k := k) (by omega)
    · exact own_min (ps := ps) (k := k) (by omega)
  rw [hown, eb]

/-- How many of the first j keys each server has. -/
def shr (ps : List Int) : Nat → List Int
  | 0 => List.replicate ps.length 0
  | j + 1 => (shr ps j).set (own ps j) ((shr ps j).getD (own ps j) 0 + 1)
theorem shr_len (ps : List Int) (j : Nat) : (shr ps j).length = ps.length := by
  induction j with
  | zero => simp [shr]
  | succ j ih => simp [shr, ih]
theorem shr_get {ps : List Int} (h : VR ps = true) (s : Nat) (hs : s < ps.length) (j : Nat) : (shr ps j).getD s 0 = ((List.range j).countP fun (k : Nat) => decide (own ps k = s) : Nat) := by
  induction j with
  | zero => simp [shr, List.getD, hs]
  | succ j ih =>
    rw [shr, List.range_succ, List.countP_append, List.countP_singleton]
    have ho := own_lt (k := (j : Int)) h
    by_cases e : own ps j = s
    · rw [e, List.getD, List.getElem?_set_self (by rw [shr_len]; exact hs)]
      simp only [Option.getD_some, decide_true, if_true]
      rw [ih]; omega
    · rw [List.getD, List.getElem?_set_ne e]
      have := ih
      rw [List.getD] at this
      rw [this]; simp [e]
theorem shr_nn {ps : List Int} (h : VR ps = true) (j : Nat) (s : Nat) (hs : s < ps.length) : 0 ≤ (shr ps j).getD s 0 ∧ (shr ps j).getD s 0 ≤ j := by
  rw [shr_get h s hs]
  have := List.countP_le_length (p := fun (k : Nat) => decide (own ps k = s)) (l := List.range j)
  rw [List.length_range] at this
  omega
theorem set_sumI {l : List Int} {i : Nat} (hi : i < l.length) (x : Int) : (l.set i x).sum = l.sum - l.getD i 0 + x := by
  induction l generalizing i with
  | nil => simp at hi
  | cons y l ih =>
    cases i with
    | zero => simp [List.set, List.getD]; omega
    | succ i =>
      have := ih (i := i) (by simpa using hi)
      simp only [List.set, List.sum_cons, List.getD_cons_succ, this]; omega
theorem shr_sum {ps : List Int} (h : VR ps = true) (j : Nat) : (shr ps j).sum = j := by
  induction j with
  | zero =>
    have : ∀ n : Nat, (List.replicate n (0 : Int)).sum = 0 := by
      intro n
      induction n with
      | zero => rfl
      | succ n ih => rw [List.replicate_succ, List.sum_cons, ih]; rfl
    simp [shr, this]
  | succ j ih => rw [shr, set_sumI (by rw [shr_len]; exact own_lt h), ih]; omega
/-- SharesOf. -/
def SH (ps : List Int) : List Int := if VR ps = true then shr ps 64 else []
theorem SH_len (ps : List Int) : (SH ps).length ≤ 1048586 := by
  unfold SH; split
  · rename_i h; have := (VR_iff.1 h).2.1; rw [shr_len]; omega
  · simp
theorem SH_one {ps : List Int} (h : VR ps = true) {s : Nat} (hs : s < ps.length) : 1 ≤ (SH ps).getD s 0 := by
  unfold SH; rw [if_pos h, shr_get h s hs]
  have a := VR_rng h hs
  have a1 := a.1
  have a2 := a.2
  have : 0 < (List.range 64).countP fun (k : Nat) => decide (own ps k = s) := by
    rw [List.countP_pos_iff]
    refine ⟨(ps.getD s 0).toNat, List.mem_range.2 (by omega), ?_⟩
    simp only [decide_eq_true_eq]
    rw [show (((ps.getD s 0).toNat : Nat) : Int) = ps.getD s 0 from by omega]
    exact own_place h hs
  omega

/-- The keys below j that move. -/
def mvr (ps : List Int) (p : Int) : Nat → List Int
  | 0 => []
  | j + 1 => if own ps j ≠ own (ps ++ [p]) j then mvr ps p j ++ [(j : Int)] else mvr ps p j
/-- MovedBy. -/
def MV (ps : List Int) (p : Int) : List Int := if VR ps = true ∧ VR (ps ++ [p]) = true then mvr ps p 64 else []
theorem mvr_len (ps : List Int) (p : Int) (j : Nat) : (mvr ps p j).length ≤ j := by
  induction j with
  | zero => simp [mvr]
  | succ j ih =>
    rw [mvr]; split
    · rw [List.length_append, List.length_singleton]; omega
    · omega
theorem MV_len (ps : List Int) (p : Int) : (MV ps p).length ≤ 1048586 := by
  unfold MV; split
  · have := mvr_len ps p 64
    omega
  · simp
theorem app_get {ps : List Int} {p : Int} {i : Nat} (hi : i < ps.length) : (ps ++ [p]).getD i 0 = ps.getD i 0 := by
  simp [List.getD, List.getElem?_append_left hi]
theorem app_last {ps : List Int} {p : Int} : (ps ++ [p]).getD ps.length 0 = p := by simp [List.getD]
theorem own_more {ps : List Int} {p : Int} {k : Nat} (h : VR ps = true) (h2 : VR (ps ++ [p]) = true) : own ps k ≠ own (ps ++ [p]) k ↔ own (ps ++ [p]) k = ps.length := by
  have ho := own_lt (k := (k : Int)) h
  have ho2 := own_lt (k := (k : Int)) h2
  rw [List.length_append, List.length_singleton] at ho2
  constructor
  · intro hne
    refine Decidable.byContradiction fun hn => hne ?_
    have hl : own (ps ++ [p]) k < ps.length := by omega
    refine own_uniq h hl fun i hi => ?_
    have := own_min (ps := ps ++ [p]) (k := (k : Int)) (i := i) (by simp; omega)
    unfold st at this ⊢
    rw [app_get hl, app_get hi] at this
    exact this
  · intro e; omega
theorem mvr_mem {ps : List Int} {p : Int} (h : VR ps = true) (h2 : VR (ps ++ [p]) = true) (j : Nat) (hj : j ≤ 64) : ∀ x, x ∈ mvr ps p j ↔ ∃ k : Nat, x = k ∧ k < j ∧ own (ps ++ [p]) k = ps.length := by
  induction j with
  | zero => intro x; simp [mvr]
  | succ j ih =>
    intro x
    have e := own_more (k := j) h h2
    have i1 := ih (by omega) x
    rw [mvr]
    by_cases c : own (ps ++ [p]) j = ps.length
    · rw [if_pos (e.2 c), List.mem_append, List.mem_singleton, i1]
      constructor
      · rintro (⟨k, rfl, hk, hc⟩ | rfl)
        · exact ⟨k, rfl, by omega, hc⟩
        · exact ⟨j, rfl, by omega, c⟩
      · rintro ⟨k, rfl, hk, hc⟩
        by_cases ek : k = j
        · right; rw [ek]
        · left; exact ⟨k, rfl, by omega, hc⟩
    · rw [if_neg (fun hh => c (e.1 hh)), i1]
      constructor
      · rintro ⟨k, rfl, hk, hc⟩; exact ⟨k, rfl, by omega, hc⟩
      · rintro ⟨k, rfl, hk, hc⟩
        refine ⟨k, rfl, ?_, hc⟩
        by_cases ek : k = j
        · subst ek; exact (c hc).elim
        · omega
theorem mvr_cnt {ps : List Int} {p : Int} (h : VR ps = true) (h2 : VR (ps ++ [p]) = true) (j : Nat) (hj : j ≤ 64) : (mvr ps p j).length = (List.range j).countP fun (k : Nat) => decide (own (ps ++ [p]) k = ps.length) := by
  induction j with
  | zero => simp [mvr]
  | succ j ih =>
    have e := own_more (k := j) h h2
    rw [mvr, List.range_succ, List.countP_append, List.countP_singleton, ← ih (by omega)]
    by_cases c : own (ps ++ [p]) j = ps.length
    · rw [if_pos (e.2 c)]; simp [c]
    · rw [if_neg (fun hh => c (e.1 hh))]; simp [c]
theorem mvr_asc {ps : List Int} {p : Int} (h : VR ps = true) (h2 : VR (ps ++ [p]) = true) (j : Nat) (hj : j ≤ 64) : (mvr ps p j).Pairwise (· < ·) := by
  induction j with
  | zero => simp [mvr]
  | succ j ih =>
    rw [mvr]
    split
    · rw [List.pairwise_append]
      refine ⟨ih (by omega), by simp, fun a ha b hb => ?_⟩
      obtain ⟨k, rfl, hk, _⟩ := (mvr_mem h h2 j (by omega) a).1 ha
      rw [List.mem_singleton] at hb
      omega
    · exact ih (by omega)
theorem MV_facts {ps : List Int} {p : Int} (h : VR ps = true) (h2 : VR (ps ++ [p]) = true) : (∀ x ∈ MV ps p, OW (ps ++ [p]) x = ps.length) ∧ ((MV ps p).length : Int) = (SH (ps ++ [p])).getD ps.length 0 ∧ p ∈ MV ps p ∧ (MV ps p).Pairwise (· < ·) := by
  have e : MV ps p = mvr ps p 64 := by unfold MV; rw [if_pos ⟨h, h2⟩]
  have hl : ps.length < (ps ++ [p]).length := by simp
  refine ⟨fun x hx => ?_, ?_, ?_, ?_⟩
  · rw [e] at hx
    obtain ⟨k, rfl, hk, hc⟩ := (mvr_mem h h2 64 (by omega) x).1 hx
    rw [OW_yes h2 (by omega) (by omega), hc]
  · rw [e, mvr_cnt h h2 64 (by omega)]
    unfold SH; rw [if_pos h2, shr_get h2 _ hl]
  · have a := VR_rng h2 hl
    have b := own_place h2 hl
    rw [app_last] at a b
    rw [e, mvr_mem h h2 64 (by omega)]
    refine ⟨p.toNat, by omega, by omega, ?_⟩
    rw [show ((p.toNat : Nat) : Int) = p from by omega]
    exact b
  · rw [e]; exact mvr_asc h h2 64 (by omega)

/-- The score of a server for a key. -/
def sco (s k : Int) : Int := (7 * s * s + 5 * s * k + 3 * k + s) % 97
/-- Numbers of servers, ascending. -/
def FitS (l : List Int) (n : Nat) : Prop := ∀ i, i < n → 0 ≤ l.getD i 0 ∧ l.getD i 0 ≤ 40 ∧ (0 < i → l.getD (i - 1) 0 < l.getD i 0)
def VS (l : List Int) : Bool := decide (1 ≤ l.length) && decide (l.length ≤ 6) && decide (∀ i, i < l.length → 0 ≤ l.getD i 0 ∧ l.getD i 0 ≤ 40 ∧ (0 < i → l.getD (i - 1) 0 < l.getD i 0))
theorem VS_iff {l : List Int} : VS l = true ↔ 1 ≤ l.length ∧ l.length ≤ 6 ∧ FitS l l.length := by
  simp only [VS, FitS, Bool.and_eq_true, decide_eq_true_eq, and_assoc]
theorem VS_false {l : List Int} (h : ¬ (1 ≤ l.length ∧ l.length ≤ 6 ∧ FitS l l.length)) : VS l = false := by rw [← VS_iff] at h; simpa using h
theorem FitS.zero (l : List Int) : FitS l 0 := fun i hi => by omega
theorem FitS.succ {l : List Int} {k : Nat} (h : FitS l k) (h0 : 0 ≤ l.getD k 0) (h1 : l.getD k 0 ≤ 40) (h2 : 0 < k → l.getD (k - 1) 0 < l.getD k 0) : FitS l (k + 1) := by
  intro i hi
  by_cases e : i = k
  · subst e; exact ⟨h0, h1, h2⟩
  · exact h i (by omega)
theorem FitS.lt {l : List Int} {n : Nat} (h : FitS l n) {i j : Nat} (hij : i < j) (hj : j < n) : l.getD i 0 < l.getD j 0 := by
  induction j with
  | zero => omega
  | succ j ih =>
    have := (h (j + 1) hj).2.2 (by omega)
    rw [Nat.add_sub_cancel] at this
    by_cases e : i = j
    · subst e; exact this
    · have := ih (by omega) (by omega); omega
/-- Where the first one of the servers of the greatest score stands. -/
def fst' (l : List Int) (k : Int) : Nat := bsm (fun i => - sco (l.getD i 0) k) (l.length - 1)
/-- FirstFor. -/
def FF (l : List Int) (k : Int) : Int := if VS l = true ∧ 0 ≤ k ∧ k ≤ 63 then l.getD (fst' l k) 0 else -1
theorem FF_yes {l : List Int} {k : Int} (h : VS l = true) (hk : 0 ≤ k) (hk' : k ≤ 63) : FF l k = l.getD (fst' l k) 0 := by unfold FF; rw [if_pos ⟨h, hk, hk'⟩]
theorem FF_no {l : List Int} {k : Int} (h : ¬ (VS l = true ∧ 0 ≤ k ∧ k ≤ 63)) : FF l k = -1 := by unfold FF; rw [if_neg h]
theorem FF_ok {l : List Int} {k : Int} (h : ¬ FF l k < 0) : VS l = true ∧ 0 ≤ k ∧ k ≤ 63 := by
  refine Decidable.byContradiction fun hn => h ?_
  rw [FF_no hn]; omega
theorem fst_lt {l : List Int} {k : Int} (h : VS l = true) : fst' l k < l.length := by
  have := bsm_le (fun i => - sco (l.getD i 0) k) (l.length - 1)
  have := (VS_iff.1 h).1
  unfold fst'; omega
theorem VS_erase {l : List Int} (h : VS l = true) (h2 : 2 ≤ l.length) {i : Nat} (hi : i < l.length) : VS (l.eraseIdx i) = true := by
  have h3 := VS_iff.1 h
  have h4 := h3.2.2
  refine VS_iff.2 ⟨by rw [erase_len hi]; omega, by rw [erase_len hi]; omega, fun j hj => ?_⟩
  rw [erase_len hi] at hj
  rw [erase_get, erase_get]
  refine ⟨?_, ?_, fun hj0 => ?_⟩
  · split
    · exact (h4 _ (by omega)).1
    · exact (h4 _ (by omega)).1
  · split
    · exact (h4 _ (by omega)).2.1
    · exact (h4 _ (by omega)).2.1
  · split <;> split <;> exact h4.lt (by omega) (by omega)
theorem FF_erase {l : List Int} {k : Int} (h : VS l = true) (hk : 0 ≤ k) (hk' : k ≤ 63) {i : Nat} (hi : i < l.length) (hne : l.getD i 0 ≠ FF l k) : FF (l.eraseIdx i) k = FF l k := by
  have ho := fst_lt (k := k) h
  rw [FF_yes h hk hk'] at hne ⊢
  have hne2 : i ≠ fst' l k := fun e => hne (by rw [e])
  have h2 : 2 ≤ l.length := by omega
  have hv := VS_erase h h2 hi
  have hl := erase_len hi
  rw [FF_yes hv hk hk']
  obtain ⟨b, hb⟩ : ∃ b, b = if fst' l k < i then fst' l k else fst' l k - 1 := ⟨_, rfl⟩
  have hbl : b < (l.eraseIdx i).length := by rw [hl, hb]; split <;> omega
  have hsrc : ∀ j, (l.eraseIdx i).getD j 0 = l.getD (if j < i then j else j + 1) 0 := by intro j; rw [erase_get]; split <;> rfl
  have eb : (if b < i then b else b + 1) = fst' l k := by
    rw [hb]
    by_cases hlt : fst' l k < i
    · rw [if_pos hlt, if_pos hlt]
    · rw [if_neg hlt, if_neg (by omega)]; omega
  have : fst' (l.eraseIdx i) k = b := by
    unfold fst'
    refine bsm_uniq (by omega) (fun j hj => ?_) (fun j hj => ?_)
    · rw [hsrc, hsrc, eb]
      exact bsm_min (fun i => - sco (l.getD i 0) k) (l.length - 1) _ (by split <;> omega)
    · rw [hsrc, hsrc, eb]
      refine bsm_first (fun i => - sco (l.getD i 0) k) (l.length - 1) _ ?_
      show _ < fst' l k
      rw [← eb]
      split <;> split <;> omega
  rw [this, hsrc, eb]

/-- The number of a key. -/
def jx (k : Nat) : Nat → Nat
  | 0 => k
  | n + 1 => (jx k n * 13 + 7) % 97
/-- The server of so many to which a key jumps. -/
def ja (k : Nat) : Nat → Nat
  | 0 => 0
  | n + 1 => if n ≠ 0 ∧ jx k n % (n + 1) = 0 then n else ja k n
theorem jx_lt (k n : Nat) (hk : k < 97) : jx k n < 97 := by
  cases n with
  | zero => exact hk
  | succ n => rw [jx]; omega
/-- JumpTo. -/
def JT (k n : Int) : Int := if (0 ≤ k ∧ k ≤ 63) ∧ 1 ≤ n ∧ n ≤ 20 then (ja k.toNat n.toNat : Int) else -1
theorem JT_no {k n : Int} (h : ¬ ((0 ≤ k ∧ k ≤ 63) ∧ 1 ≤ n ∧ n ≤ 20)) : JT k n = -1 := by unfold JT; rw [if_neg h]
theorem JT_yes {k n : Nat} (hk : k ≤ 63) (h1 : 1 ≤ n) (h2 : n ≤ 20) : JT k n = (ja k n : Int) := by
  unfold JT; rw [if_pos (by omega)]; simp
theorem JT_ok {k n : Int} (h : ¬ JT k n < 0) : (0 ≤ k ∧ k ≤ 63) ∧ 1 ≤ n ∧ n ≤ 20 := by
  refine Decidable.byContradiction fun hn => h ?_
  rw [JT_no hn]; omega
theorem JT_law {k n : Int} (h : ¬ JT k n < 0) : (n = 1 ∧ JT k n = 0) ∨ (1 < n ∧ (JT k n = n - 1 ∨ JT k n = JT k (n - 1))) := by
  have h2 := JT_ok h
  obtain ⟨k', rfl⟩ : ∃ k' : Nat, k = k' := ⟨k.toNat, by omega⟩
  obtain ⟨n', rfl⟩ : ∃ n' : Nat, n = (n' + 1 : Nat) := ⟨(n - 1).toNat, by omega⟩
  by_cases e : n' = 0
  · subst e; left
    refine ⟨rfl, ?_⟩
    rw [JT_yes (by omega) (by omega) (by omega)]; simp [ja]
  · right
    refine ⟨by omega, ?_⟩
    rw [JT_yes (by omega) (by omega) (by omega), show ((n' + 1 : Nat) : Int) - 1 = (n' : Nat) from by omega, JT_yes (by omega) (by omega) (by omega), ja]
    split
    · left; rfl
    · right; rfl
end Go.Proofs.Ytoaiaindcmihjaa
