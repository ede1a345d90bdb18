/-
  The plain mathematics of chapter 2: two homes; the groups of slots; room.
-/
namespace Go.Proofs.Ytjkcahmbocjacaa

def pA (l : List (Int × Int)) (k : Nat) : Int := (l.getD k (0, 0)).1
def pB (l : List (Int × Int)) (k : Nat) : Int := (l.getD k (0, 0)).2
theorem pA_eq {l : List (Int × Int)} {k : Nat} (h : k < l.length) : pA l k = l[k].1 := by simp [pA, List.getD, h]
theorem pB_eq {l : List (Int × Int)} {k : Nat} (h : k < l.length) : pB l k = l[k].2 := by simp [pB, List.getD, h]

/-- ValidPairs, as a function of Lean. -/
def VP (m : Int) (l : List (Int × Int)) : Bool :=
  decide (1 ≤ m) && decide (m ≤ 10) && decide (l.length ≤ 8) && l.all fun p => decide (0 ≤ p.1) && decide (p.1 < m) && decide (0 ≤ p.2) && decide (p.2 < m)

/-- The homes of the first k pairs are in range. -/
def FitP (m : Int) (l : List (Int × Int)) (k : Nat) : Prop := ∀ i, i < k → (0 ≤ pA l i ∧ pA l i < m) ∧ 0 ≤ pB l i ∧ pB l i < m

theorem VP_iff {m : Int} {l : List (Int × Int)} : VP m l = true ↔ 1 ≤ m ∧ m ≤ 10 ∧ l.length ≤ 8 ∧ FitP m l l.length := by
  have e : (∀ p ∈ l, (((0 ≤ p.1 ∧ p.1 < m) ∧ 0 ≤ p.2) ∧ p.2 < m)) ↔ FitP m l l.length := by
    constructor
    · intro h i hi
      have := h l[i] (List.getElem_mem hi)
      rw [pA_eq hi, pB_eq hi]
      omega
    · intro h p hp
      obtain ⟨i, hi, rfl⟩ := List.getElem_of_mem hp
      have := h i hi
      rw [pA_eq hi, pB_eq hi] at this
      omega
  simp only [VP, Bool.and_eq_true, decide_eq_true_eq, List.all_eq_true, and_assoc] at e ⊢
  rw [e]
theorem VP_false {m : Int} {l : List (Int × Int)} (h : ¬ (1 ≤ m ∧ m ≤ 10 ∧ l.length ≤ 8 ∧ FitP m l l.length)) : VP m l = false := by
  rw [← VP_iff] at h; simpa using h
theorem FitP.succ {m : Int} {l : List (Int × Int)} {k : Nat} (h : FitP m l k) (h1 : 0 ≤ pA l k) (h2 : pA l k < m) (h3 : 0 ≤ pB l k) (h4 : pB l k < m) : FitP m l (k + 1) := by
  intro i hi
  by_cases e : i = k
  · subst e; exact ⟨⟨h1, h2⟩, h3, h4⟩
  · exact h i (by omega)
theorem FitP.zero (m : Int) (l : List (Int × Int)) : FitP m l 0 := fun i hi => by omega
theorem notFitP {m : Int} {l : List (Int × Int)} {k : Nat} (hk : k < l.length) (h : ¬ (((0 ≤ pA l k ∧ pA l k < m) ∧ 0 ≤ pB l k ∧ pB l k < m))) : VP m l = false :=
  VP_false fun hh => h (hh.2.2.2 k hk)

structure Prs (M : Nat) (l : List (Int × Int)) : Prop where
  pos : 1 ≤ M
  le : M ≤ 10
  len : l.length ≤ 8
  fit : FitP M l l.length
theorem Prs.of_VP {m : Int} {l : List (Int × Int)} (h : VP m l = true) : ∃ M : Nat, m = M ∧ Prs M l := by
  have hh := VP_iff.1 h
  refine ⟨m.toNat, by omega, ?_, ?_, hh.2.2.1, ?_⟩
  · omega
  · omega
  · have : ((m.toNat : Nat) : Int) = m := by omega
    rw [this]; exact hh.2.2.2
theorem Prs.VP {M : Nat} {l : List (Int × Int)} (h : Prs M l) : VP M l = true := VP_iff.2 ⟨by have := h.pos; omega, by have := h.le; omega, h.len, h.fit⟩

/-- The home A, B of key k as a slot. -/
def hA (l : List (Int × Int)) (k : Nat) : Nat := (pA l k).toNat
def hB (l : List (Int × Int)) (k : Nat) : Nat := (pB l k).toNat
theorem Prs.cA {M : Nat} {l : List (Int × Int)} (h : Prs M l) {k : Nat} (hk : k < l.length) : pA l k = (hA l k : Int) := by have := (h.fit k hk).1; unfold hA; omega
theorem Prs.cB {M : Nat} {l : List (Int × Int)} (h : Prs M l) {k : Nat} (hk : k < l.length) : pB l k = (hB l k : Int) := by have := (h.fit k hk).2; unfold hB; omega
theorem Prs.lA {M : Nat} {l : List (Int × Int)} (h : Prs M l) {k : Nat} (hk : k < l.length) : hA l k < M := by have := (h.fit k hk).1; unfold hA; omega
theorem Prs.lB {M : Nat} {l : List (Int × Int)} (h : Prs M l) {k : Nat} (hk : k < l.length) : hB l k < M := by have := (h.fit k hk).2; unfold hB; omega

/-- Slots that every function which is the same at both homes of each key does not part. -/
def Conn (l : List (Int × Int)) (s t : Nat) : Prop := ∀ X : Nat → Int, (∀ k, k < l.length → X (hA l k) = X (hB l k)) → X s = X t
theorem Conn.refl (l : List (Int × Int)) (s : Nat) : Conn l s s := fun _ _ => rfl
theorem Conn.symm {l : List (Int × Int)} {s t : Nat} (h : Conn l s t) : Conn l t s := fun X hX => (h X hX).symm
theorem Conn.trans {l : List (Int × Int)} {s t u : Nat} (h : Conn l s t) (h' : Conn l t u) : Conn l s u := fun X hX => (h X hX).trans (h' X hX)
theorem Conn.pair {l : List (Int × Int)} {k : Nat} (h : k < l.length) : Conn l (hA l k) (hB l k) := fun _ hX => hX k h

structure Grp (M : Nat) (l : List (Int × Int)) (X : List Int) : Prop where
  len : X.length = M
  le : ∀ s, s < M → 0 ≤ X.getD s 0 ∧ X.getD s 0 ≤ s
  conn : ∀ s, s < M → Conn l s (X.getD s 0).toNat
/-- The first k keys have homes of one group. -/
def Same (l : List (Int × Int)) (X : List Int) (k : Nat) : Prop := ∀ i, i < k → X.getD (hA l i) 0 = X.getD (hB l i) 0
theorem Same.zero (l : List (Int × Int)) (X : List Int) : Same l X 0 := fun i hi => by omega
theorem Same.succ {l : List (Int × Int)} {X : List Int} {k : Nat} (h : Same l X k) (h1 : X.getD (hA l k) 0 = X.getD (hB l k) 0) : Same l X (k + 1) := by
  intro i hi
  by_cases e : i = k
  · subst e; exact h1
  · exact h i (by omega)

theorem Grp.uniq {M : Nat} {l : List (Int × Int)} {X Y : List Int} (h : Grp M l X) (hs : Same l X l.length) (h' : Grp M l Y) (hs' : Same l Y l.length) : X = Y := by
  refine List.ext_getElem (by rw [h.len, h'.len]) fun s h1 h2 => ?_
  have hM : s < M := by rw [← h.len]; exact h1
  have a := h'.conn s hM (fun t => X.getD t 0) hs
  have b := h.conn s hM (fun t => Y.getD t 0) hs'
  have c := h.le s hM
  have d := h'.le s hM
  have e := h.le (Y.getD s 0).toNat (by omega)
  have f := h'.le (X.getD s 0).toNat (by omega)
  have gX : X.getD s 0 = X[s] := by simp [List.getD, h1]
  have gY : Y.getD s 0 = Y[s] := by simp [List.getD, h2]
  omega

/-- Two groups become the one of the least slot. -/
def join (X : List Int) (x y : Int) : List Int := X.map fun g => if g = x ∨ g = y then min x y else g
theorem join_len (X : List Int) (x y : Int) : (join X x y).length = X.length := by simp [join]
theorem join_get {X : List Int} {x y : Int} {s : Nat} (h : s < X.length) : (join X x y).getD s 0 = if X.getD s 0 = x ∨ X.getD s 0 = y then min x y else X.getD s 0 := by
  simp [join, List.getD, h]

/-- The groups of the slots by the first k keys. -/
def gr (M : Nat) (l : List (Int × Int)) : Nat → List Int
  | 0 => (List.range M).map fun s : Nat => (s : Int)
  | k + 1 => join (gr M l k) ((gr M l k).getD (hA l k) 0) ((gr M l k).getD (hB l k) 0)
theorem gr_len (M : Nat) (l : List (Int × Int)) (k : Nat) : (gr M l k).length = M := by
  induction k with
  | zero => simp [gr]
  | succ k ih => simp [gr, join_len, ih]
theorem Grp.start (M : Nat) (l : List (Int × Int)) : Grp M l ((List.range M).map fun s : Nat => (s : Int)) := by
  have e : ∀ s, s < M → ((List.range M).map fun s : Nat => (s : Int)).getD s 0 = s := by
    intro s hs; simp [List.getD, hs]
  refine ⟨by simp, fun s hs => by rw [e s hs]; omega, fun s hs => ?_⟩
  rw [e s hs]
  exact Conn.refl _ _
theorem gr_inv {M : Nat} {l : List (Int × Int)} (h : Prs M l) (k : Nat) (hk : k ≤ l.length) : Grp M l (gr M l k) ∧ Same l (gr M l k) k := by
  induction k with
  | zero => exact ⟨Grp.start M l, Same.zero _ _⟩
  | succ k ih =>
    obtain ⟨g, s⟩ := ih (by omega)
    have ha := h.lA (k := k) (by omega)
    have hb := h.lB (k := k) (by omega)
    have la := g.le _ ha
    have lb := g.le _ hb
    have ca := g.conn _ ha
    have cb := g.conn _ hb
    have cp := Conn.pair (l := l) (k := k) (by omega)
    have hl := g.len
    obtain ⟨x, hx⟩ : ∃ x, (gr M l k).getD (hA l k) 0 = x := ⟨_, rfl⟩
    obtain ⟨y, hy⟩ : ∃ y, (gr M l k).getD (hB l k) 0 = y := ⟨_, rfl⟩
    have hJ : gr M l (k + 1) = join (gr M l k) x y := by rw [gr, hx, hy]
    rw [hJ]
    rw [hx] at la ca
    rw [hy] at lb cb
    refine ⟨⟨by rw [join_len, hl], fun t ht => ?_, fun t ht => ?_⟩, ?_⟩
    · rw [join_get (by omega)]
      have := g.le t ht
      split <;> omega
    · rw [join_get (by omega)]
      have ct := g.conn t ht
      split
      · rename_i hor
        have c1 : Conn l t x.toNat := by
          rcases hor with e | e
          · rw [e] at ct; exact ct
          · rw [e] at ct; exact ct.trans (cb.symm.trans (cp.symm.trans ca))
        by_cases hxy : x ≤ y
        · rw [Int.min_eq_left hxy]; exact c1
        · rw [Int.min_eq_right (by omega)]; exact c1.trans (ca.symm.trans (cp.trans cb))
      · exact ct
    · intro i hi
      have hia := h.lA (k := i) (by omega)
      have hib := h.lB (k := i) (by omega)
      rw [join_get (by omega), join_get (by omega)]
      by_cases e : i = k
      · subst e; rw [hx, hy]; simp
      · rw [s i (by omega)]

/-- GroupsOf of valid pairs. -/
def gra (M : Nat) (l : List (Int × Int)) : List Int := gr M l l.length
theorem gra_len (M : Nat) (l : List (Int × Int)) : (gra M l).length = M := gr_len M l _
theorem gra_eq {M : Nat} {l : List (Int × Int)} (h : Prs M l) {X : List Int} (g : Grp M l X) (s : Same l X l.length) : X = gra M l :=
  let ⟨a, b⟩ := gr_inv h l.length (Nat.le_refl _)
  g.uniq s a b
theorem gra_inv {M : Nat} {l : List (Int × Int)} (h : Prs M l) : Grp M l (gra M l) ∧ Same l (gra M l) l.length := gr_inv h l.length (Nat.le_refl _)

/-- GroupsOf, as a function of Lean. -/
def GO (m : Int) (l : List (Int × Int)) : List Int := if VP m l = true then gra m.toNat l else []
theorem GO_len (m : Int) (l : List (Int × Int)) : (GO m l).length ≤ 1048586 := by
  unfold GO
  split
  · rename_i h
    rw [gra_len]
    have := (VP_iff.1 h).2.1
    omega
  · simp

/-- joinGroups on its way: the first k slots are joined. -/
def joinK (X : List Int) (x y : Int) (k : Nat) : List Int := (join X x y).take k ++ X.drop k
theorem joinK_len (X : List Int) (x y : Int) (k : Nat) : (joinK X x y k).length = X.length := by
  simp [joinK, join_len]; omega
theorem joinK_zero (X : List Int) (x y : Int) : joinK X x y 0 = X := by simp [joinK]
theorem joinK_all (X : List Int) (x y : Int) : joinK X x y X.length = join X x y := by
  simp [joinK, List.take_of_length_le (Nat.le_of_eq (join_len X x y))]
theorem joinK_get {X : List Int} {x y : Int} {k : Nat} (h : k < X.length) : (joinK X x y k).getD k 0 = X.getD k 0 := by
  have e : ((join X x y).take k).length = k := by rw [List.length_take, join_len]; omega
  simp only [joinK, List.getD, List.getElem?_append, e]
  rw [if_neg (by omega)]
  simp
theorem joinK_succ {X : List Int} {x y : Int} {k : Nat} (h : k < X.length) : (joinK X x y k).set k (if X.getD k 0 = x ∨ X.getD k 0 = y then min x y else X.getD k 0) = joinK X x y (k + 1) := by
  have e : ((join X x y).take k).length = k := by rw [List.length_take, join_len]; omega
  unfold joinK
  rw [List.set_append_right _ _ (by omega), e, Nat.sub_self, List.drop_eq_getElem_cons h, List.set_cons_zero]
  have e2 : (join X x y).take (k + 1) = (join X x y).take k ++ [if X.getD k 0 = x ∨ X.getD k 0 = y then min x y else X.getD k 0] := by
    rw [List.take_succ_eq_append_getElem (by rw [join_len]; exact h)]
    congr 2
    have := join_get (x := x) (y := y) h
    rw [← this]
    simp [List.getD, join_len, h]
  rw [e2]
  simp
theorem joinK_same {X : List Int} {x y : Int} {k : Nat} (h : k < X.length) (hn : ¬ (X.getD k 0 = x ∨ X.getD k 0 = y)) : joinK X x y k = joinK X x y (k + 1) := by
  rw [← joinK_succ h, if_neg hn, ← joinK_get (x := x) (y := y) h]
  have hl : k < (joinK X x y k).length := by rw [joinK_len]; exact h
  refine (List.ext_getElem (by simp) fun i h1 h2 => ?_).symm
  rw [List.getElem_set]
  split
  · rename_i e; subst e; simp [List.getD, hl]
  · rfl

/-- A step of the other make: both slots get the lesser one of their numbers. -/
theorem Grp.lower {M : Nat} {l : List (Int × Int)} {X : List Int} (g : Grp M l X) (h : Prs M l) {k : Nat} (hk : k < l.length) {x : Int} (hx : x = min (X.getD (hA l k) 0) (X.getD (hB l k) 0)) :
    Grp M l ((X.set (hA l k) x).set (hB l k) x) := by
  have ha := h.lA hk
  have hb := h.lB hk
  have la := g.le _ ha
  have lb := g.le _ hb
  have ca := g.conn _ ha
  have cb := g.conn _ hb
  have cp := Conn.pair hk
  have hl := g.len
  have hxa : Conn l (hA l k) x.toNat := by
    by_cases e : X.getD (hA l k) 0 ≤ X.getD (hB l k) 0
    · rw [hx, Int.min_eq_left e]; exact ca
    · rw [hx, Int.min_eq_right (by omega)]; exact cp.trans cb
  have gt : ∀ t, t < M → ((X.set (hA l k) x).set (hB l k) x).getD t 0 = if t = hA l k ∨ t = hB l k then x else X.getD t 0 := by
    intro t ht
    simp only [List.getD, List.getElem?_set, List.length_set]
    by_cases e1 : hB l k = t
    · simp [e1, hl, ht]
    · by_cases e2 : hA l k = t
      · simp [e1, e2, hl, ht]
      · rw [if_neg e1, if_neg e2, if_neg (by omega)]
  refine ⟨by simp [hl], fun t ht => ?_, fun t ht => ?_⟩
  · rw [gt t ht]
    split
    · rename_i e; rcases e with e | e <;> subst e <;> omega
    · exact g.le t ht
  · rw [gt t ht]
    split
    · rename_i e
      rcases e with e | e
      · subst e; exact hxa
      · subst e; exact cp.symm.trans hxa
    · exact g.conn t ht

/-- What is left to lower. -/
def tot (X : List Int) : Nat := (X.map Int.toNat).sum
theorem tot_set {X : List Int} {k : Nat} {x : Int} (hk : k < X.length) : tot (X.set k x) + (X.getD k 0).toNat = tot X + x.toNat := by
  induction X generalizing k with
  | nil => simp at hk
  | cons y X ih =>
    cases k with
    | zero => simp [tot]; omega
    | succ k =>
      have := ih (k := k) (by simpa using hk)
      simp [tot, List.getD] at this ⊢
      omega
theorem tot_lower {M : Nat} {l : List (Int × Int)} {X : List Int} (g : Grp M l X) (h : Prs M l) {k : Nat} (hk : k < l.length) {x : Int} (hx : x = min (X.getD (hA l k) 0) (X.getD (hB l k) 0))
    (hne : X.getD (hA l k) 0 ≠ x ∨ X.getD (hB l k) 0 ≠ x) : tot ((X.set (hA l k) x).set (hB l k) x) < tot X := by
  have ha := h.lA hk
  have hb := h.lB hk
  have hl := g.len
  have la := g.le _ ha
  have lb := g.le _ hb
  have t1 := tot_set (X := X) (k := hA l k) (x := x) (by omega)
  have t2 := tot_set (X := X.set (hA l k) x) (k := hB l k) (x := x) (by simp; omega)
  by_cases e : hA l k = hB l k
  · have gb : (X.set (hA l k) x).getD (hB l k) 0 = x := by rw [← e]; simp [List.getD, hl, ha]
    rw [gb, ← e] at t2
    rw [← e] at hne lb hx
    rw [← e]
    omega
  · have gb : (X.set (hA l k) x).getD (hB l k) 0 = X.getD (hB l k) 0 := by simp [List.getD, List.getElem?_set, e]
    rw [gb] at t2
    omega

/-- How many slots, keys are in a group. -/
def cS (X : List Int) (g : Nat) : Nat := X.countP fun x => x == (g : Int)
def cK (l : List (Int × Int)) (X : List Int) (g : Nat) : Nat := l.countP fun p => X.getD p.1.toNat 0 == (g : Int)
/-- IsRoomy of valid pairs. -/
def rmy (M : Nat) (l : List (Int × Int)) : Bool := (List.range M).all fun g => decide (cK l (gra M l) g ≤ cS (gra M l) g)
theorem rmy_iff {M : Nat} {l : List (Int × Int)} : rmy M l = true ↔ ∀ g, g < M → cK l (gra M l) g ≤ cS (gra M l) g := by simp [rmy]
theorem rmy_no {M : Nat} {l : List (Int × Int)} {g : Nat} (h : g < M) (hn : cS (gra M l) g < cK l (gra M l) g) : rmy M l = false := by
  cases e : rmy M l with
  | false => rfl
  | true => have := rmy_iff.1 e g h; omega
/-- IsRoomy, as a function of Lean. -/
def IRm (m : Int) (l : List (Int × Int)) : Bool := VP m l && rmy m.toNat l
end Go.Proofs.Ytjkcahmbocjacaa
