/-
  The plain mathematics of chapter 2: the lists of room.
-/
import Derived.Test.YtlkhobofbkoliaaG1
namespace Go.Proofs.Ytlkhobofbkoliaa

theorem range_map_set {M y : Nat} {f : Nat → Int} {v : Int} (hy : y < M) : ((List.range M).map f).set y v = (List.range M).map fun g => if g = y then v else f g := by
  refine List.ext_getElem (by simp) fun i h1 h2 => ?_
  rw [List.getElem_set]
  simp only [List.getElem_map, List.getElem_range]
  by_cases e : y = i
  · subst e; simp
  · rw [if_neg e, if_neg (fun h => e h.symm)]
theorem range_map_get {M y : Nat} {f : Nat → Int} (hy : y < M) : ((List.range M).map f).getD y 0 = f y := by simp [List.getD, hy]
theorem countP_take_succ {α : Type} (p : α → Bool) (l : List α) (k : Nat) (h : k < l.length) : (l.take (k + 1)).countP p = (l.take k).countP p + if p l[k] then 1 else 0 := by
  rw [List.take_succ_eq_append_getElem h, List.countP_append, List.countP_singleton]

/-- The slots of each group among the first k slots. -/
def rm1 (M : Nat) (X : List Int) (k : Nat) : List Int := (List.range M).map fun g : Nat => (((X.take k).countP fun x => x == (g : Int) : Nat) : Int)
theorem rm1_len (M : Nat) (X : List Int) (k : Nat) : (rm1 M X k).length = M := by simp [rm1]
theorem rm1_zero (M : Nat) (X : List Int) : rm1 M X 0 = List.replicate M 0 := by
  unfold rm1
  refine List.ext_getElem (by simp) fun i h1 h2 => by simp
theorem rm1_bound {M : Nat} {X : List Int} {k y : Nat} (hy : y < M) : 0 ≤ (rm1 M X k).getD y 0 ∧ (rm1 M X k).getD y 0 ≤ X.length := by
  unfold rm1
  rw [range_map_get hy]
  have h1 := List.countP_le_length (p := fun x => x == (y : Int)) (l := X.take k)
  rw [List.length_take] at h1
  omega
theorem rm1_succ {M : Nat} {X : List Int} {k y : Nat} (hk : k < X.length) (hy : y < M) (e : X.getD k 0 = y) : (rm1 M X k).set y ((rm1 M X k).getD y 0 + 1) = rm1 M X (k + 1) := by
  have e' : X[k] = (y : Int) := by rw [← e]; simp [List.getD, hk]
  unfold rm1
  rw [range_map_get hy, range_map_set hy]
  refine List.map_congr_left fun g _ => ?_
  rw [countP_take_succ _ _ _ hk, e']
  by_cases h : g = y
  · subst h; simp
  · have : ¬ ((y : Int) == (g : Int)) = true := by simp; omega
    rw [if_neg h, if_neg this]; omega

/-- The room of each group behind the first i keys. -/
def rm2 (M : Nat) (X : List Int) (l : List (Int × Int)) (i : Nat) : List Int :=
  (List.range M).map fun g => ((cS X g : Nat) : Int) - (((l.take i).countP fun p => X.getD p.1.toNat 0 == (g : Int) : Nat) : Int)
theorem rm2_len (M : Nat) (X : List Int) (l : List (Int × Int)) (i : Nat) : (rm2 M X l i).length = M := by simp [rm2]
theorem rm2_zero (M : Nat) (X : List Int) (l : List (Int × Int)) : rm2 M X l 0 = rm1 M X X.length := by simp [rm2, rm1, cS]
theorem rm2_bound {M : Nat} {X : List Int} {l : List (Int × Int)} {i y : Nat} (hy : y < M) : -(l.length : Int) ≤ (rm2 M X l i).getD y 0 ∧ (rm2 M X l i).getD y 0 ≤ X.length := by
  unfold rm2
  rw [range_map_get hy]
  have h1 := List.countP_le_length (p := fun p : Int × Int => X.getD p.1.toNat 0 == (y : Int)) (l := l.take i)
  have h2 := List.countP_le_length (p := fun x => x == (y : Int)) (l := X)
  rw [List.length_take] at h1
  unfold cS
  omega
theorem rm2_succ {M : Nat} {X : List Int} {l : List (Int × Int)} {i y : Nat} (hi : i < l.length) (hy : y < M) (e : X.getD (hA l i) 0 = y) : (rm2 M X l i).set y ((rm2 M X l i).getD y 0 - 1) = rm2 M X l (i + 1) := by
  have e' : X.getD l[i].1.toNat 0 = (y : Int) := by rw [← e, hA, pA_eq hi]
  unfold rm2
  rw [range_map_get hy, range_map_set hy]
  refine List.map_congr_left fun g _ => ?_
  rw [countP_take_succ _ _ _ hi, e']
  by_cases h : g = y
  · subst h; simp; omega
  · have : ¬ ((y : Int) == (g : Int)) = true := by simp; omega
    rw [if_neg h, if_neg this]; omega
/-- The least room tells whether there is room. -/
theorem rmy_min {M : Nat} {l : List (Int × Int)} {x : Int} (hx : x ∈ rm2 M (gra M l) l l.length) (hm : ∀ y ∈ rm2 M (gra M l) l l.length, x ≤ y) : rmy M l = decide (0 ≤ x) := by
  have e : ∀ g, g < M → (((cS (gra M l) g : Nat) : Int) - ((cK l (gra M l) g : Nat) : Int)) ∈ rm2 M (gra M l) l l.length := by
    intro g hg
    unfold rm2
    rw [List.mem_map]
    exact ⟨g, by simpa using hg, by rw [List.take_length]; rfl⟩
  by_cases h : 0 ≤ x
  · rw [decide_eq_true h]
    refine rmy_iff.2 fun g hg => ?_
    have := hm _ (e g hg)
    omega
  · rw [decide_eq_false h]
    unfold rm2 at hx
    rw [List.mem_map] at hx
    obtain ⟨g, hg, he⟩ := hx
    rw [List.take_length] at he
    refine rmy_no (g := g) (by simpa using hg) ?_
    have : ((cS (gra M l) g : Nat) : Int) - ((cK l (gra M l) g : Nat) : Int) = x := he
    omega

/-- The counts on their way. -/
def nS (X : List Int) (g k : Nat) : Nat := (X.take k).countP fun x => x == (g : Int)
theorem nS_zero (X : List Int) (g : Nat) : nS X g 0 = 0 := by simp [nS]
theorem nS_all (X : List Int) (g : Nat) : nS X g X.length = cS X g := by simp [nS, cS]
theorem nS_yes {X : List Int} {g k : Nat} (h : k < X.length) (e : X.getD k 0 = g) : nS X g (k + 1) = nS X g k + 1 := by
  have e' : X[k] = (g : Int) := by rw [← e]; simp [List.getD, h]
  unfold nS; rw [countP_take_succ _ _ _ h, e']; simp
theorem nS_no {X : List Int} {g k : Nat} (h : k < X.length) (e : X.getD k 0 ≠ g) : nS X g (k + 1) = nS X g k := by
  have e' : ¬ (X[k] == (g : Int)) = true := by
    intro hh; apply e
    rw [beq_iff_eq] at hh
    rw [← hh]; simp [List.getD, h]
  unfold nS; rw [countP_take_succ _ _ _ h, if_neg e']; omega
theorem nS_le (X : List Int) (g k : Nat) : nS X g k ≤ X.length := by
  unfold nS
  have h1 := List.countP_le_length (p := fun x => x == (g : Int)) (l := X.take k)
  rw [List.length_take] at h1
  omega
def nK (l : List (Int × Int)) (X : List Int) (g k : Nat) : Nat := (l.take k).countP fun p => X.getD p.1.toNat 0 == (g : Int)
theorem nK_zero (l : List (Int × Int)) (X : List Int) (g : Nat) : nK l X g 0 = 0 := by simp [nK]
theorem nK_all (l : List (Int × Int)) (X : List Int) (g : Nat) : nK l X g l.length = cK l X g := by simp [nK, cK]
theorem nK_yes {l : List (Int × Int)} {X : List Int} {g k : Nat} (h : k < l.length) (e : X.getD (hA l k) 0 = g) : nK l X g (k + 1) = nK l X g k + 1 := by
  rw [hA, pA_eq h] at e
  unfold nK; rw [countP_take_succ _ _ _ h, e]; simp
theorem nK_no {l : List (Int × Int)} {X : List Int} {g k : Nat} (h : k < l.length) (e : X.getD (hA l k) 0 ≠ g) : nK l X g (k + 1) = nK l X g k := by
  rw [hA, pA_eq h] at e
  have e' : ¬ (X.getD l[k].1.toNat 0 == (g : Int)) = true := by simpa using e
  unfold nK; rw [countP_take_succ _ _ _ h, if_neg e']; omega
theorem nK_le (l : List (Int × Int)) (X : List Int) (g k : Nat) : nK l X g k ≤ l.length := by
  unfold nK
  have h1 := List.countP_le_length (p := fun p : Int × Int => X.getD p.1.toNat 0 == (g : Int)) (l := l.take k)
  rw [List.length_take] at h1
  omega
/-- The first groups have room. -/
theorem rmy_yes {M : Nat} {l : List (Int × Int)} (h : ∀ g, g < M → cK l (gra M l) g ≤ cS (gra M l) g) : rmy M l = true := rmy_iff.2 h
end Go.Proofs.Ytlkhobofbkoliaa
