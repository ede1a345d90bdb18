/-
  The plain mathematics of chapter 5: all orders of some things, and how often two sets meet.
-/
import Derived.Test.YtoaiaindcmihjaaV3
namespace Go.Proofs.Ytoaiaindcmihjaa

/-- All orders of f of the things. -/
def ors : Nat → List Int → List (List Int)
  | 0, _ => [[]]
  | f + 1, L => L.flatMap fun x => (ors f (L.erase x)).map (x :: ·)
theorem ors_zero (L : List Int) : ors 0 L = [[]] := rfl
theorem ors_succ (f : Nat) (L : List Int) : ors (f + 1) L = L.flatMap fun x => (ors f (L.erase x)).map (x :: ·) := rfl
theorem ors_mem : ∀ f (L : List Int), L.length = f → L.Nodup → ∀ o ∈ ors f L, o.length = f ∧ ∀ x, x ∈ o ↔ x ∈ L := by
  intro f
  induction f with
  | zero =>
    intro L hL _ o ho
    obtain rfl := List.eq_nil_of_length_eq_zero hL
    simp [ors] at ho; subst ho; simp
  | succ f ih =>
    intro L hL hn o ho
    rw [ors_succ, List.mem_flatMap] at ho
    obtain ⟨x, hx, ho⟩ := ho
    rw [List.mem_map] at ho
    obtain ⟨o', ho', rfl⟩ := ho
    have h1 : (L.erase x).length = f := by rw [List.length_erase_of_mem hx]; omega
    obtain ⟨h2, h3⟩ := ih _ h1 (hn.erase x) o' ho'
    refine ⟨by simp [h2], fun y => ?_⟩
    rw [List.mem_cons, h3, hn.mem_erase_iff]
    constructor
    · rintro (rfl | ⟨_, h⟩)
      · exact hx
      · exact h
    · intro h
      by_cases e : y = x
      · exact .inl e
      · exact .inr ⟨e, h⟩
/-- How many orders have the same first thing of both sets. -/
def mts (a b : Nat) (os : List (List Int)) : Nat := os.countP fun o => decide (fi a o = fi b o)
theorem fi_append (s : Nat) (u v : List Int) : fi s (u ++ v) = if (∃ x ∈ u, s.testBit x.toNat = true) then fi s u else fi s v := by
  induction u with
  | nil => simp
  | cons x r ih =>
    simp only [List.cons_append, fi]
    by_cases e : s.testBit x.toNat = true
    · rw [if_pos e, if_pos e, if_pos ⟨x, by simp, e⟩]
    · rw [if_neg e, if_neg e, ih]
      by_cases h : ∃ y ∈ r, s.testBit y.toNat = true
      · rw [if_pos h, if_pos]
        obtain ⟨y, hy, h2⟩ := h
        exact ⟨y, by simp [hy], h2⟩
      · rw [if_neg h, if_neg]
        rintro ⟨y, hy, h2⟩
        rcases List.mem_cons.1 hy with rfl | hy
        · exact e h2
        · exact h ⟨y, hy, h2⟩
/-- The model's count is that of the orders. -/
def mfr (n a b f : Nat) (head : List Int) (xs : List Nat) (acc : Nat × Nat) : Nat × Nat :=
  xs.foldl (fun acc (x : Nat) => if head.contains (x : Int) then acc else ((acc.1 + (mf n a b f (head ++ [(x : Int)])).1), (acc.2 + (mf n a b f (head ++ [(x : Int)])).2))) acc
theorem mf_succ (n a b f : Nat) (head : List Int) : mf n a b (f + 1) head = mfr n a b f head (List.range n) (0, 0) := rfl
/-- The things that are left. -/
def lft (n : Nat) (head : List Int) : List Int := ((List.range n).map fun x : Nat => (x : Int)).filter fun x => !head.contains x
theorem lft_nodup (n : Nat) (head : List Int) : (lft n head).Nodup := by
  unfold lft
  have h : List.Pairwise (· ≠ ·) ((List.range n).map fun x : Nat => (x : Int)) := by
    rw [List.pairwise_map]
    exact List.Pairwise.imp (fun h e => h (by omega)) (List.nodup_range (n := n))
  exact h.filter _
theorem lft_mem {n : Nat} {head : List Int} {x : Int} : x ∈ lft n head ↔ (0 ≤ x ∧ x < n) ∧ x ∉ head := by
  unfold lft
  simp only [List.mem_filter, List.mem_map, List.mem_range, Bool.not_eq_true', List.contains_eq_mem, decide_eq_false_iff_not]
  constructor
  · rintro ⟨⟨y, hy, rfl⟩, h⟩; exact ⟨by omega, h⟩
  · rintro ⟨h1, h⟩; exact ⟨⟨x.toNat, by omega, by omega⟩, h⟩
theorem lft_snoc (n : Nat) (head : List Int) (x : Int) : lft n (head ++ [x]) = (lft n head).erase x := by
  rw [(lft_nodup n head).erase_eq_filter]
  unfold lft
  rw [List.filter_filter]
  apply List.filter_congr
  intro y _
  simp only [List.contains_eq_mem, List.mem_append, List.mem_singleton]
  by_cases h1 : y ∈ head <;> by_cases h2 : y = x <;> simp [h1, h2]
theorem mf_is (n a b : Nat) : ∀ f head, mf n a b f head = (mts a b ((ors f (lft n head)).map (head ++ ·)), ((ors f (lft n head)).length : Nat)) := by
  intro f
  induction f with
  | zero =>
    intro head
    simp only [mf, ors, List.map_cons, List.map_nil, List.append_nil, mts, List.countP_cons, List.countP_nil, List.length_cons, List.length_nil, decide_eq_true_eq]
    split <;> rfl
  | succ f ih =>
    intro head
    rw [mf_succ, ors_succ]
    have key : ∀ (xs : List Nat) acc, mfr n a b f head xs acc = (acc.1 + mts a b (((((xs.map fun x : Nat => (x : Int)).filter fun x => !head.contains x)).flatMap fun x => (ors f ((lft n head).erase x)).map (x :: ·)).map (head ++ ·)), acc.2 + ((((xs.map fun x : Nat => (x : Int)).filter fun x => !head.contains x)).flatMap fun x => (ors f ((lft n head).erase x)).map (x :: ·)).length) := by
      intro xs
      induction xs with
      | nil => intro acc; simp [mfr, mts]
      | cons x xs ihx =>
        intro acc
        unfold mfr at ihx ⊢
        rw [List.foldl_cons, ihx]
        by_cases hc : head.contains (x : Int) = true
        · simp only [hc, if_true, List.map_cons]
          rw [List.filter_cons_of_neg (by simpa using hc)]
        · rw [if_neg hc]
          simp only [List.map_cons]
          rw [List.filter_cons_of_pos (by simpa using hc), List.flatMap_cons, ih, lft_snoc]
          have e : (ors f ((lft n head).erase (x : Int))).map (head ++ [(x : Int)] ++ ·) = (((ors f ((lft n head).erase (x : Int))).map ((x : Int) :: ·)).map (head ++ ·)) := by
            rw [List.map_map]
            apply List.map_congr_left
            intro o _
            simp
          rw [e]
          simp only [List.map_append, mts, List.countP_append, List.length_append, List.length_map]
          simp only [Prod.mk.injEq]
          constructor <;> omega
    rw [key (List.range n) (0, 0)]
    simp only [Nat.zero_add]
    rfl
/-- What MeetCount answers. -/
def MCo (n a b : Int) : Bool := decide ((1 ≤ n ∧ n ≤ 5) ∧ (1 ≤ a ∧ a < ((2 ^ n.toNat : Nat) : Int)) ∧ (1 ≤ b ∧ b < ((2 ^ n.toNat : Nat) : Int)))
theorem MCo_iff {n a b : Int} : MCo n a b = true ↔ (1 ≤ n ∧ n ≤ 5) ∧ (1 ≤ a ∧ a < ((2 ^ n.toNat : Nat) : Int)) ∧ (1 ≤ b ∧ b < ((2 ^ n.toNat : Nat) : Int)) := by unfold MCo; rw [decide_eq_true_eq]
def MC1 (n a b : Int) : Int := if MCo n a b = true then ((mf n.toNat a.toNat b.toNat n.toNat []).1 : Int) else -1
def MC2 (n a b : Int) : Int := if MCo n a b = true then ((mf n.toNat a.toNat b.toNat n.toNat []).2 : Int) else -1
theorem ors_len : ∀ f (L : List Int), L.length = f → (ors f L).length ≤ f ^ f := by
  intro f
  induction f with
  | zero => intro L _; simp [ors]
  | succ f ih =>
    intro L hL
    rw [ors_succ, List.length_flatMap]
    have key : ∀ l : List Int, (∀ x ∈ l, x ∈ L) → (l.map fun x => ((ors f (L.erase x)).map (x :: ·)).length).sum ≤ l.length * f ^ f := by
      intro l
      induction l with
      | nil => intro _; simp
      | cons x l ihl =>
        intro h
        have h1 := ihl (fun y hy => h y (by simp [hy]))
        have h2 := ih (L.erase x) (by rw [List.length_erase_of_mem (h x (by simp))]; omega)
        simp only [List.map_cons, List.sum_cons, List.length_map, List.length_cons] at h1 ⊢
        rw [Nat.add_mul, Nat.one_mul]; omega
    have h1 := key L (fun _ h => h)
    rw [hL] at h1
    refine Nat.le_trans h1 ?_
    rw [Nat.pow_succ, Nat.mul_comm]
    exact Nat.mul_le_mul_right _ (Nat.pow_le_pow_left (by omega) f)
theorem lft_nil (n : Nat) : lft n [] = (List.range n).map fun x : Nat => (x : Int) := by
  unfold lft
  rw [List.filter_eq_self]
  intro x _; rfl
theorem lft_nil_len (n : Nat) : (lft n []).length = n := by rw [lft_nil]; simp
theorem MC_is {n a b : Int} (h : MCo n a b = true) : MC1 n a b = (mts a.toNat b.toNat (ors n.toNat (lft n.toNat [])) : Int) ∧ MC2 n a b = ((ors n.toNat (lft n.toNat [])).length : Int) := by
  unfold MC1 MC2
  rw [if_pos h, if_pos h, mf_is]
  simp
theorem mts_le (a b : Nat) (os : List (List Int)) : mts a b os ≤ os.length := List.countP_le_length
/-- A sum that grows one order at a time. -/
theorem mts_snoc (a b : Nat) (os : List (List Int)) (k : Nat) (h : k < os.length) : mts a b (os.take (k + 1)) = mts a b (os.take k) + if fi a os[k] = fi b os[k] then 1 else 0 := by
  unfold mts
  rw [List.take_succ_eq_append_getElem h, List.countP_append, List.countP_singleton]
  simp
theorem mf_le : ∀ n a b f head, (mf n a b f head).1 ≤ (mf n a b f head).2 := by
  intro n a b f head
  rw [mf_is]
  have := mts_le a b ((ors f (lft n head)).map (head ++ ·))
  rw [List.length_map] at this
  exact this
end Go.Proofs.Ytoaiaindcmihjaa
