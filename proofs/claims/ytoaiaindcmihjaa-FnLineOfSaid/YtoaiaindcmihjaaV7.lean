/-
  The plain mathematics of chapter 5: guesses and sketches.
-/
import Derived.Test.YtoaiaindcmihjaaV5
import Derived.Test.YtoaiaindcmihjaaV6
namespace Go.Proofs.Ytoaiaindcmihjaa

/-- A row of n counts. -/
def RowOK (n : Nat) (r : List Int) : Prop := r.length = n ∧ ∀ k, k < r.length → 0 ≤ r.getD k 0 ∧ r.getD k 0 ≤ 100
instance (n : Nat) (r : List Int) : Decidable (RowOK n r) := by unfold RowOK; infer_instance
/-- The rows are counts. -/
def VRw (rows : List (List Int)) : Prop := (1 ≤ rows.length ∧ rows.length ≤ 4) ∧ (1 ≤ (rows.getD 0 []).length ∧ (rows.getD 0 []).length ≤ 16) ∧ ∀ i, i < rows.length → RowOK (rows.getD 0 []).length (rows.getD i [])
instance (rows : List (List Int)) : Decidable (VRw rows) := by unfold VRw; infer_instance
/-- The least number at the key's places in the first k rows. -/
def gm (rows : List (List Int)) (key : Int) : Nat → Int
  | 0 => 100
  | i + 1 => min (gm rows key i) ((rows.getD i []).getD (hs ((i : Int) + 1) i (rows.getD i []).length key).toNat 0)
def GSO (rows : List (List Int)) (key : Int) : Int := if VRw rows ∧ KR key = true then gm rows key rows.length else -1
theorem gm_range {rows : List (List Int)} {key : Int} (h : VRw rows) : ∀ k, k ≤ rows.length → 0 ≤ gm rows key k ∧ gm rows key k ≤ 100 := by
  intro k
  induction k with
  | zero => intro _; simp [gm]
  | succ k ih =>
    intro hk
    have h1 := ih (by omega)
    obtain ⟨hl, hr⟩ := h.2.2 k (by omega)
    have hb := h.2.1
    have hh := hs_range (a := (k : Int) + 1) (b := k) (m := (rows.getD k []).length) (k := key) (by rw [hl]; omega)
    have h2 := hr (hs ((k : Int) + 1) k (rows.getD k []).length key).toNat (by omega)
    simp only [gm]
    omega
theorem GSO_le (rows : List (List Int)) (key : Int) : GSO rows key ≤ 100 := by
  unfold GSO
  split
  · rename_i h; exact (gm_range h.1 _ (Nat.le_refl _)).2
  · omega
theorem gm_ge {rows : List (List Int)} {key n : Int} (hn : n ≤ 100) (h : ∀ i, i < rows.length → n ≤ (rows.getD i []).getD (hs ((i : Int) + 1) i (rows.getD i []).length key).toNat 0) : ∀ k, k ≤ rows.length → n ≤ gm rows key k := by
  intro k
  induction k with
  | zero => intro _; exact hn
  | succ k ih =>
    intro hk
    have h1 := ih (by omega)
    have h2 := h k (by omega)
    simp only [gm]; omega
theorem CKs_get {ways bits : Int} {keys : List Int} (h : VCK ways bits keys = true) : (CKs ways bits keys).length = ways.toNat ∧ ∀ i, i < ways.toNat → (CKs ways bits keys).getD i [] = crow bits.toNat i keys := by
  unfold CKs
  rw [if_pos h]
  refine ⟨by simp, fun i hi => by simp [List.getD, hi]⟩
/-- The counts of any keys are rows, and the guess of a key is no less than how often it comes. -/
theorem GSO_ge {ways bits key : Int} {keys : List Int} (h : VCK ways bits keys = true) (hk : KR key = true) : (keys.count key : Int) ≤ GSO (CKs ways bits keys) key := by
  obtain ⟨h1, h2⟩ := CKs_get h
  have h' : (1 ≤ ways ∧ ways ≤ 4) ∧ (1 ≤ bits ∧ bits ≤ 16) ∧ keys.length ≤ 8 ∧ ∀ x ∈ keys, 0 ≤ x ∧ x ≤ 30 := by unfold VCK at h; rwa [decide_eq_true_eq] at h
  have hc : keys.count key ≤ keys.length := List.count_le_length
  have hv : VRw (CKs ways bits keys) := by
    refine ⟨by omega, ?_, ?_⟩
    · rw [h2 0 (by omega), crow_len]; omega
    · intro i hi
      rw [h2 0 (by omega), h2 i (by omega), crow_len]
      refine ⟨crow_len _ _ _, fun k hk => ?_⟩
      rw [crow_len] at hk
      have := crow_le (i := i) hk keys
      omega
  unfold GSO
  rw [if_pos ⟨hv, hk⟩]
  refine gm_ge (by omega) (fun i hi => ?_) _ (Nat.le_refl _)
  rw [h1] at hi
  rw [h2 i hi, crow_len]
  exact crow_ge (by omega) keys key

/-- The things of an order are among n and different ones. -/
def VOn (n : Nat) (o : List Int) : Prop := ∀ i, i < o.length → (0 ≤ o.getD i 0 ∧ o.getD i 0 < n) ∧ o.getD i 0 ∉ o.take i
instance (n : Nat) (o : List Int) : Decidable (VOn n o) := by unfold VOn; infer_instance
/-- An order of n things, and a set of some of them. -/
def OK5 (n : Nat) (set : Int) (o : List Int) : Prop := o.length = n ∧ (1 ≤ n ∧ n ≤ 5) ∧ VOn n o ∧ 1 ≤ set ∧ set < ((2 ^ n : Nat) : Int)
instance (n : Nat) (set : Int) (o : List Int) : Decidable (OK5 n set o) := by unfold OK5; infer_instance
def VSK (os : List (List Int)) (set : Int) : Prop := os.length ≤ 6 ∧ ∀ i, i < os.length → OK5 (os.getD 0 []).length set (os.getD i [])
instance (os : List (List Int)) (set : Int) : Decidable (VSK os set) := by unfold VSK; infer_instance
def SKO (os : List (List Int)) (set : Int) : List Int := if VSK os set then os.map (fi set.toNat) else []

theorem full_of : ∀ (l1 l2 : List Int), l1.Nodup → (∀ x ∈ l1, x ∈ l2) → l2.length ≤ l1.length → ∀ y ∈ l2, y ∈ l1 := by
  intro l1
  induction l1 with
  | nil => intro l2 _ _ h y hy; have := List.length_pos_of_mem hy; rw [List.length_nil] at h; omega
  | cons x r ih =>
    intro l2 hn hs hl y hy
    by_cases e : y = x
    · subst e; simp
    · have hx := hs x (by simp)
      have := ih (l2.erase x) (List.nodup_cons.1 hn).2 (fun z hz => by
        rw [List.mem_erase_of_ne]
        · exact hs z (by simp [hz])
        · intro e2; subst e2; exact (List.nodup_cons.1 hn).1 hz) (by rw [List.length_erase_of_mem hx]; simp at hl; omega) y ((List.mem_erase_of_ne e).2 hy)
      simp [this]
theorem take_snocD {l : List Int} {k : Nat} (h : k < l.length) : l.take (k + 1) = l.take k ++ [l.getD k 0] := by
  rw [List.take_succ_eq_append_getElem h]; simp [List.getD, h]
theorem VOn.nodup {n : Nat} {o : List Int} (h : VOn n o) : ∀ k, k ≤ o.length → (o.take k).Nodup ∧ ∀ x ∈ o.take k, 0 ≤ x ∧ x < n := by
  intro k
  induction k with
  | zero => intro _; simp
  | succ k ih =>
    intro hk
    obtain ⟨h1, h2⟩ := ih (by omega)
    obtain ⟨h3, h4⟩ := h k (by omega)
    rw [take_snocD (by omega)]
    refine ⟨?_, fun x hx => ?_⟩
    · rw [List.nodup_append]
      refine ⟨h1, by simp, fun x hx y hy e => ?_⟩
      rw [List.mem_singleton] at hy
      subst hy; subst e; exact h4 hx
    · rcases List.mem_append.1 hx with h | h
      · exact h2 x h
      · rw [List.mem_singleton] at h; subst h; exact h3
theorem VOn.all {n : Nat} {o : List Int} (h : VOn n o) : o.Nodup ∧ ∀ x ∈ o, 0 ≤ x ∧ x < n := by
  have := h.nodup o.length (Nat.le_refl _)
  rwa [List.take_length] at this
theorem VOn.full {n : Nat} {o : List Int} (h : VOn n o) (hl : o.length = n) {x : Int} (h0 : 0 ≤ x) (hx : x < n) : x ∈ o := by
  refine full_of o (lft n []) h.all.1 (fun y hy => ?_) (by rw [lft_nil_len]; omega) x ?_
  · rw [lft_mem]; exact ⟨h.all.2 y hy, by simp⟩
  · rw [lft_mem]; exact ⟨⟨h0, hx⟩, by simp⟩
theorem VOn.snoc {n : Nat} {o : List Int} {k : Nat} (h : ∀ i, i < k → (0 ≤ o.getD i 0 ∧ o.getD i 0 < n) ∧ o.getD i 0 ∉ o.take i) (h1 : (0 ≤ o.getD k 0 ∧ o.getD k 0 < n) ∧ o.getD k 0 ∉ o.take k) : ∀ i, i < k + 1 → (0 ≤ o.getD i 0 ∧ o.getD i 0 < n) ∧ o.getD i 0 ∉ o.take i := by
  intro i hi
  by_cases e : i = k
  · subst e; exact h1
  · exact h i (by omega)
/-- A set of some of n things meets each of their orders. -/
theorem OK5.fi {n : Nat} {set : Int} {o : List Int} (h : OK5 n set o) : fi set.toNat o ∈ o ∧ set.toNat.testBit (fi set.toNat o).toNat = true := by
  obtain ⟨h1, h2, h3, h4, h5⟩ := h
  obtain ⟨j, hj, hb⟩ := has_bit (s := set.toNat) (n := n) (by omega) (by omega)
  exact fi_in ⟨(j : Int), h3.full h1 (by omega) (by omega), by rw [Int.toNat_natCast]; exact hb⟩
theorem SKO_len (os : List (List Int)) (set : Int) : (SKO os set).length ≤ 1048586 := by
  unfold SKO
  split
  · rename_i h; rw [List.length_map]; have := h.1; omega
  · simp
theorem SKO_nil (set : Int) : SKO [] set = [] := by unfold SKO; split <;> rfl
theorem VSK.mono {os : List (List Int)} {set t : Int} (h : VSK os set) (h1 : 1 ≤ t) (h2 : ∀ n, 1 ≤ n → set < ((2 ^ n : Nat) : Int) → t < ((2 ^ n : Nat) : Int)) : VSK os t := by
  refine ⟨h.1, fun i hi => ?_⟩
  obtain ⟨a1, a2, a3, a4, a5⟩ := h.2 i hi
  exact ⟨a1, a2, a3, h1, h2 _ a2.1 a5⟩
theorem or_one_lt {s n : Nat} (hn : 1 ≤ n) (h : s < 2 ^ n) : s ||| 1 < 2 ^ n := Nat.or_lt_two_pow h (by have := Nat.pow_le_pow_right (n := 2) (by omega) hn; omega)
theorem VSK.one {os : List (List Int)} {set : Int} (h : VSK os set) : VSK os 1 := h.mono (by omega) (fun n hn _ => by have := Nat.pow_le_pow_right (n := 2) (by omega) hn; omega)
theorem VSK.both {os : List (List Int)} {set : Int} (h : VSK os set) (hs : 1 ≤ set) : VSK os ((set.toNat ||| 1 : Nat) : Int) :=
  h.mono (by have := @Nat.right_le_or set.toNat 1; omega) (fun n hn h2 => by have := or_one_lt (s := set.toNat) hn (by omega); omega)
/-- The law of SketchOf. -/
theorem SKO_law {os : List (List Int)} {set : Int} (h : VSK os set) (hs : 1 ≤ set) {i : Nat} (hi : i < os.length) :
    set.toNat.testBit ((SKO os set).getD i 0).toNat = true ∧ (0 ≤ (SKO os set).getD i 0 ∧ (SKO os set).getD i 0 ≤ 4) ∧ ((SKO os ((set.toNat ||| 1 : Nat) : Int)).getD i 0 = (SKO os set).getD i 0 ∨ (SKO os ((set.toNat ||| 1 : Nat) : Int)).getD i 0 = (SKO os 1).getD i 0) := by
  have e : ∀ t, VSK os t → (SKO os t).getD i 0 = fi t.toNat (os.getD i []) := fun t ht => by
    unfold SKO; rw [if_pos ht]; simp [List.getD, hi]
  rw [e _ h, e _ h.one, e _ (h.both hs), Int.toNat_natCast]
  have ok := h.2 i hi
  have h1 := ok.fi
  have h2 := ok.2.2.1.all.2 _ h1.1
  refine ⟨h1.2, ?_, fi_or _ _ _⟩
  have := ok.2.1
  omega
theorem SKO_get_len {os : List (List Int)} {set : Int} (h : VSK os set) : (SKO os set).length = os.length := by
  unfold SKO; rw [if_pos h]; simp
end Go.Proofs.Ytoaiaindcmihjaa
