/-
  Chapter 3's laws in plain mathematics: few functions let two keys meet, as many for all; the averages; as many slots as the prime, and one.
-/
import Derived.Test.YtoaiaindcmihjaaGreatDoorC1
namespace Go.Proofs.YtoaiaindcmihjaaGreatDoor

theorem mul31 : ∀ a : Fin 31, ∀ d : Fin 31, 0 < a.val → 0 < d.val → (a.val * d.val) % 31 ≠ 0 := by decide +kernel
theorem inj31 {a b x y : Int} (ha : 1 ≤ a) (ha' : a ≤ 30) (hx : 0 ≤ x) (hx' : x ≤ 30) (hy : 0 ≤ y) (hy' : y ≤ 30) (h : (a * x + b) % 31 = (a * y + b) % 31) : x = y := by
  obtain ⟨A, rfl⟩ := Int.eq_ofNat_of_zero_le (show 0 ≤ a by omega)
  have key : ∀ u v : Int, 0 ≤ v → v < u → u ≤ 30 → ((A : Int) * u + b) % 31 = ((A : Int) * v + b) % 31 → False := by
    intro u v hv huv hu he
    obtain ⟨D, hD⟩ := Int.eq_ofNat_of_zero_le (show 0 ≤ u - v by omega)
    have h1 : ((A : Int) * u - (A : Int) * v) % 31 = 0 := by omega
    rw [← Int.mul_sub, hD] at h1
    have h2 := mul31 ⟨A, by omega⟩ ⟨D, by omega⟩ (by simp; omega) (by simp; omega)
    apply h2
    simp only
    have : ((A * D : Nat) : Int) % 31 = 0 := by rw [Int.natCast_mul]; exact h1
    omega
  rcases Int.lt_trichotomy x y with hlt | he | hlt
  · exact (key y x hx hlt hy' h.symm).elim
  · exact he
  · exact (key x y hy hlt hx' h).elim

theorem nodup_map {l : List Int} {f : Int → Int} (h : l.Nodup) (hi : ∀ x ∈ l, ∀ y ∈ l, f x = f y → x = y) : (l.map f).Nodup := by
  induction l with
  | nil => simp
  | cons x l ih =>
    rw [List.nodup_cons] at h
    rw [List.map_cons, List.nodup_cons]
    refine ⟨fun hm => ?_, ih h.2 (fun y hy z hz => hi y (by simp [hy]) z (by simp [hz]))⟩
    obtain ⟨y, hy, e⟩ := List.mem_map.1 hm
    have := hi y (by simp [hy]) x (by simp) e
    exact h.1 (this ▸ hy)

theorem mt_31 {a b : Int} {l : List Int} (ha : 1 ≤ a) (ha' : a ≤ 30) (h : VK l = true) : mt a b 31 l = 0 := by
  obtain ⟨_, h1, h2⟩ := VK_iff.1 h
  unfold mt
  rw [pr_zero]
  refine nodup_map h2 fun x hx y hy e => ?_
  have a1 := h1 x hx
  have a2 := h1 y hy
  unfold hs at e
  exact inj31 (b := b) ha ha' a1.1 a1.2 a2.1 a2.2 (by omega)
theorem mt_1 {a b : Int} {l : List Int} : 2 * mt a b 1 l = l.length * (l.length - 1) := by
  unfold mt
  rw [pr_same (c := 0), List.length_map]
  intro x hx
  obtain ⟨y, _, rfl⟩ := List.mem_map.1 hx
  unfold hs; omega
theorem mt_le {a b m : Int} {l : List Int} : 2 * mt a b m l ≤ l.length * (l.length - 1) := by
  unfold mt
  have := pr_le (l.map (hs a b m))
  rwa [List.length_map] at this

/-- Different numbers in 0..m-1 are at most m. -/
theorem nodup_le : ∀ (m : Nat) (l : List Int), l.Nodup → (∀ x ∈ l, 0 ≤ x ∧ x < m) → l.length ≤ m := by
  intro m
  induction m with
  | zero =>
    intro l _ h
    cases l with
    | nil => simp
    | cons x l => have := h x (by simp); omega
  | succ m ih =>
    intro l hn h
    have h1 := ih (l.filter (fun x => x != (m : Int))) (hn.filter _) (fun x hx => by
      rw [List.mem_filter] at hx
      have a1 := h x hx.1
      have a2 : x ≠ (m : Int) := by simpa using hx.2
      omega)
    have h2 : l.length = (l.filter (fun x => x != (m : Int))).length + l.count (m : Int) := by
      clear h1 h hn
      induction l with
      | nil => rfl
      | cons x l ih2 =>
        by_cases e : x = (m : Int)
        · subst e; simp [List.count_cons] at ih2 ⊢; omega
        · simp [List.count_cons, e] at ih2 ⊢; omega
    have h3 : l.count (m : Int) ≤ 1 := List.nodup_iff_count.1 hn _
    omega

/-! Sums over the family. -/
theorem cntN_congr {p q : Nat → Bool} {n : Nat} (h : ∀ i, i < n → p i = q i) : cntN p n = cntN q n := by
  induction n with
  | zero => rfl
  | succ n ih => rw [cntN, cntN, ih (fun i hi => h i (by omega)), h n (by omega)]
theorem cntN_add (p : Nat → Bool) (n k : Nat) : cntN p (n + k) = cntN p n + cntN (fun i => p (n + i)) k := by
  induction k with
  | zero => simp [cntN]
  | succ k ih => rw [← Nat.add_assoc, cntN, ih, cntN]; omega
theorem cntN_mul (p : Nat → Bool) (n : Nat) : cntN p (n * 31) = sumR (fun a => cntN (fun b => p (a * 31 + b)) 31) n := by
  induction n with
  | zero => simp [cntN, sumR]
  | succ n ih => rw [Nat.add_mul, Nat.one_mul, cntN_add, ih, sumR]
theorem cntN_count (p : Nat → Bool) (n : Nat) : cntN p n = (List.range n).countP p := by
  induction n with
  | zero => rfl
  | succ n ih => rw [cntN, List.range_succ, List.countP_append, ih]; simp [List.countP_cons]
theorem sum_snoc (l : List Nat) (x : Nat) : (l ++ [x]).sum = l.sum + x := by simp
theorem sumR_sum (f : Nat → Nat) (n : Nat) : sumR f n = ((List.range n).map f).sum := by
  induction n with
  | zero => rfl
  | succ n ih => rw [sumR, List.range_succ, List.map_append, ih]; simp
theorem perm_sum {l l' : List Nat} (h : l.Perm l') : l.sum = l'.sum := by
  induction h with
  | nil => rfl
  | cons x _ ih => simp [ih]
  | swap x y l => simp; omega
  | trans _ _ h1 h2 => exact h1.trans h2
theorem perm_add : ∀ s : Fin 31, ((List.range 31).map fun b => (s.val + b) % 31).Perm (List.range 31) := by decide +kernel
theorem perm_mul : ∀ d : Fin 31, 0 < d.val → ((List.range 30).map fun a => (a + 1) * d.val % 31).Perm ((List.range 30).map fun a => a + 1) := by decide +kernel
theorem cntN_shift (q : Nat → Bool) (s : Nat) (hs : s < 31) : cntN (fun b => q ((s + b) % 31)) 31 = cntN q 31 := by
  rw [cntN_count, cntN_count, ← (perm_add ⟨s, hs⟩).countP_eq q, List.countP_map]
  rfl
theorem sumR_scale (f : Nat → Nat) (d : Nat) (hd : d < 31) (h0 : 0 < d) : sumR (fun a => f ((a + 1) * d % 31)) 30 = sumR (fun a => f (a + 1)) 30 := by
  rw [sumR_sum, sumR_sum]
  have := perm_sum ((perm_mul ⟨d, hd⟩ h0).map f)
  rw [List.map_map, List.map_map] at this
  exact this

/-- How many u meet the one c further by m slots. -/
def rr (m c : Nat) : Nat := cntN (fun u => decide (u % m = (u + c) % 31 % m)) 31
/-- How many functions let any two keys meet. -/
def qq (m : Nat) : Nat := sumR (fun a => rr m (a + 1)) 30
theorem qq_le : ∀ m : Fin 32, 0 < m.val → qq m.val * m.val ≤ 930 := by decide +kernel

theorem meet_qq {m : Nat} {x y : Int} (hx : 0 ≤ x) (hx' : x ≤ 30) (hy : 0 ≤ y) (hy' : y ≤ 30) (hne : x ≠ y) : cntN (meet m x y) 930 = qq m := by
  obtain ⟨X, rfl⟩ := Int.eq_ofNat_of_zero_le hx
  obtain ⟨Y, rfl⟩ := Int.eq_ofNat_of_zero_le hy
  rw [show (930 : Nat) = 30 * 31 by rfl, cntN_mul]
  obtain ⟨d, hd⟩ : ∃ d, d = (Y + (31 - X)) % 31 := ⟨_, rfl⟩
  have hd0 : 0 < d := by omega
  have hd1 : d < 31 := by omega
  rw [show qq m = sumR (fun a => rr m (a + 1)) 30 from rfl, ← sumR_scale (rr m) d hd1 hd0]
  refine sumR_congr fun a ha => ?_
  refine Eq.trans ?_ (cntN_shift (fun u => decide (u % m = (u + (a + 1) * d % 31) % 31 % m)) ((a + 1) * X % 31) (Nat.mod_lt _ (by omega)))
  refine cntN_congr fun b hb => ?_
  have eA : fA (a * 31 + b) = a + 1 := by unfold fA; omega
  have eB : fB (a * 31 + b) = b := by unfold fB; omega
  have e1 : hs (fA (a * 31 + b)) (fB (a * 31 + b)) m X = ((((a + 1) * X % 31 + b) % 31 % m : Nat) : Int) := by
    rw [eA, eB]
    unfold hs
    have : ((a + 1 : Nat) : Int) * (X : Int) + (b : Int) = (((a + 1) * X + b : Nat) : Int) := by simp
    rw [this]
    have h2 : ((a + 1) * X % 31 + b) % 31 = ((a + 1) * X + b) % 31 := by omega
    rw [h2]; simp
  have e2 : hs (fA (a * 31 + b)) (fB (a * 31 + b)) m Y = (((((a + 1) * X % 31 + b) % 31 + (a + 1) * d % 31) % 31 % m : Nat) : Int) := by
    rw [eA, eB]
    unfold hs
    have : ((a + 1 : Nat) : Int) * (Y : Int) + (b : Int) = (((a + 1) * Y + b : Nat) : Int) := by simp
    rw [this]
    have h2 : (((a + 1) * X % 31 + b) % 31 + (a + 1) * d % 31) % 31 = ((a + 1) * Y + b) % 31 := by
      have h3 : (((a + 1) * X % 31 + b) % 31 + (a + 1) * d % 31) % 31 = ((a + 1) * X + b + (a + 1) * d) % 31 := by omega
      have h4 : (a + 1) * X + b + (a + 1) * d = (a + 1) * (X + d) + b := by rw [Nat.mul_add]; omega
      obtain ⟨k, hk⟩ : ∃ k, X + d = Y + 31 * k ∨ X + d + 31 * k = Y := by
        refine ⟨(X + d) / 31, ?_⟩
        omega
      rw [h3, h4]
      rcases hk with hk | hk
      · rw [hk, Nat.mul_add, Nat.mul_left_comm]; omega
      · rw [← hk, Nat.mul_add (a + 1) (X + d) (31 * k), Nat.mul_left_comm]; omega
    rw [h2]; simp
  unfold meet
  rw [e1, e2]
  simp only [decide_eq_decide]
  omega

/-- The law of PairCount. -/
theorem PC_facts {m x y : Int} (h : VX m x y = true) : 0 ≤ PC m x y ∧ PC m x y * m ≤ 930 ∧ PC m 0 1 = PC m x y ∧ PC m y x = PC m x y := by
  obtain ⟨h1, h2, h3, h4, h5, h6, h7⟩ := VX_iff.1 h
  obtain ⟨M, rfl⟩ := Int.eq_ofNat_of_zero_le (show 0 ≤ m by omega)
  have e : ∀ u v : Int, 0 ≤ u → u ≤ 30 → 0 ≤ v → v ≤ 30 → u ≠ v → PC M u v = (qq M : Int) := by
    intro u v a b c d f
    unfold PC
    rw [if_pos (VX_iff.2 ⟨h1, h2, a, b, c, d, f⟩), meet_qq a b c d f]
  rw [e x y h3 h4 h5 h6 h7, e 0 1 (by omega) (by omega) (by omega) (by omega) (by omega), e y x h5 h6 h3 h4 (fun q => h7 q.symm)]
  have := qq_le ⟨M, by omega⟩ (by simp; omega)
  simp only at this
  refine ⟨by omega, ?_, rfl, rfl⟩
  have h8 : ((qq M * M : Nat) : Int) ≤ 930 := by omega
  rwa [Int.natCast_mul] at h8

theorem cnt_sum (f : Nat → Int) (g : Nat → List Int) (n : Nat) (l : List Int) (p : Int → Nat → Bool) (h : ∀ t, t < n → (g t).count (f t) = (l.map fun y => if p y t = true then 1 else 0).sum) :
    sumR (fun t => (g t).count (f t)) n = (l.map fun y => cntN (p y) n).sum := by
  induction n with
  | zero =>
    rw [sumR]
    clear h
    induction l with
    | nil => rfl
    | cons y l ih => simp [cntN] at ih ⊢; exact ih
  | succ n ih =>
    rw [sumR, ih (fun t ht => h t (by omega)), h n (by omega)]
    clear ih h
    induction l with
    | nil => rfl
    | cons y l ih => simp only [List.map_cons, List.sum_cons, cntN] at ih ⊢; omega
theorem count_map (x : Int) (l : List Int) (f : Int → Int) : (l.map f).count x = (l.map fun y => if decide (x = f y) = true then 1 else 0).sum := by
  induction l with
  | nil => rfl
  | cons y l ih =>
    rw [List.map_cons, List.map_cons, List.sum_cons, List.count_cons, ih]
    by_cases e : x = f y
    · simp [e]; omega
    · have e' : ¬ f y = x := fun q => e q.symm
      simp [e, e']
theorem sum_const (l : List Int) (q : Nat) : (l.map fun _ => q).sum = l.length * q := by
  induction l with
  | nil => simp
  | cons y l ih => rw [List.map_cons, List.sum_cons, ih, List.length_cons, Nat.add_mul]; omega
/-- All pairs of different keys meet by as many functions. -/
theorem sum_mtt {m : Nat} {l : List Int} (h1 : ∀ x ∈ l, 0 ≤ x ∧ x ≤ 30) (h2 : l.Nodup) : 2 * sumR (mtt m l) 930 = l.length * (l.length - 1) * qq m := by
  induction l with
  | nil =>
    have : sumR (mtt m []) 930 = sumR (fun _ => 0) 930 := sumR_congr fun i _ => rfl
    rw [this]
    have h0 : ∀ n, sumR (fun _ => 0) n = 0 := by
      intro n
      induction n with
      | zero => rfl
      | succ n ih => rw [sumR, ih]
    rw [h0]; simp
  | cons x l ih =>
    rw [List.nodup_cons] at h2
    have ih := ih (fun y hy => h1 y (by simp [hy])) h2.2
    have e : sumR (mtt m (x :: l)) 930 = sumR (fun t => (l.map (hs (fA t) (fB t) m)).count (hs (fA t) (fB t) m x)) 930 + sumR (mtt m l) 930 := by
      rw [← sumR_add]
      refine sumR_congr fun t _ => ?_
      rfl
    have e2 : sumR (fun t => (l.map (hs (fA t) (fB t) m)).count (hs (fA t) (fB t) m x)) 930 = l.length * qq m := by
      rw [cnt_sum _ _ _ l (fun y t => meet m x y t) (fun t _ => by rw [count_map]; rfl)]
      have h3 : l.map (fun y => cntN (fun t => meet m x y t) 930) = l.map fun _ => qq m := by
        refine List.map_congr_left fun y hy => ?_
        have a1 := h1 x (by simp)
        have a2 := h1 y (by simp [hy])
        exact meet_qq a1.1 a1.2 a2.1 a2.2 (fun q => h2.1 (q ▸ hy))
      rw [h3, sum_const]
    rw [e, e2, Nat.mul_add, ih, List.length_cons, Nat.add_sub_cancel]
    cases l with
    | nil => simp
    | cons y l =>
      simp only [List.length_cons, Nat.add_sub_cancel]
      rw [← Nat.mul_assoc, ← Nat.add_mul, Nat.mul_comm 2, ← Nat.mul_add, Nat.mul_comm (l.length + 1 + 1)]
      congr 2
      omega

/-- Twice the keys and less than thrice. -/
theorem BL_facts {l : List Int} (h0 : l ≠ []) (h : VK l = true) : BL l < 3 * (l.length : Int) ∧ 2 * (l.length : Int) ≤ BL l ∧ BL l ≤ TL 1 0 l := by
  obtain ⟨hl, h1, h2⟩ := VK_iff.1 h
  have hpos : 0 < l.length := List.length_pos_iff.2 h0
  unfold BL
  rw [if_pos ⟨h0, h⟩]
  refine ⟨?_, ?_, ?_⟩
  · apply Classical.byContradiction
    intro hn
    have hall : ∀ t, t < 930 → l.length ≤ 2 * mtt l.length l t := by
      intro t ht
      have := mn_le (lvl l) 929 t (by omega)
      unfold lvl at this
      unfold lvl at hn
      omega
    have hs : ∀ n, n ≤ 930 → l.length * n ≤ 2 * sumR (mtt l.length l) n := by
      intro n
      induction n with
      | zero => intro _; simp
      | succ n ih =>
        intro hn
        have a1 := ih (by omega)
        have a2 := hall n (by omega)
        rw [sumR, Nat.mul_add, Nat.mul_add]; omega
    have hs := hs 930 (Nat.le_refl _)
    rw [sum_mtt h1 h2] at hs
    have hq := qq_le ⟨l.length, by omega⟩ hpos
    simp only at hq
    have h5 : l.length * (l.length - 1) * qq l.length = (l.length - 1) * (qq l.length * l.length) := by
      rw [Nat.mul_comm l.length, Nat.mul_assoc, Nat.mul_comm l.length]
    rw [h5] at hs
    have h6 := Nat.mul_le_mul_left (l.length - 1) hq
    omega
  · obtain ⟨i, _, hi⟩ := mn_mem (lvl l) 929
    rw [hi]; unfold lvl; omega
  · have := mn_le (lvl l) 929 0 (by omega)
    have e : lvl l 0 = 2 * l.length + 2 * mt 1 0 l.length l := rfl
    unfold TL
    rw [if_pos ⟨h0, VF_iff.2 ⟨by omega, by omega, by omega, by omega, by omega, by omega⟩, h⟩]
    omega
theorem TL_facts {a b : Int} {l : List Int} (h0 : l ≠ []) (hf : VF a b l.length = true) (h : VK l = true) : TL a b l = 2 * (l.length : Int) + 2 * MO a b l.length l ∧ TL a b l ≤ l.length + (l.length : Int) * l.length ∧ 0 ≤ TL a b l := by
  unfold TL MO
  rw [if_pos ⟨h0, hf, h⟩, if_pos ⟨hf, h⟩]
  refine ⟨rfl, ?_, by omega⟩
  have h1 := mt_le (a := a) (b := b) (m := l.length) (l := l)
  have hpos : 0 < l.length := List.length_pos_iff.2 h0
  have h2 : l.length * (l.length - 1) + l.length = l.length * l.length := by
    rw [← Nat.mul_succ]; congr 1; omega
  have h3 : ((l.length * l.length : Nat) : Int) = (l.length : Int) * l.length := by simp
  omega
theorem MO_facts {a b m : Int} {l : List Int} (hf : VF a b m = true) (h : VK l = true) : 0 ≤ MO a b m l ∧ 2 * MO a b m l ≤ (l.length : Int) * (l.length - 1) ∧ 2 * MO a b 1 l = (l.length : Int) * (l.length - 1) ∧ MO a b 31 l = 0 := by
  obtain ⟨f1, f2, f3, f4, f5, f6⟩ := VF_iff.1 hf
  unfold MO
  rw [if_pos ⟨hf, h⟩, if_pos ⟨VF_iff.2 ⟨f1, f2, f3, f4, by omega, by omega⟩, h⟩, if_pos ⟨VF_iff.2 ⟨f1, f2, f3, f4, by omega, by omega⟩, h⟩]
  have h1 := mt_le (a := a) (b := b) (m := m) (l := l)
  have h2 := mt_1 (a := a) (b := b) (l := l)
  have h3 := mt_31 (b := b) f1 f2 h
  have h4 : ((l.length * (l.length - 1) : Nat) : Int) = (l.length : Int) * (l.length - 1) := by
    cases l with
    | nil => simp
    | cons x l => simp only [List.length_cons, Nat.add_sub_cancel, Int.natCast_mul]; congr 1; omega
  exact ⟨by omega, by omega, by omega, by omega⟩
theorem HO_facts {a b m k : Int} (hf : VF a b m = true) (hk : KR k = true) : 0 ≤ HO a b m k ∧ HO a b m k < m ∧ HO a b 31 k = (a * k + b) % 31 ∧ (a * k + b) % 31 % m = HO a b m k ∧ 0 ≤ (a * k + b) % 31 ∧ 0 ≤ a * k + b ∧ a * k + b ≤ 930 := by
  obtain ⟨f1, f2, f3, f4, f5, f6⟩ := VF_iff.1 hf
  have g := KR_iff.1 hk
  have p := hs_range (a := a) (b := b) (k := k) f5
  have q0 : 0 ≤ a * k := Int.mul_nonneg (by omega) (by omega)
  have q1 : a * k ≤ 30 * 30 := Int.mul_le_mul f2 g.2 g.1 (by omega)
  unfold HO
  rw [if_pos ⟨hf, hk⟩, if_pos ⟨VF_iff.2 ⟨f1, f2, f3, f4, by omega, by omega⟩, hk⟩]
  refine ⟨p.1, p.2, ?_, rfl, Int.emod_nonneg _ (by omega), by omega, by omega⟩
  unfold hs; omega
theorem AP_facts {m : Int} {l : List Int} (h : (AP m l).2.2 = true) : VF (AP m l).1 (AP m l).2.1 m = true ∧ VK l = true ∧ MO (AP m l).1 (AP m l).2.1 m l = 0 ∧ (l.length : Int) ≤ m := by
  by_cases hv : SZ m = true ∧ VK l = true
  · obtain ⟨s1, s2⟩ := SZ_iff.1 hv.1
    have e : AP m l = apR (ap m l) := by unfold AP; rw [if_pos hv]
    rw [e] at h ⊢
    cases ha : ap m l with
    | none => rw [ha] at h; simp [apR] at h
    | some t =>
      obtain ⟨t1, t2⟩ := ap_spec ha
      have hA := fA_le t1
      have hB := fB_le t
      have hf : VF (fA t : Int) (fB t : Int) m = true := VF_iff.2 ⟨by omega, by omega, by omega, by omega, s1, s2⟩
      simp only [apR]
      refine ⟨hf, hv.2, ?_, ?_⟩
      · unfold MO; rw [if_pos ⟨hf, hv.2⟩]; have : mt (fA t) (fB t) m l = 0 := t2; omega
      · obtain ⟨M, rfl⟩ := Int.eq_ofNat_of_zero_le (show 0 ≤ m by omega)
        have h2 : (l.map (hs (fA t) (fB t) M)).Nodup := pr_zero.1 t2
        have := nodup_le M _ h2 (fun x hx => by
          obtain ⟨y, _, rfl⟩ := List.mem_map.1 hx
          exact hs_range s1)
        rw [List.length_map] at this; omega
  · unfold AP at h; rw [if_neg hv] at h; simp at h
theorem AP_of {m : Int} {l : List Int} (h1 : 1 ≤ m) (h2 : m ≤ 31) (hv : VK l = true) : (AP m l).2.2 = (ap m l).isSome := by
  unfold AP
  rw [if_pos ⟨SZ_iff.2 ⟨h1, h2⟩, hv⟩]
  cases ap m l <;> rfl
theorem LA_facts {l : List Int} (hv : VK l = true) : 1 ≤ LA l ∧ LA l ≤ 31 ∧ (AP (LA l) l).2.2 = true ∧ (AP (LA l - 1) l).2.2 = false ∧ (l.length : Int) ≤ LA l := by
  obtain ⟨i, hi, h1, h2, h3⟩ := la_spec hv
  have e : LA l = (i : Int) + 1 := by unfold LA; rw [if_pos hv, h1]
  have ha : (AP (LA l) l).2.2 = true := by rw [e, AP_of (by omega) (by omega) hv]; exact h2
  refine ⟨by omega, by omega, ha, ?_, (AP_facts ha).2.2.2⟩
  rw [e]
  cases i with
  | zero =>
    unfold AP
    rw [if_neg (by rintro ⟨q, _⟩; have := (SZ_iff.1 q).1; omega)]
  | succ i =>
    have := h3 i (by omega)
    rw [show ((i + 1 : Nat) : Int) + 1 - 1 = (i : Int) + 1 by omega, AP_of (by omega) (by omega) hv, this]
    rfl
end Go.Proofs.YtoaiaindcmihjaaGreatDoor
