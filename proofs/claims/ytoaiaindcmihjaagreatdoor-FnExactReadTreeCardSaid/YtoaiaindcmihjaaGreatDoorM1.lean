/-
  The plain mathematics of chapter 1: tables as lists, the first free slot, the linear and the fair table.
-/
import Derived.Test.YtoaiaindcmihjaaGreatDoorW1
namespace Go.Proofs.YtoaiaindcmihjaaGreatDoor
open Go.RowKit

/-- From d steps behind a on: the first step at which a slot is free. -/
def look (t : List Int) (m a : Nat) : Nat → Nat → Nat
  | d, 0 => d
  | d, f + 1 => if t.getD ((a + d) % m) 0 < 0 then d else look t m a (d + 1) f

theorem look_from {t : List Int} {m a : Nat} : ∀ (f d e : Nat), d ≤ e → e < d + f → (∀ i, d ≤ i → i < e → ¬ t.getD ((a + i) % m) 0 < 0) → t.getD ((a + e) % m) 0 < 0 → look t m a d f = e := by
  intro f
  induction f with
  | zero => intro d e h1 h2; omega
  | succ f ih =>
    intro d e h1 h2 h3 h4
    unfold look
    by_cases hde : d = e
    · subst hde; rw [if_pos h4]
    · rw [if_neg (h3 d (Nat.le_refl _) (by omega))]
      exact ih (d + 1) e (by omega) (by omega) (fun i hi => h3 i (by omega)) h4

theorem look_eq {t : List Int} {m a e : Nat} (h : e < m) (h3 : ∀ i, i < e → ¬ t.getD ((a + i) % m) 0 < 0) (h4 : t.getD ((a + e) % m) 0 < 0) : look t m a 0 m = e :=
  look_from m 0 e (by omega) (by omega) (fun i _ => h3 i) h4

/-- How many slots have keys. -/
def held (t : List Int) : Nat := t.countP fun x => decide (0 ≤ x)

theorem held_le (t : List Int) : held t ≤ t.length := List.countP_le_length

/-- Where not all slots have keys one is free. -/
theorem free_slot {t : List Int} (h : held t < t.length) : ∃ i, i < t.length ∧ t.getD i 0 < 0 := by
  unfold held at h
  apply Classical.byContradiction
  intro hn
  have : t.countP (fun x => decide (0 ≤ x)) = t.length := by
    rw [List.countP_eq_length]
    intro x hx
    obtain ⟨i, hi, rfl⟩ := List.getElem_of_mem hx
    simp only [decide_eq_true_eq]
    apply Classical.byContradiction
    intro hlt
    exact hn ⟨i, hi, by simp [List.getD, hi]; omega⟩
  omega

/-- Each slot is met within m steps. -/
theorem met {m a i : Nat} (ha : a < m) (hi : i < m) : ∃ d, d < m ∧ (a + d) % m = i := by
  by_cases h : a ≤ i
  · exact ⟨i - a, by omega, by rw [show a + (i - a) = i by omega]; exact Nat.mod_eq_of_lt hi⟩
  · refine ⟨i + m - a, by omega, ?_⟩
    rw [show a + (i + m - a) = i + m by omega, Nat.add_mod_right]; exact Nat.mod_eq_of_lt hi

theorem free_met {t : List Int} {m a : Nat} (hm : t.length = m) (ha : a < m) (h : held t < m) : ∃ d, d < m ∧ t.getD ((a + d) % m) 0 < 0 := by
  obtain ⟨i, hi, hx⟩ := free_slot (t := t) (by omega)
  obtain ⟨d, hd, e⟩ := met (m := m) ha (by omega : i < m)
  exact ⟨d, hd, by rw [e]; exact hx⟩

/-- The walk to the free slot is not longer than the table. -/
theorem not_all {t : List Int} {m a d : Nat} (hm : t.length = m) (ha : a < m) (h : held t < m) (h3 : ∀ i, i < d → ¬ t.getD ((a + i) % m) 0 < 0) : d < m := by
  obtain ⟨e, he, hx⟩ := free_met hm ha h
  apply Classical.byContradiction
  intro hn
  exact h3 e (by omega) hx

theorem look_spec {t : List Int} {m a : Nat} (hm : t.length = m) (ha : a < m) (h : held t < m) :
    look t m a 0 m < m ∧ t.getD ((a + look t m a 0 m) % m) 0 < 0 ∧ ∀ i, i < look t m a 0 m → ¬ t.getD ((a + i) % m) 0 < 0 := by
  have hex := free_met hm ha h
  have key : ∀ n, (∃ d, d < m ∧ d ≤ n ∧ t.getD ((a + d) % m) 0 < 0) → ∃ d, d < m ∧ t.getD ((a + d) % m) 0 < 0 ∧ ∀ i, i < d → ¬ t.getD ((a + i) % m) 0 < 0 := by
    intro n
    induction n with
    | zero => rintro ⟨d, h1, h2, h3⟩; exact ⟨d, h1, h3, fun i hi => by omega⟩
    | succ n ih =>
      rintro ⟨d, h1, h2, h3⟩
      by_cases hb : ∃ d, d < m ∧ d ≤ n ∧ t.getD ((a + d) % m) 0 < 0
      · exact ih hb
      · exact ⟨d, h1, h3, fun i hi hx => hb ⟨i, by omega, by omega, hx⟩⟩
  obtain ⟨d, hd, hx⟩ := hex
  obtain ⟨e, h1, h2, h3⟩ := key d ⟨d, hd, Nat.le_refl _, hx⟩
  rw [look_eq h1 h3 h2]
  exact ⟨h1, h2, h3⟩

theorem countP_set {α : Type} (p : α → Bool) : ∀ (l : List α) (i : Nat) (x : α) (h : i < l.length), (l.set i x).countP p + (if p l[i] then 1 else 0) = l.countP p + (if p x then 1 else 0) := by
  intro l
  induction l with
  | nil => intro i x h; simp at h
  | cons y l ih =>
    intro i x h
    cases i with
    | zero => simp only [List.set_cons_zero, List.countP_cons, List.getElem_cons_zero]; omega
    | succ i =>
      have := ih i x (by simpa using h)
      simp only [List.set_cons_succ, List.countP_cons, List.getElem_cons_succ]; omega

theorem held_set {t : List Int} {i : Nat} {x : Int} (h : i < t.length) (hf : t.getD i 0 < 0) (hx : 0 ≤ x) : held (t.set i x) = held t + 1 := by
  have := countP_set (fun x : Int => decide (0 ≤ x)) t i x h
  have e : t[i] = t.getD i 0 := by simp [List.getD, h]
  rw [e] at this
  have c1 : decide (0 ≤ t.getD i 0) = false := by rw [decide_eq_false_iff_not]; omega
  have c2 : decide (0 ≤ x) = true := by rw [decide_eq_true_eq]; exact hx
  simp only [c1, c2, if_true, Bool.false_eq_true, if_false] at this
  unfold held; omega

theorem held_replicate (m : Nat) : held (List.replicate m (-1 : Int)) = 0 := by simp [held, List.countP_replicate]

/-- The home of key k. -/
def home (l : List Int) (k : Nat) : Nat := (l.getD k 0).toNat

/-- LinearTable's table and looks after k keys. -/
def lin (m : Nat) (l : List Int) : Nat → List Int × Nat
  | 0 => (List.replicate m (-1), 0)
  | k + 1 => (((lin m l k).1.set ((home l k + look (lin m l k).1 m (home l k) 0 m) % m) (k : Int)), (lin m l k).2 + look (lin m l k).1 m (home l k) 0 m + 1)

theorem lin_len (m : Nat) (l : List Int) (k : Nat) : (lin m l k).1.length = m := by
  induction k with
  | zero => simp [lin]
  | succ k ih => simp [lin, ih]

/-- The homes are slots, and no more than slots. -/
structure Homes (m : Nat) (l : List Int) : Prop where
  pos : 1 ≤ m
  le : m ≤ 10
  len : l.length ≤ m
  fit : ∀ i, i < l.length → 0 ≤ l.getD i 0 ∧ l.getD i 0 < m

theorem Homes.home_lt {m : Nat} {l : List Int} (h : Homes m l) {k : Nat} (hk : k < l.length) : home l k < m := by
  have := h.fit k hk
  unfold home; omega
theorem Homes.home_cast {m : Nat} {l : List Int} (h : Homes m l) {k : Nat} (hk : k < l.length) : ((home l k : Nat) : Int) = l.getD k 0 := by
  have := h.fit k hk
  unfold home; omega

theorem lin_held {m : Nat} {l : List Int} (h : Homes m l) : ∀ k, k ≤ l.length → held (lin m l k).1 = k := by
  intro k
  induction k with
  | zero => intro _; simp [lin, held_replicate]
  | succ k ih =>
    intro hk
    have hk' := ih (by omega)
    have hl := lin_len m l k
    have hlt : held (lin m l k).1 < m := by have := h.len; omega
    obtain ⟨s1, s2, s3⟩ := look_spec hl (h.home_lt (by omega : k < l.length)) hlt
    simp only [lin]
    rw [held_set (by rw [hl]; exact Nat.mod_lt _ h.pos) s2 (by omega), hk']

theorem Homes.of_VH {m : Int} {l : List Int} (h : 1 ≤ m ∧ m ≤ 10 ∧ (l.length : Int) ≤ m ∧ ∀ x ∈ l, 0 ≤ x ∧ x < m) : Homes m.toNat l := by
  obtain ⟨h1, h2, h3, h4⟩ := h
  refine ⟨by omega, by omega, by omega, fun i hi => ?_⟩
  have := h4 (l.getD i 0) (by rw [List.getD_eq_getElem?_getD, List.getElem?_eq_getElem hi]; exact List.getElem_mem hi)
  omega

theorem lin_bound {m : Nat} {l : List Int} (h : Homes m l) : ∀ k, k ≤ l.length → (lin m l k).2 ≤ 10 * k := by
  intro k
  induction k with
  | zero => intro _; simp [lin]
  | succ k ih =>
    intro hk
    have := ih (by omega)
    have hlt : held (lin m l k).1 < m := by rw [lin_held h k (by omega)]; have := h.len; omega
    obtain ⟨s1, _, _⟩ := look_spec (lin_len m l k) (h.home_lt (by omega : k < l.length)) hlt
    have := h.le
    simp only [lin]
    omega

/-- Slots hold keys or -1. -/
def Slots (t : List Int) : Prop := ∀ i, i < t.length → t.getD i 0 = -1 ∨ 0 ≤ t.getD i 0
theorem Slots.rep (m : Nat) : Slots (List.replicate m (-1)) := by
  intro i hi
  rw [List.length_replicate] at hi
  simp [List.getD, hi]
theorem getD_set {t : List Int} {i j : Nat} {x : Int} (hi : i < t.length) : (t.set i x).getD j 0 = if i = j then x else t.getD j 0 := by
  simp only [List.getD, List.getElem?_set]
  by_cases h : i = j
  · subst h; simp [hi]
  · simp [h]
theorem Slots.set {t : List Int} (h : Slots t) {i : Nat} {x : Int} (hx : x = -1 ∨ 0 ≤ x) : Slots (t.set i x) := by
  intro j hj
  rw [List.length_set] at hj
  by_cases hi : i < t.length
  · rw [getD_set hi]
    split
    · exact hx
    · exact h j hj
  · rw [List.set_eq_of_length_le (by omega)]; exact h j hj
theorem lin_slots (m : Nat) (l : List Int) : ∀ k, Slots (lin m l k).1 := by
  intro k
  induction k with
  | zero => exact Slots.rep m
  | succ k ih => exact ih.set (.inr (by omega))

/-- LinearTable. -/
def LT (m : Int) (l : List Int) : List Int × Int := if VH m l = true then ((lin m.toNat l l.length).1, ((lin m.toNat l l.length).2 : Int)) else ([], -1)
theorem LT_len (m : Int) (l : List Int) : (LT m l).1.length ≤ 1048586 := by
  unfold LT
  split
  · rename_i h
    rw [VH_iff] at h
    simp only [lin_len]; omega
  · simp

/-- One step on, round the table. -/
theorem step_mod (a d m : Nat) : ((a + d) % m + 1) % m = (a + (d + 1)) % m := by rw [Nat.mod_add_mod, Nat.add_assoc]
theorem cast_step (a m : Nat) : ((a : Int) + 1) % (m : Int) = ((a + 1) % m : Nat) := by rw [Int.natCast_emod]; rfl

/-- The walk to the first free slot, said with names: D steps, none of them to a free slot, the slot behind them free. -/
structure Way (t : List Int) (m a D : Nat) : Prop where
  lt : D < m
  free : ∀ p, p = (a + D) % m → t.getD p 0 < 0
  full : ∀ d p, d < D → p = (a + d) % m → ¬ t.getD p 0 < 0
  is : look t m a 0 m = D

theorem way {t : List Int} {m a : Nat} (hm : t.length = m) (ha : a < m) (h : held t < m) : ∃ D, Way t m a D := by
  obtain ⟨h1, h2, h3⟩ := look_spec hm ha h
  exact ⟨_, h1, fun p hp => by rw [hp]; exact h2, fun d p hd hp => by rw [hp]; exact h3 d hd, rfl⟩

/-- lin's next state, said with names. -/
theorem lin_succ {m : Nat} {l : List Int} {k D p : Nat} (hw : Way (lin m l k).1 m (home l k) D) (hp : p = (home l k + D) % m) :
    (lin m l (k + 1)).1 = (lin m l k).1.set p k ∧ (lin m l (k + 1)).2 = (lin m l k).2 + D + 1 := by
  simp only [lin, hw.is, ← hp]
  exact ⟨trivial, trivial⟩

end Go.Proofs.YtoaiaindcmihjaaGreatDoor
