/-
  The plain mathematics of TakeOut: the hole moves on.
-/
import Derived.Test.YtapkalpmnldhpabS3
namespace Go.Proofs.Ytapkalpmnldhpab
open Go.RowKit

theorem offI_val {m h p : Nat} (hh : h < m) (hp : p < m) : offI m h p = if h ≤ p then (p : Int) - h else (p : Int) - h + m := by
  unfold offI
  split
  · rw [Int.add_emod_right, Int.emod_eq_of_lt (by omega) (by omega)]
  · rw [Int.emod_eq_of_lt (by omega) (by omega)]

/-- The two tests are one: the hole is passed on the way from the home; the key comes nearer to its home. -/
theorem pass_iff {m h hole p : Nat} (hh : h < m) (ho : hole < m) (hp : p < m) (hne : p ≠ hole) : (offI m hole p ≤ offI m h p ↔ offI m h hole < offI m h p) := by
  rw [offI_val hh ho, offI_val hh hp, offI_val ho hp]
  split <;> split <;> split <;> omega
theorem pass_lt {m h hole p : Nat} (hh : h < m) (ho : hole < m) (hp : p < m) (hne : p ≠ hole) (h1 : offI m hole p ≤ offI m h p) : (offI m h hole).toNat + 1 ≤ (offI m h p).toNat := by
  have h2 := (pass_iff hh ho hp hne).1 h1
  have := (offI_bd (m := (m : Int)) (h := h) (p := hole) (by omega)).1
  omega

/-- How far the key in a slot is from its home. -/
def wt (m : Nat) (l : List Int) (x : Int) (i : Nat) : Nat := if x < 0 then 0 else (offI m (home l x.toNat) i).toNat
/-- All keys' distances, of the first i slots. -/
def phi (m : Nat) (l t : List Int) : Nat → Nat
  | 0 => 0
  | i + 1 => phi m l t i + wt m l (t.getD i 0) i
theorem phi_set {m : Nat} {l t : List Int} {j : Nat} {x : Int} (hj : j < t.length) : ∀ n, phi m l (t.set j x) n + (if j < n then wt m l (t.getD j 0) j else 0) = phi m l t n + (if j < n then wt m l x j else 0) := by
  intro n
  induction n with
  | zero => simp [phi]
  | succ n ih =>
    simp only [phi, getD_set hj]
    by_cases h1 : j < n
    · have h2 : j < n + 1 := by omega
      have h3 : ¬ j = n := by omega
      simp only [h1, h2, h3, if_true, if_false] at ih ⊢
      omega
    · by_cases h2 : j = n
      · subst h2
        have h4 : ¬ j < j := by omega
        have h5 : j < j + 1 := by omega
        simp only [h4, h5, if_true, if_false] at ih ⊢
        omega
      · have h3 : ¬ j < n + 1 := by omega
        simp only [h1, h3, h2, if_false] at ih ⊢
        omega
theorem wt_le {m : Nat} (hm : 1 ≤ m) (l : List Int) (x : Int) (i : Nat) : wt m l x i ≤ m := by
  unfold wt
  split
  · omega
  · have := offI_bd (m := (m : Int)) (h := home l x.toNat) (p := i) (by omega)
    omega
theorem phi_le {m : Nat} (hm : 1 ≤ m) (l t : List Int) : ∀ n, phi m l t n ≤ n * m := by
  intro n
  induction n with
  | zero => simp [phi]
  | succ n ih => have := wt_le hm l (t.getD n 0) n; rw [phi, Nat.succ_mul]; omega

/-- The table in which the key in slot p has moved into the hole. -/
def moved (t : List Int) (hole p : Nat) : List Int := (t.set hole (t.getD p 0)).set p (-1)
/-- May the key in slot p move into the hole? -/
def goes (m : Nat) (l t : List Int) (hole p : Nat) : Bool := decide (offI m hole p ≤ offI m (home l (t.getD p 0).toNat) p)

/-- The rest of TakeOut: the slot that is looked at is s steps behind the hole. -/
def tk (m : Nat) (l : List Int) : Nat → List Int → Nat → Nat → List Int
  | 0, t, _, _ => t
  | f + 1, t, hole, s =>
    if m ≤ s then t
    else if t.getD ((hole + s) % m) 0 < 0 then t
    else if goes m l t hole ((hole + s) % m) = true then tk m l f (moved t hole ((hole + s) % m)) ((hole + s) % m) 1
    else tk m l f t hole (s + 1)

/-- What holds of the table and the hole all the way. -/
structure Hole (m : Nat) (l t : List Int) (hole : Nat) : Prop where
  len : t.length = m
  lt : hole < m
  keys : Keys l.length t
  free : t.getD hole 0 = -1

/-- The measure. -/
def mu (m : Nat) (l t : List Int) (s : Nat) : Nat := phi m l t m * m + (m - s)

theorem slot_ne {m hole s : Nat} (hh : hole < m) (h1 : 1 ≤ s) (h2 : s < m) : (hole + s) % m ≠ hole := by
  by_cases h : hole + s < m
  · rw [Nat.mod_eq_of_lt h]; omega
  · rw [Nat.mod_eq_sub_mod (by omega), Nat.mod_eq_of_lt (by omega)]; omega

theorem moved_hole {m : Nat} {l t : List Int} {hole p : Nat} (h : Hole m l t hole) (hp : p < m) (hx : 0 ≤ t.getD p 0) : Hole m l (moved t hole p) p := by
  have hk := h.keys p (by rw [h.len]; exact hp)
  refine ⟨by simp [moved, h.len], hp, ?_, ?_⟩
  · intro i hi
    simp only [moved, List.length_set] at hi
    unfold moved
    rw [getD_set (by rw [List.length_set, h.len]; exact hp)]
    split
    · exact .inl rfl
    · rw [getD_set (by rw [h.len]; exact h.lt)]
      split
      · exact hk
      · exact h.keys i hi
  · unfold moved
    rw [getD_set (by rw [List.length_set, h.len]; exact hp), if_pos rfl]

theorem phi_moved {m : Nat} {l t : List Int} {hole p : Nat} (hm : 1 ≤ m) (hH : Homes m l) (h : Hole m l t hole) (hp : p < m) (hne : p ≠ hole) (hx : 0 ≤ t.getD p 0) (hg : goes m l t hole p = true) :
    phi m l (moved t hole p) m + 1 ≤ phi m l t m := by
  have e1 := phi_set (m := m) (l := l) (t := t) (j := hole) (x := t.getD p 0) (by rw [h.len]; exact h.lt) m
  have e2 := phi_set (m := m) (l := l) (t := t.set hole (t.getD p 0)) (j := p) (x := -1) (by rw [List.length_set, h.len]; exact hp) m
  rw [if_pos h.lt, if_pos h.lt, h.free] at e1
  rw [if_pos hp, if_pos hp, getD_set (by rw [h.len]; exact h.lt), if_neg (fun e => hne e.symm)] at e2
  have w0 : wt m l (-1) hole = 0 := by simp [wt]
  have w1 : wt m l (-1) p = 0 := by simp [wt]
  have hkl : (t.getD p 0).toNat < l.length := by
    rcases h.keys p (by rw [h.len]; exact hp) with hk | hk <;> omega
  have w2 : wt m l (t.getD p 0) hole + 1 ≤ wt m l (t.getD p 0) p := by
    unfold wt
    rw [if_neg (by omega), if_neg (by omega)]
    unfold goes at hg
    rw [decide_eq_true_eq] at hg
    exact pass_lt (hH.home_lt hkl) h.lt hp hne hg
  unfold moved
  omega

theorem mu_moved {m : Nat} {l t : List Int} {hole p s : Nat} (hm : 1 ≤ m) (hs : s < m) (h : phi m l (moved t hole p) m + 1 ≤ phi m l t m) : mu m l (moved t hole p) 1 < mu m l t s := by
  unfold mu
  have : (phi m l (moved t hole p) m + 1) * m ≤ phi m l t m * m := Nat.mul_le_mul_right _ h
  rw [Nat.succ_mul] at this
  omega

/-- With fuel enough the answer is one. -/
theorem tk_fuel {m : Nat} {l : List Int} (hm : 1 ≤ m) (hH : Homes m l) : ∀ f f' t hole s, Hole m l t hole → 1 ≤ s → mu m l t s ≤ f → mu m l t s ≤ f' → tk m l f t hole s = tk m l f' t hole s := by
  intro f
  induction f with
  | zero =>
    intro f' t hole s h hs h1 h2
    have : m ≤ s := by unfold mu at h1; omega
    cases f' with
    | zero => rfl
    | succ f' => simp only [tk]; rw [if_pos this]
  | succ f ih =>
    intro f' t hole s h hs h1 h2
    cases f' with
    | zero =>
      have : m ≤ s := by unfold mu at h2; omega
      simp only [tk]; rw [if_pos this]
    | succ f' =>
      simp only [tk]
      by_cases c1 : m ≤ s
      · rw [if_pos c1, if_pos c1]
      rw [if_neg c1, if_neg c1]
      by_cases c2 : t.getD ((hole + s) % m) 0 < 0
      · rw [if_pos c2, if_pos c2]
      rw [if_neg c2, if_neg c2]
      have hp : (hole + s) % m < m := Nat.mod_lt _ (by omega)
      by_cases c3 : goes m l t hole ((hole + s) % m) = true
      · rw [if_pos c3, if_pos c3]
        have hph := phi_moved hm hH h hp (slot_ne h.lt hs (by omega)) (by omega) c3
        have hmu := mu_moved (s := s) hm (by omega) hph
        exact ih f' _ _ _ (moved_hole h hp (by omega)) (Nat.le_refl _) (by omega) (by omega)
      · rw [if_neg c3, if_neg c3]
        refine ih f' _ _ _ h (by omega) ?_ ?_
        · unfold mu at h1 ⊢; omega
        · unfold mu at h2 ⊢; omega

/-- Fuel for all tables of at most ten slots. -/
def TK (m : Nat) (l t : List Int) (hole s : Nat) : List Int := tk m l 1020 t hole s
theorem mu_le {m : Nat} {l t : List Int} {s : Nat} (hm : 1 ≤ m) (hm' : m ≤ 10) : mu m l t s ≤ 1010 := by
  have := phi_le hm l t m
  unfold mu
  have h1 : phi m l t m * m ≤ m * m * m := Nat.mul_le_mul_right _ this
  have h2 : m * m * m ≤ 10 * 10 * 10 := Nat.mul_le_mul (Nat.mul_le_mul hm' hm') hm'
  omega
theorem TK_end {m : Nat} {l t : List Int} {hole s : Nat} (hs : m ≤ s) : TK m l t hole s = t := by
  unfold TK; rw [tk, if_pos hs]
theorem TK_free {m : Nat} {l t : List Int} {hole s p : Nat} (hs : s < m) (hp : p = (hole + s) % m) (hx : t.getD p 0 < 0) : TK m l t hole s = t := by
  unfold TK; rw [tk, if_neg (by omega), if_pos (by rw [← hp]; exact hx)]
section
variable {m : Nat} {l t : List Int} {hole s p : Nat} (hH : Homes m l) (h : Hole m l t hole)
include hH h
theorem TK_skip (h1 : 1 ≤ s) (hs : s < m) (hp : p = (hole + s) % m) (hx : 0 ≤ t.getD p 0) (hg : goes m l t hole p = false) : TK m l t hole s = TK m l t hole (s + 1) := by
  have hpos := hH.pos
  have hle := hH.le
  have : TK m l t hole s = tk m l 1019 t hole (s + 1) := by
    unfold TK; rw [tk, if_neg (by omega), if_neg (by rw [← hp]; omega), if_neg (by rw [← hp, hg]; decide)]
  rw [this]
  exact tk_fuel hH.pos hH _ _ _ _ _ h (by omega) (Nat.le_trans (mu_le hpos hle) (by omega)) (Nat.le_trans (mu_le hpos hle) (by omega))
theorem TK_move (h1 : 1 ≤ s) (hs : s < m) (hp : p = (hole + s) % m) (hx : 0 ≤ t.getD p 0) (hg : goes m l t hole p = true) : TK m l t hole s = TK m l (moved t hole p) p 1 := by
  have hpos := hH.pos
  have hle := hH.le
  have hpm : p < m := by rw [hp]; exact Nat.mod_lt _ (by omega)
  have : TK m l t hole s = tk m l 1019 (moved t hole p) p 1 := by
    unfold TK; rw [tk, if_neg (by omega), if_neg (by rw [← hp]; omega), if_pos (by rw [← hp]; exact hg), ← hp]
  rw [this]
  exact tk_fuel hH.pos hH _ _ _ _ _ (moved_hole h hpm hx) (by omega) (Nat.le_trans (mu_le hpos hle) (by omega)) (Nat.le_trans (mu_le hpos hle) (by omega))
end

/-- The slot of a key. -/
def posn (t : List Int) (key : Int) : Option Nat := (List.range t.length).find? fun i => t.getD i 0 == key
theorem posn_some {t : List Int} {key : Int} {i : Nat} (h : posn t key = some i) : i < t.length ∧ t.getD i 0 = key := by
  have h1 := List.find?_some h
  have h2 := List.mem_of_find?_eq_some h
  exact ⟨by simpa using h2, by simpa using h1⟩
theorem posn_none {t : List Int} {key : Int} (h : posn t key = none) : ∀ i, i < t.length → t.getD i 0 ≠ key := by
  intro i hi e
  have := List.find?_eq_none.1 h i (by simpa using hi)
  simp at this
  exact this (by simpa [List.getD] using e)
theorem posn_is {t : List Int} {n : Nat} {key : Int} {i : Nat} (hok : TabOk n t t.length) (hk : 0 ≤ key) (hi : i < t.length) (he : t.getD i 0 = key) : posn t key = some i := by
  cases hp : posn t key with
  | none => exact absurd he (posn_none hp i hi)
  | some j =>
    obtain ⟨h1, h2⟩ := posn_some hp
    by_cases e : j = i
    · rw [e]
    · by_cases hlt : j < i
      · exact absurd (h2.trans he.symm) (hok.once i hi j hlt (by omega))
      · exact absurd (he.trans h2.symm) (hok.once j h1 i (by omega) (by omega))

/-- TakeOut. -/
noncomputable def TO (m : Int) (l t : List Int) (key : Int) : List Int × Bool :=
  if FD m l t = true ∧ 0 ≤ key then
    match posn t key with
    | some i => (TK m.toNat l (t.set i (-1)) i 1, true)
    | none => ([], false)
  else ([], false)

theorem tk_len {m : Nat} {l : List Int} : ∀ f t hole s, (tk m l f t hole s).length = t.length := by
  intro f
  induction f with
  | zero => intro t hole s; rfl
  | succ f ih =>
    intro t hole s
    simp only [tk]
    split
    · rfl
    split
    · rfl
    split
    · rw [ih]; simp [moved]
    · rw [ih]
theorem TO_len (m : Int) (l t : List Int) (key : Int) : (TO m l t key).1.length ≤ 1048586 := by
  unfold TO
  split
  · rename_i h
    have h2 := VT_iff.1 (FD_iff.1 h.1).1
    have h3 := VH_iff.1 h2.1
    split
    · simp only [TK, tk_len, List.length_set]; omega
    · simp
  · simp
theorem TO_no {m : Int} {l t : List Int} {key : Int} (h : ¬ (FD m l t = true ∧ 0 ≤ key)) : TO m l t key = ([], false) := by unfold TO; rw [if_neg h]
theorem TO_none {m : Int} {l t : List Int} {key : Int} (h : FD m l t = true ∧ 0 ≤ key) (hp : posn t key = none) : TO m l t key = ([], false) := by unfold TO; rw [if_pos h, hp]
theorem TO_some {m : Int} {l t : List Int} {key : Int} {i : Nat} (h : FD m l t = true ∧ 0 ≤ key) (hp : posn t key = some i) : TO m l t key = (TK m.toNat l (t.set i (-1)) i 1, true) := by unfold TO; rw [if_pos h, hp]
/-- The first hole. -/
theorem hole_first {m : Nat} {l t : List Int} {i : Nat} (hl : t.length = m) (hok : TabOk l.length t t.length) (hi : i < m) : Hole m l (t.set i (-1)) i := by
  refine ⟨by simpa using hl, hi, ?_, by rw [getD_set (by omega), if_pos rfl]⟩
  intro j hj
  rw [List.length_set] at hj
  rw [getD_set (by omega)]
  split
  · exact .inl rfl
  · have := hok.range j hj
    by_cases e : t.getD j 0 = -1
    · exact .inl e
    · exact .inr ⟨by omega, this.2⟩
end Go.Proofs.Ytapkalpmnldhpab
