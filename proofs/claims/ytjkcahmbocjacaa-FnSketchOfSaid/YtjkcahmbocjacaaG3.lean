/-
  The plain mathematics of chapter 2: keys that are placed, and keys that push each other.
-/
import Derived.Test.YtjkcahmbocjacaaG1
namespace Go.Proofs.Ytjkcahmbocjacaa

/-- A table whose keys are in one of their homes. -/
structure Tbl (M : Nat) (l : List (Int × Int)) (t : List Int) : Prop where
  len : t.length = M
  key : ∀ s, s < M → t.getD s 0 = -1 ∨ ∃ k : Nat, k < l.length ∧ t.getD s 0 = k ∧ (s = hA l k ∨ s = hB l k)
theorem Tbl.empty (M : Nat) (l : List (Int × Int)) : Tbl M l (List.replicate M (-1)) := ⟨by simp, fun s hs => .inl (by simp [List.getD, List.getElem?_replicate, hs])⟩
theorem Tbl.put {M : Nat} {l : List (Int × Int)} {t : List Int} (h : Tbl M l t) {s k : Nat} (_hs : s < M) (hk : k < l.length) (hh : s = hA l k ∨ s = hB l k) : Tbl M l (t.set s k) := by
  refine ⟨by simp [h.len], fun u hu => ?_⟩
  by_cases e : s = u
  · subst e; exact .inr ⟨k, hk, by simp [List.getD, h.len, hu], hh⟩
  · have : (t.set s (k : Int)).getD u 0 = t.getD u 0 := by simp [List.getD, List.getElem?_set, e]
    rw [this]; exact h.key u hu
theorem Tbl.neg {M : Nat} {l : List (Int × Int)} {t : List Int} (h : Tbl M l t) {s : Nat} (hs : s < M) (hn : t.getD s 0 < 0) : t.getD s 0 = -1 := by
  rcases h.key s hs with e | ⟨k, _, e, _⟩
  · exact e
  · omega
theorem Tbl.pos {M : Nat} {l : List (Int × Int)} {t : List Int} (h : Tbl M l t) {s : Nat} (hs : s < M) (hn : ¬ t.getD s 0 < 0) : ∃ k : Nat, k < l.length ∧ t.getD s 0 = k ∧ (s = hA l k ∨ s = hB l k) := by
  rcases h.key s hs with e | h
  · omega
  · exact h

/-- The first table of n keys from i on. -/
def plc (l : List (Int × Int)) : Nat → Nat → List Int → Option (List Int)
  | 0, _, t => some t
  | n + 1, i, t =>
    match (if t.getD (hA l i) 0 < 0 then plc l n (i + 1) (t.set (hA l i) i) else none) with
    | some r => some r
    | none => if t.getD (hB l i) 0 < 0 ∧ pA l i ≠ pB l i then plc l n (i + 1) (t.set (hB l i) i) else none
theorem plc_A {l : List (Int × Int)} {n i : Nat} {t r : List Int} (h : t.getD (hA l i) 0 < 0) (hr : plc l n (i + 1) (t.set (hA l i) i) = some r) : plc l (n + 1) i t = some r := by
  simp only [plc, if_pos h, hr]
theorem plc_notA {l : List (Int × Int)} {n i : Nat} {t : List Int} (h : t.getD (hA l i) 0 < 0 → plc l n (i + 1) (t.set (hA l i) i) = none) :
    plc l (n + 1) i t = if t.getD (hB l i) 0 < 0 ∧ pA l i ≠ pB l i then plc l n (i + 1) (t.set (hB l i) i) else none := by
  by_cases e : t.getD (hA l i) 0 < 0
  · simp only [plc, if_pos e, h e]
  · simp only [plc, if_neg e]
theorem plc_tbl {M : Nat} {l : List (Int × Int)} (hl : Prs M l) : ∀ (n i : Nat) (t r : List Int), Tbl M l t → i + n = l.length → plc l n i t = some r → Tbl M l r := by
  intro n
  induction n with
  | zero => intro i t r ht _ h; simp [plc] at h; subst h; exact ht
  | succ n ih =>
    intro i t r ht hn h
    have ha := hl.lA (k := i) (by omega)
    have hb := hl.lB (k := i) (by omega)
    by_cases hA' : t.getD (hA l i) 0 < 0 ∧ (plc l n (i + 1) (t.set (hA l i) i)).isSome
    · obtain ⟨h1, h2⟩ := hA'
      obtain ⟨r', hr'⟩ := Option.isSome_iff_exists.1 h2
      rw [plc_A h1 hr'] at h
      obtain rfl := Option.some.inj h
      exact ih _ _ _ (ht.put ha (by omega) (.inl rfl)) (by omega) hr'
    · have hno : t.getD (hA l i) 0 < 0 → plc l n (i + 1) (t.set (hA l i) i) = none := by
        intro h1
        cases e : plc l n (i + 1) (t.set (hA l i) i) with
        | none => rfl
        | some r => exact absurd ⟨h1, by rw [e]; rfl⟩ hA'
      rw [plc_notA hno] at h
      by_cases hB' : t.getD (hB l i) 0 < 0 ∧ pA l i ≠ pB l i
      · rw [if_pos hB'] at h
        exact ih _ _ _ (ht.put hb (by omega) (.inr rfl)) (by omega) h
      · rw [if_neg hB'] at h; cases h

/-- PlaceAll of valid pairs. -/
def pla (M : Nat) (l : List (Int × Int)) : Option (List Int) := plc l l.length 0 (List.replicate M (-1))
theorem pla_tbl {M : Nat} {l : List (Int × Int)} (hl : Prs M l) {r : List Int} (h : pla M l = some r) : Tbl M l r := plc_tbl hl _ _ _ _ (Tbl.empty M l) (by omega) h
/-- PlaceAll, as a function of Lean. -/
def PL (m : Int) (l : List (Int × Int)) : List Int × Bool :=
  if VP m l = true then (match pla m.toNat l with | some r => (r, true) | none => ([], false)) else ([], false)
theorem PL_len (m : Int) (l : List (Int × Int)) : (PL m l).1.length ≤ 1048586 := by
  unfold PL
  split
  · rename_i h
    obtain ⟨M, rfl, hM⟩ := Prs.of_VP h
    split
    · rename_i r hr
      have := (pla_tbl hM (by simpa using hr)).len
      have := hM.le
      simp only
      omega
    · simp
  · simp

/-- The home beside. -/
def bes (l : List (Int × Int)) (k a : Nat) : Nat := if a = hA l k then hB l k else hA l k
theorem bes_home (l : List (Int × Int)) (k a : Nat) : bes l k a = hA l k ∨ bes l k a = hB l k := by
  unfold bes; split
  · exact .inr rfl
  · exact .inl rfl
theorem bes_sub {l : List (Int × Int)} {k a : Nat} (h : a = hA l k ∨ a = hB l k) : ((hA l k : Int) + hB l k) - a = (bes l k a : Int) := by
  unfold bes; split
  · omega
  · rcases h with h | h
    · omega
    · omega

/-- A key is put into slot a, and those that it pushes go on: f moves at most. -/
def kk (l : List (Int × Int)) : Nat → Nat → Nat → List Int → Option (List Int × Nat)
  | 0, _, _, _ => none
  | f + 1, k, a, t => if t.getD a 0 < 0 then some (t.set a k, 1) else (kk l f (t.getD a 0).toNat (bes l (t.getD a 0).toNat a) (t.set a k)).map fun r => (r.1, r.2 + 1)
theorem kk_zero (l : List (Int × Int)) (k a : Nat) (t : List Int) : kk l 0 k a t = none := rfl
theorem kk_end {l : List (Int × Int)} {f k a : Nat} {t : List Int} (h : t.getD a 0 < 0) : kk l (f + 1) k a t = some (t.set a k, 1) := by simp only [kk, if_pos h]
theorem kk_on {l : List (Int × Int)} {f k a o : Nat} {t : List Int} (h : t.getD a 0 = (o : Int)) : kk l (f + 1) k a t = (kk l f o (bes l o a) (t.set a k)).map fun r => (r.1, r.2 + 1) := by
  have h1 : ¬ t.getD a 0 < 0 := by omega
  have h2 : (t.getD a 0).toNat = o := by omega
  simp only [kk, if_neg h1, h2]
theorem kk_tbl {M : Nat} {l : List (Int × Int)} (hl : Prs M l) : ∀ (f k a : Nat) (t : List Int), Tbl M l t → k < l.length → (a = hA l k ∨ a = hB l k) → ∀ r, kk l f k a t = some r → Tbl M l r.1 ∧ 1 ≤ r.2 ∧ r.2 ≤ f := by
  intro f
  induction f with
  | zero => intro k a t _ _ _ r h; cases h
  | succ f ih =>
    intro k a t ht hk ha r h
    have haM : a < M := by rcases ha with e | e <;> subst e; exact hl.lA hk; exact hl.lB hk
    by_cases hn : t.getD a 0 < 0
    · rw [kk_end hn] at h
      obtain rfl := Option.some.inj h
      exact ⟨ht.put haM hk ha, Nat.le_refl _, by simp⟩
    · obtain ⟨o, ho, e, hh⟩ := ht.pos haM hn
      rw [kk_on e, Option.map_eq_some_iff] at h
      obtain ⟨r', hr', rfl⟩ := h
      have hb := bes_home l o a
      obtain ⟨h1, h2, h3⟩ := ih o (bes l o a) _ (ht.put haM hk ha) ho hb r' hr'
      exact ⟨h1, by simp, by simp; omega⟩

/-- What is behind n moves of 30 on the way. -/
def KkAt (l : List (Int × Int)) (R : Option (List Int × Nat)) (n k a : Nat) (t : List Int) : Prop := R = (kk l (30 - n) k a t).map fun r => (r.1, r.2 + n)
theorem KkAt.start (l : List (Int × Int)) (k a : Nat) (t : List Int) : KkAt l (kk l 30 k a t) 0 k a t := by simp [KkAt]
theorem KkAt.step {l : List (Int × Int)} {R : Option (List Int × Nat)} {n k a o : Nat} {t : List Int} (h : KkAt l R n k a t) (hn : n < 30) (e : t.getD a 0 = (o : Int)) : KkAt l R (n + 1) o (bes l o a) (t.set a k) := by
  unfold KkAt at h ⊢
  rw [show 30 - n = (30 - (n + 1)) + 1 by omega, kk_on e] at h
  rw [h, Option.map_map]
  congr 1
  funext r
  simp; omega
theorem KkAt.done {l : List (Int × Int)} {R : Option (List Int × Nat)} {n k a : Nat} {t : List Int} (h : KkAt l R n k a t) (hn : n < 30) (e : t.getD a 0 < 0) : R = some (t.set a k, n + 1) := by
  unfold KkAt at h
  rw [show 30 - n = (30 - (n + 1)) + 1 by omega, kk_end e] at h
  rw [h]; simp; omega
theorem KkAt.stop {l : List (Int × Int)} {R : Option (List Int × Nat)} {k a : Nat} {t : List Int} (h : KkAt l R 30 k a t) : R = none := h

/-- The table and the moves behind the first k keys. -/
def kall (M : Nat) (l : List (Int × Int)) : Nat → Option (List Int × Nat)
  | 0 => some (List.replicate M (-1), 0)
  | k + 1 => match kall M l k with
    | none => none
    | some r => (kk l 30 k (hA l k) r.1).map fun q => (q.1, r.2 + q.2)
theorem kall_some {M : Nat} {l : List (Int × Int)} {k n q : Nat} {t u : List Int} (h : kall M l k = some (t, n)) (h' : kk l 30 k (hA l k) t = some (u, q)) : kall M l (k + 1) = some (u, n + q) := by
  simp [kall, h, h']
theorem kall_none {M : Nat} {l : List (Int × Int)} {k n : Nat} {t : List Int} (h : kall M l k = some (t, n)) (h' : kk l 30 k (hA l k) t = none) : kall M l (k + 1) = none := by
  simp [kall, h, h']
theorem kall_stays {M : Nat} {l : List (Int × Int)} {k : Nat} (h : kall M l k = none) : ∀ n, kall M l (k + n) = none := by
  intro n
  induction n with
  | zero => exact h
  | succ n ih => rw [← Nat.add_assoc]; simp [kall, ih]
theorem kall_not {M : Nat} {l : List (Int × Int)} {k : Nat} (hk : k ≤ l.length) (h : kall M l k = none) : kall M l l.length = none := by
  have := kall_stays h (l.length - k)
  rwa [Nat.add_sub_cancel' hk] at this
theorem kall_tbl {M : Nat} {l : List (Int × Int)} (hl : Prs M l) : ∀ k, k ≤ l.length → ∀ t n, kall M l k = some (t, n) → Tbl M l t ∧ n ≤ 30 * k := by
  intro k
  induction k with
  | zero => intro _ t n h; simp [kall] at h; obtain ⟨rfl, rfl⟩ := h; exact ⟨Tbl.empty M l, by omega⟩
  | succ k ih =>
    intro hk t n h
    cases e : kall M l k with
    | none => simp [kall, e] at h
    | some r =>
      obtain ⟨u, c⟩ := r
      obtain ⟨h1, h2⟩ := ih (by omega) u c e
      cases e2 : kk l 30 k (hA l k) u with
      | none => rw [kall_none e e2] at h; cases h
      | some q =>
        obtain ⟨v, d⟩ := q
        rw [kall_some e e2] at h
        simp at h
        obtain ⟨rfl, rfl⟩ := h
        obtain ⟨a, b, c'⟩ := kk_tbl hl 30 k (hA l k) u h1 (by omega) (.inl rfl) _ e2
        exact ⟨a, by simp at c'; omega⟩
/-- KickAll, as a function of Lean. -/
def KA (m : Int) (l : List (Int × Int)) : List Int × Int × Bool :=
  if VP m l = true then (match kall m.toNat l l.length with | some r => (r.1, r.2, true) | none => ([], -1, false)) else ([], -1, false)
theorem KA_len (m : Int) (l : List (Int × Int)) : (KA m l).1.length ≤ 1048586 := by
  unfold KA
  split
  · rename_i h
    obtain ⟨M, rfl, hM⟩ := Prs.of_VP h
    split
    · rename_i r hr
      have := (kall_tbl hM _ (Nat.le_refl _) r.1 r.2 (by simpa using hr)).1.len
      have := hM.le
      simp only
      omega
    · simp
  · simp
end Go.Proofs.Ytjkcahmbocjacaa
