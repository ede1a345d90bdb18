/-
  The plain mathematics of chapter 2: where no group has more keys than slots, there is a table.
-/
import Derived.Test.YtlkhobofbkoliaaG7
namespace Go.Proofs.Ytlkhobofbkoliaa

theorem join_self (X : List Int) (x : Int) : join X x x = X := by
  unfold join
  have : (fun g : Int => if g = x ∨ g = x then min x x else g) = id := by
    funext g
    by_cases e : g = x
    · subst e; simp
    · simp [e]
  rw [this, List.map_id]
theorem cS_join {X : List Int} {x y : Nat} (hxy : x ≠ y) (g : Nat) : cS (join X x y) g = if g = min x y then cS X x + cS X y else if g = max x y then 0 else cS X g := by
  induction X with
  | nil => simp [cS, join]
  | cons v X ih =>
    have e1 : ∀ (v : Int) (X : List Int) (g : Nat), cS (v :: X) g = cS X g + if v = (g : Int) then 1 else 0 := by
      intro v X g; simp [cS, List.countP_cons]
    have e2 : join (v :: X) x y = (if v = (x : Int) ∨ v = y then min (x : Int) y else v) :: join X x y := rfl
    rw [e2, e1, ih, e1, e1, e1]
    repeat' split
    all_goals omega

/-- The groups of the first k keys. -/
def kv (l : List (Int × Int)) (k : Nat) (X : List Int) : List Int := (l.take k).map fun p => X.getD p.1.toNat 0
theorem nK_kv (l : List (Int × Int)) (X : List Int) (g k : Nat) : nK l X g k = cS (kv l k X) g := by
  unfold nK cS kv
  rw [List.countP_map]
  rfl
theorem kv_join {M : Nat} {l : List (Int × Int)} (h : Prs M l) {X : List Int} (hl : X.length = M) (x y : Int) (k : Nat) : kv l k (join X x y) = join (kv l k X) x y := by
  unfold kv
  unfold join
  rw [List.map_map]
  refine List.map_congr_left fun p hp => ?_
  have hp2 := List.mem_of_mem_take hp
  obtain ⟨i, hi, rfl⟩ := List.getElem_of_mem hp2
  have hlt := h.lA hi
  unfold hA at hlt
  rw [pA_eq hi] at hlt
  have := join_get (X := X) (x := x) (y := y) (s := l[i].1.toNat) (by omega)
  unfold join at this
  simp only [Function.comp]
  exact this

/-- The slots and the keys of a group behind k keys. -/
def cs (M : Nat) (l : List (Int × Int)) (k g : Nat) : Nat := cS (gr M l k) g
def ce (M : Nat) (l : List (Int × Int)) (k g : Nat) : Nat := nK l (gr M l k) g k
/-- The groups of the homes of key k, behind k keys. -/
theorem gr_xy {M : Nat} {l : List (Int × Int)} (h : Prs M l) {k : Nat} (hk : k < l.length) :
    ∃ x y : Nat, (gr M l k).getD (hA l k) 0 = x ∧ (gr M l k).getD (hB l k) 0 = y ∧ x < M ∧ y < M ∧ gr M l (k + 1) = join (gr M l k) x y := by
  obtain ⟨g, _⟩ := gr_inv h k (by omega)
  have a := g.le _ (h.lA hk)
  have b := g.le _ (h.lB hk)
  have a2 := h.lA hk
  have b2 := h.lB hk
  refine ⟨((gr M l k).getD (hA l k) 0).toNat, ((gr M l k).getD (hB l k) 0).toNat, by omega, by omega, by omega, by omega, ?_⟩
  rw [gr]
  congr 1 <;> omega
theorem ce_step {M : Nat} {l : List (Int × Int)} (h : Prs M l) {k : Nat} (hk : k < l.length) {x y : Nat} (hx : (gr M l k).getD (hA l k) 0 = x) (hy : (gr M l k).getD (hB l k) 0 = y) (hJ : gr M l (k + 1) = join (gr M l k) x y) (hxy : x ≠ y) (g : Nat) :
    ce M l (k + 1) g = if g = min x y then ce M l k x + ce M l k y + 1 else if g = max x y then 0 else ce M l k g := by
  have hl := gr_len M l k
  unfold ce
  rw [nK_step hk, hJ, nK_kv, kv_join h hl, cS_join hxy, ← nK_kv, ← nK_kv, ← nK_kv, join_get (by rw [hl]; exact h.lA hk), hx]
  repeat' split
  all_goals omega
theorem cs_step {M : Nat} {l : List (Int × Int)} {k x y : Nat} (hJ : gr M l (k + 1) = join (gr M l k) x y) (hxy : x ≠ y) (g : Nat) :
    cs M l (k + 1) g = if g = min x y then cs M l k x + cs M l k y else if g = max x y then 0 else cs M l k g := by
  unfold cs
  rw [hJ, cS_join hxy]
theorem ce_same {M : Nat} {l : List (Int × Int)} {k : Nat} (hk : k < l.length) {x : Nat} (hx : (gr M l k).getD (hA l k) 0 = x) (hJ : gr M l (k + 1) = join (gr M l k) x x) (g : Nat) :
    ce M l (k + 1) g = ce M l k g + if g = x then 1 else 0 := by
  unfold ce
  rw [nK_step hk, hJ, join_self, hx]
  by_cases h1 : g = x
  · rw [if_pos h1, if_pos (by omega)]
  · rw [if_neg h1, if_neg (by omega)]
theorem cs_same {M : Nat} {l : List (Int × Int)} {k x : Nat} (hJ : gr M l (k + 1) = join (gr M l k) x x) (g : Nat) : cs M l (k + 1) g = cs M l k g := by
  unfold cs
  rw [hJ, join_self]
/-- Groups are joined: slots are at most keys and one. -/
theorem low {M : Nat} {l : List (Int × Int)} (h : Prs M l) : ∀ k, k ≤ l.length → ∀ g, cs M l k g ≤ ce M l k g + 1 := by
  intro k
  induction k with
  | zero =>
    intro _ g
    have : cs M l 0 g ≤ 1 := by
      unfold cs cS gr
      rw [List.countP_map]
      have := (one_max (g : Int) M).1
      have e : (List.range M).countP ((fun x : Int => x == (g : Int)) ∘ fun s : Nat => (s : Int)) = (List.range M).countP (fun s : Nat => (g : Int) == (s : Int)) := by
        refine countP_same (fun u => ?_) M
        simp only [Function.comp]
        rw [Bool.eq_iff_iff]; simp; omega
      omega
    omega
  | succ k ih =>
    intro hk g
    obtain ⟨x, y, hx, hy, hxM, hyM, hJ⟩ := gr_xy h (k := k) (by omega)
    have i0 := ih (by omega)
    by_cases hxy : x = y
    · subst hxy
      rw [cs_same hJ, ce_same (by omega) hx hJ]
      have := i0 g
      omega
    · rw [cs_step hJ hxy, ce_step h (by omega) hx hy hJ hxy]
      have := i0 g
      have := i0 x
      have := i0 y
      split
      · omega
      · split <;> omega
/-- No group has more keys than slots, behind k keys. -/
def Fine (M : Nat) (l : List (Int × Int)) (k : Nat) : Prop := ∀ g, ce M l k g ≤ cs M l k g
theorem Fine.back {M : Nat} {l : List (Int × Int)} (h : Prs M l) {k : Nat} (hk : k < l.length) (hf : Fine M l (k + 1)) : Fine M l k := by
  intro g
  obtain ⟨x, y, hx, hy, hxM, hyM, hJ⟩ := gr_xy h hk
  have lo := low h k (by omega)
  by_cases hxy : x = y
  · subst hxy
    have := hf g
    rw [cs_same hJ, ce_same hk hx hJ] at this
    omega
  · have h1 := hf (min x y)
    rw [cs_step hJ hxy, ce_step h hk hx hy hJ hxy, if_pos rfl, if_pos rfl] at h1
    have := lo x
    have := lo y
    by_cases e1 : g = x
    · subst e1; omega
    · by_cases e2 : g = y
      · subst e2; omega
      · have h2 := hf g
        rw [cs_step hJ hxy, ce_step h hk hx hy hJ hxy, if_neg (by omega), if_neg (by omega), if_neg (by omega), if_neg (by omega)] at h2
        exact h2
/-- A place for each of the first k keys, and a free slot, as one likes, in each group that has one slot more than keys. -/
def Places (M : Nat) (l : List (Int × Int)) (k : Nat) : Prop :=
  ∀ r : Nat → Nat, (∀ g, ce M l k g + 1 = cs M l k g → (gr M l k).getD (r g) 0 = (g : Int)) →
    ∃ f : Nat → Nat, (∀ i, i < k → f i = hA l i ∨ f i = hB l i) ∧ (∀ i j, i < k → j < k → f i = f j → i = j) ∧ (∀ i g, i < k → ce M l k g + 1 = cs M l k g → f i ≠ r g)
theorem Places.add {M : Nat} {l : List (Int × Int)} {k : Nat} {f r' : Nat → Nat} {s : Nat} (h1 : ∀ i, i < k → f i = hA l i ∨ f i = hB l i) (h2 : ∀ i j, i < k → j < k → f i = f j → i = j) (hs : s = hA l k ∨ s = hB l k)
    (h3 : ∀ i, i < k → f i ≠ s) (h4 : ∀ i g, i < k → ce M l (k + 1) g + 1 = cs M l (k + 1) g → f i ≠ r' g) (h5 : ∀ g, ce M l (k + 1) g + 1 = cs M l (k + 1) g → s ≠ r' g) :
    ∃ f : Nat → Nat, (∀ i, i < k + 1 → f i = hA l i ∨ f i = hB l i) ∧ (∀ i j, i < k + 1 → j < k + 1 → f i = f j → i = j) ∧ (∀ i g, i < k + 1 → ce M l (k + 1) g + 1 = cs M l (k + 1) g → f i ≠ r' g) := by
  refine ⟨fun i => if i = k then s else f i, fun i hi => ?_, fun i j hi hj e => ?_, fun i g hi hg => ?_⟩
  · by_cases e : i = k
    · subst e; simp only [if_true]; exact hs
    · simp only [if_neg e]; exact h1 i (by omega)
  · by_cases e1 : i = k
    · by_cases e2 : j = k
      · omega
      · simp only [if_pos e1, if_neg e2] at e
        exact absurd e.symm (h3 j (by omega))
    · by_cases e2 : j = k
      · simp only [if_neg e1, if_pos e2] at e
        exact absurd e (h3 i (by omega))
      · simp only [if_neg e1, if_neg e2] at e
        exact h2 i j (by omega) (by omega) e
  · by_cases e : i = k
    · simp only [if_pos e]; exact h5 g hg
    · simp only [if_neg e]; exact h4 i g (by omega) hg
theorem places {M : Nat} {l : List (Int × Int)} (h : Prs M l) : ∀ k, k ≤ l.length → Fine M l k → Places M l k := by
  intro k
  induction k with
  | zero => intro _ _ r _; exact ⟨fun _ => 0, fun i hi => by omega, fun i j hi => by omega, fun i g hi => by omega⟩
  | succ k ih =>
    intro hk hf
    have hk' : k < l.length := by omega
    have hpl := ih (by omega) (hf.back h hk')
    have hfk := hf.back h hk'
    obtain ⟨x, y, hx, hy, hxM, hyM, hJ⟩ := gr_xy h hk'
    have lo := low h k (by omega)
    intro r' hr'
    by_cases hxy : x = y
    · subst hxy
      have hfx := hf x
      rw [cs_same hJ, ce_same hk' hx hJ, if_pos rfl] at hfx
      have hother : ∀ g, ce M l (k + 1) g + 1 = cs M l (k + 1) g → g ≠ x ∧ ce M l k g + 1 = cs M l k g ∧ (gr M l k).getD (r' g) 0 = (g : Int) := by
        intro g hg
        have hg2 := hr' g hg
        rw [hJ, join_self] at hg2
        rw [cs_same hJ, ce_same hk' hx hJ] at hg
        by_cases e : g = x
        · subst e; rw [if_pos rfl] at hg; have := lo g; omega
        · rw [if_neg e] at hg; exact ⟨e, by omega, hg2⟩
      obtain ⟨f, f1, f2, f3⟩ := hpl (fun g => if g = x then hA l k else if ce M l (k + 1) g + 1 = cs M l (k + 1) g then r' g else 0) (fun g hg => by
        by_cases e : g = x
        · subst e; simp only [if_true]; exact hx
        · have hg' : ce M l (k + 1) g + 1 = cs M l (k + 1) g := by
            rw [cs_same hJ, ce_same hk' hx hJ, if_neg e]; omega
          simp only [if_neg e, if_pos hg']
          exact (hother g hg').2.2)
      refine Places.add (s := hA l k) f1 f2 (.inl rfl) (fun i hi => ?_) (fun i g hi hg => ?_) (fun g hg => ?_)
      · have := f3 i x hi (by have := lo x; omega)
        simpa using this
      · obtain ⟨e, hg2, _⟩ := hother g hg
        have := f3 i g hi hg2
        simpa only [if_neg e, if_pos hg] using this
      · obtain ⟨e, _, hg3⟩ := hother g hg
        intro hh
        rw [← hh, hx] at hg3
        omega
    · have hfm := hf (min x y)
      rw [cs_step hJ hxy, ce_step h hk' hx hy hJ hxy, if_pos rfl, if_pos rfl] at hfm
      have lx := lo x
      have ly := lo y
      have fx := hfk x
      have fy := hfk y
      -- the free slots of the other groups are the same
      have hother : ∀ g, g ≠ x → g ≠ y → (ce M l (k + 1) g = ce M l k g ∧ cs M l (k + 1) g = cs M l k g) := by
        intro g e1 e2
        rw [cs_step hJ hxy, ce_step h hk' hx hy hJ hxy, if_neg (by omega), if_neg (by omega), if_neg (by omega), if_neg (by omega)]
        exact ⟨rfl, rfl⟩
      have hmx : cs M l (k + 1) (max x y) = 0 := by
        rw [cs_step hJ hxy, if_neg (by omega), if_pos rfl]
      have hget : ∀ g, ce M l (k + 1) g + 1 = cs M l (k + 1) g → (gr M l k).getD (r' g) 0 = (g : Int) ∨ (g = min x y ∧ ((gr M l k).getD (r' g) 0 = (x : Int) ∨ (gr M l k).getD (r' g) 0 = (y : Int))) := by
        intro g hg
        have hg2 := hr' g hg
        rw [hJ] at hg2
        by_cases hlt : r' g < (gr M l k).length
        · rw [join_get hlt] at hg2
          by_cases e : (gr M l k).getD (r' g) 0 = (x : Int) ∨ (gr M l k).getD (r' g) 0 = (y : Int)
          · rw [if_pos e] at hg2
            exact .inr ⟨by omega, e⟩
          · rw [if_neg e] at hg2; exact .inl hg2
        · left
          have e1 : (join (gr M l k) x y).getD (r' g) 0 = 0 := by
            rw [List.getD_eq_getElem?_getD, List.getElem?_eq_none (by rw [join_len]; omega)]; rfl
          have e2 : (gr M l k).getD (r' g) 0 = 0 := by
            rw [List.getD_eq_getElem?_getD, List.getElem?_eq_none (by omega)]; rfl
          rw [e1] at hg2
          rw [e2]; exact hg2
      -- put key k into slot s of group z; the free slot of the other group is q
      have put : ∀ (s z z' q : Nat), (s = hA l k ∨ s = hB l k) → (gr M l k).getD s 0 = (z : Int) → ce M l k z + 1 = cs M l k z → ((z = x ∧ z' = y) ∨ (z = y ∧ z' = x)) →
          (ce M l k z' + 1 = cs M l k z' → (gr M l k).getD q 0 = (z' : Int) ∧ r' (min x y) = q) →
          (ce M l k z' = cs M l k z' → ¬ ce M l (k + 1) (min x y) + 1 = cs M l (k + 1) (min x y)) →
          ∃ f : Nat → Nat, (∀ i, i < k + 1 → f i = hA l i ∨ f i = hB l i) ∧ (∀ i j, i < k + 1 → j < k + 1 → f i = f j → i = j) ∧ (∀ i g, i < k + 1 → ce M l (k + 1) g + 1 = cs M l (k + 1) g → f i ≠ r' g) := by
        intro s z z' q hs hsz htz hzz hq hfull
        have lz' : cs M l k z' ≤ ce M l k z' + 1 := lo z'
        have fz' := hfk z'
        obtain ⟨f, f1, f2, f3⟩ := hpl (fun g => if g = z then s else if g = z' then q else if ce M l (k + 1) g + 1 = cs M l (k + 1) g then r' g else 0) (fun g hg => by
          by_cases e : g = z
          · subst e; simp only [if_true]; exact hsz
          · by_cases e2 : g = z'
            · subst e2; simp only [if_neg e, if_true]; exact (hq hg).1
            · have ho := hother g (by omega) (by omega)
              have hg' : ce M l (k + 1) g + 1 = cs M l (k + 1) g := by rw [ho.1, ho.2]; exact hg
              simp only [if_neg e, if_neg e2, if_pos hg']
              rcases hget g hg' with h1 | h1
              · exact h1
              · omega)
        refine Places.add (s := s) f1 f2 hs (fun i hi => ?_) (fun i g hi hg => ?_) (fun g hg => ?_)
        · have := f3 i z hi htz
          simpa using this
        · by_cases eM : g = max x y
          · rw [eM, hmx] at hg; omega
          · by_cases em : g = min x y
            · subst em
              have ht' : ce M l k z' + 1 = cs M l k z' := by
                apply Classical.byContradiction
                intro hn
                exact hfull (by omega) hg
              have := f3 i z' hi ht'
              rw [if_neg (by omega), if_pos rfl, ← (hq ht').2] at this
              exact this
            · have ho := hother g (by omega) (by omega)
              have := f3 i g hi (by rw [← ho.1, ← ho.2]; exact hg)
              rw [if_neg (by omega), if_neg (by omega), if_pos hg] at this
              exact this
        · intro hh
          by_cases eM : g = max x y
          · rw [eM, hmx] at hg; omega
          · by_cases em : g = min x y
            · subst em
              have ht' : ce M l k z' + 1 = cs M l k z' := by
                apply Classical.byContradiction
                intro hn
                exact hfull (by omega) hg
              have h1 := hq ht'
              rw [h1.2] at hh
              rw [← hh, hsz] at h1
              omega
            · rcases hget g hg with h1 | h1
              · rw [← hh, hsz] at h1; omega
              · omega
      by_cases tx : ce M l k x + 1 = cs M l k x
      · by_cases ty : ce M l k y + 1 = cs M l k y
        · -- both have a free slot: the group has the one that is asked
          have hmin : ce M l (k + 1) (min x y) + 1 = cs M l (k + 1) (min x y) := by
            rw [cs_step hJ hxy, ce_step h hk' hx hy hJ hxy, if_pos rfl, if_pos rfl]; omega
          have hg := hget (min x y) hmin
          have hg' : (gr M l k).getD (r' (min x y)) 0 = (x : Int) ∨ (gr M l k).getD (r' (min x y)) 0 = (y : Int) := by
            rcases hg with h1 | h1
            · by_cases e : x ≤ y
              · left; rw [h1]; omega
              · right; rw [h1]; omega
            · exact h1.2
          rcases hg' with h1 | h1
          · exact put (hB l k) y x (r' (min x y)) (.inr rfl) hy ty (.inr ⟨rfl, rfl⟩) (fun _ => ⟨h1, rfl⟩) (fun hh => by omega)
          · exact put (hA l k) x y (r' (min x y)) (.inl rfl) hx tx (.inl ⟨rfl, rfl⟩) (fun _ => ⟨h1, rfl⟩) (fun hh => by omega)
        · refine put (hA l k) x y 0 (.inl rfl) hx tx (.inl ⟨rfl, rfl⟩) (fun hh => absurd hh ty) (fun _ => ?_)
          rw [cs_step hJ hxy, ce_step h hk' hx hy hJ hxy, if_pos rfl, if_pos rfl]; omega
      · have ty : ce M l k y + 1 = cs M l k y := by omega
        refine put (hB l k) y x 0 (.inr rfl) hy ty (.inr ⟨rfl, rfl⟩) (fun hh => absurd hh tx) (fun _ => ?_)
        rw [cs_step hJ hxy, ce_step h hk' hx hy hJ hxy, if_pos rfl, if_pos rfl]; omega

/-- Where there is room, each key has a place of its own. -/
theorem rmy_places {M : Nat} {l : List (Int × Int)} (h : Prs M l) (hr : rmy M l = true) : ∃ f : Nat → Nat, (∀ i, i < l.length → f i = hA l i ∨ f i = hB l i) ∧ ∀ i j, i < l.length → j < l.length → f i = f j → i = j := by
  have hf : Fine M l l.length := by
    intro g
    unfold ce cs
    rw [nK_all]
    by_cases hg : g < M
    · exact rmy_iff.1 hr g hg
    · have : cK l (gr M l l.length) g = 0 := by
        unfold cK
        rw [List.countP_eq_zero]
        intro p hp
        obtain ⟨i, hi, rfl⟩ := List.getElem_of_mem hp
        have hlt := h.lA hi
        unfold hA at hlt
        rw [pA_eq hi] at hlt
        have := (gr_inv h l.length (Nat.le_refl _)).1.le _ hlt
        simp only [beq_iff_eq]
        omega
      omega
  obtain ⟨f, f1, f2, _⟩ := places h l.length (Nat.le_refl _) hf (fun g => ((List.range M).find? fun s => (gr M l l.length).getD s 0 == (g : Int)).getD 0) (fun g hg => by
    have hpos : 0 < cS (gr M l l.length) g := by unfold cs at hg; omega
    unfold cS at hpos
    rw [countP_range, gr_len] at hpos
    rw [List.countP_pos_iff] at hpos
    obtain ⟨s, hs, hp⟩ := hpos
    cases hfind : (List.range M).find? fun s => (gr M l l.length).getD s 0 == (g : Int) with
    | none =>
      rw [List.find?_eq_none] at hfind
      exact absurd hp (hfind s hs)
    | some q =>
      have := List.find?_some hfind
      simpa using this)
  exact ⟨f, f1, f2⟩
/-- The search finds a table where each key has a place of its own. -/
theorem plc_finds {M : Nat} {l : List (Int × Int)} (h : Prs M l) {f : Nat → Nat} (f1 : ∀ i, i < l.length → f i = hA l i ∨ f i = hB l i) (f2 : ∀ i j, i < l.length → j < l.length → f i = f j → i = j) :
    ∀ n i t, i + n = l.length → t.length = M → (∀ s, s < M → (¬ t.getD s 0 < 0 → ∃ j, j < i ∧ f j = s)) → (plc l n i t).isSome = true := by
  intro n
  induction n with
  | zero => intro i t _ _ _; rfl
  | succ n ih =>
    intro i t hi hl ho
    have hil : i < l.length := by omega
    have lA := h.lA hil
    have lB := h.lB hil
    have free : ∀ s, s < M → f i = s → t.getD s 0 < 0 := by
      intro s hs e
      apply Classical.byContradiction
      intro hn
      obtain ⟨j, hj, hj2⟩ := ho s hs hn
      have := f2 i j hil (by omega) (by omega)
      omega
    have next : ∀ s, s < M → f i = s → (plc l n (i + 1) (t.set s i)).isSome = true := by
      intro s hs e
      refine ih (i + 1) _ (by omega) (by simp [hl]) fun u hu hn => ?_
      rw [getD_setP (by omega)] at hn
      by_cases e2 : u = s
      · exact ⟨i, by omega, by omega⟩
      · rw [if_neg e2] at hn
        obtain ⟨j, hj, hj2⟩ := ho u hu hn
        exact ⟨j, by omega, hj2⟩
    by_cases hA' : t.getD (hA l i) 0 < 0 ∧ (plc l n (i + 1) (t.set (hA l i) i)).isSome
    · obtain ⟨h1, h2⟩ := hA'
      obtain ⟨r', hr'⟩ := Option.isSome_iff_exists.1 h2
      rw [plc_A h1 hr']; rfl
    · have hno : t.getD (hA l i) 0 < 0 → plc l n (i + 1) (t.set (hA l i) i) = none := by
        intro h1
        cases e : plc l n (i + 1) (t.set (hA l i) i) with
        | none => rfl
        | some r => exact absurd ⟨h1, by rw [e]; rfl⟩ hA'
      have hfA : f i ≠ hA l i := fun e => hA' ⟨free _ lA e, next _ lA e⟩
      have hfB : f i = hB l i := by
        rcases f1 i hil with e | e
        · exact absurd e hfA
        · exact e
      have hne : pA l i ≠ pB l i := by
        intro e
        apply hfA
        rw [hfB]
        have := h.cA hil
        have := h.cB hil
        omega
      rw [plc_notA hno, if_pos ⟨free _ lB hfB, hne⟩]
      exact next _ lB hfB
/-- Room is enough. -/
theorem rmy_pla {M : Nat} {l : List (Int × Int)} (h : Prs M l) : rmy M l = (pla M l).isSome := by
  cases hr : rmy M l with
  | true =>
    obtain ⟨f, f1, f2⟩ := rmy_places h hr
    refine (plc_finds h f1 f2 l.length 0 _ (by omega) (by simp) fun s hs hn => ?_).symm
    simp [List.getD, List.getElem?_replicate, hs] at hn
  | false =>
    cases hp : pla M l with
    | none => rfl
    | some r => rw [(pla_law h hp).2.2] at hr; cases hr
end Go.Proofs.Ytlkhobofbkoliaa
