/-
  Fair tables: no key that passes a slot has a better claim to it than the key in it; a new key pushes all that follow by one slot.
-/
import Derived.Test.YtapkalpmnldhpabM10
namespace Go.Proofs.Ytapkalpmnldhpab
open Go.RowKit

theorem gives_iff {m : Nat} {l : List Int} {p o key : Nat} : gives m l p o key = true ↔ (offI m (l.getD o 0) p < offI m (l.getD key 0) p ∨ (offI m (l.getD key 0) p = offI m (l.getD o 0) p ∧ key < o)) := by
  unfold gives
  simp only [Bool.or_eq_true, Bool.and_eq_true, decide_eq_true_eq]
theorem gives_not {m : Nat} {l : List Int} {p o key : Nat} : gives m l p o key = false ↔ (offI m (l.getD key 0) p ≤ offI m (l.getD o 0) p ∧ (offI m (l.getD key 0) p = offI m (l.getD o 0) p → o ≤ key)) := by
  rw [← Bool.not_eq_true, gives_iff]; omega

/-- A key passes the slots between its home and its own. -/
theorem off_sub {m h p s : Nat} (hh : h < m) (hp : p < m) (hs : s < m) (hle : offI m p s ≤ offI m h s) : offI m h p = offI m h s - offI m p s := by
  rw [offI_val hp hs, offI_val hh hs] at hle
  rw [offI_val hh hp, offI_val hh hs, offI_val hp hs]
  by_cases c1 : h ≤ p <;> by_cases c2 : h ≤ s <;> by_cases c3 : p ≤ s <;> simp only [c1, c2, c3, if_true, if_false] at hle ⊢ <;> omega
theorem off_self {m p : Nat} (hp : p < m) : offI m p p = 0 := by rw [offI_val hp hp]; split <;> omega
theorem off_pos {m p s : Nat} (hp : p < m) (hs : s < m) (hne : p ≠ s) : 1 ≤ offI m p s := by rw [offI_val hp hs]; split <;> omega
theorem off_one {m p : Nat} (hp : p < m) (h1 : 1 < m) : offI m p ((p + 1) % m : Nat) = 1 := by
  have := offI_next (h := p) hp hp (by rw [off_self hp]; omega)
  rw [this, off_self hp]; rfl
theorem off_step {m q p : Nat} (hq : q < m) (hp : p < m) (hne : q ≠ (p + 1) % m) : offI m q ((p + 1) % m : Nat) = offI m q p + 1 := by
  refine offI_next hq hp ?_
  rw [offI_val hq hp]
  by_cases e : p + 1 < m
  · rw [Nat.mod_eq_of_lt e] at hne; split <;> omega
  · have e2 : p + 1 = m := by omega
    rw [e2, Nat.mod_self] at hne; split <;> omega

def Fr (m : Nat) (l t : List Int) : Prop := ∀ p s o x : Nat, p < m → s < m → p ≠ s → t.getD p 0 = o → t.getD s 0 = x → offI m p s ≤ offI m (l.getD x 0) s → gives m l p o x = false
/-- So of the key that looks, in the slot p. -/
def Hand (m : Nat) (l t : List Int) (key p : Nat) : Prop := ∀ q o : Nat, q < m → q ≠ p → t.getD q 0 = o → offI m q p ≤ offI m (l.getD key 0) p → gives m l q o key = false

theorem fb_swap {m : Nat} {l t : List Int} {key p o : Nat} (hlen : t.length = m) (hF : Fr m l t) (hH : Hand m l t key p) (hp : p < m) (ho : t.getD p 0 = o) (hg : gives m l p o key = true) :
    Fr m l (t.set p key) ∧ Hand m l (t.set p key) o p := by
  have hgd : ∀ j, (t.set p (key : Int)).getD j 0 = if p = j then (key : Int) else t.getD j 0 := fun j => getD_set (by omega)
  rw [gives_iff] at hg
  constructor
  · intro p1 s1 o1 x1 hp1 hs1 hne h1 h2 h3
    rw [hgd] at h1 h2
    by_cases e1 : p = p1
    · subst e1
      rw [if_pos rfl] at h1
      rw [if_neg hne] at h2
      have := hF p s1 o x1 hp hs1 hne ho h2 h3
      rw [gives_not] at this ⊢
      have : o1 = key := by omega
      subst this
      omega
    · rw [if_neg e1] at h1
      by_cases e2 : p = s1
      · subst e2
        rw [if_pos rfl] at h2
        have : x1 = key := by omega
        subst this
        exact hH p1 o1 hp1 (fun e => e1 e.symm) h1 h3
      · rw [if_neg e2] at h2
        exact hF p1 s1 o1 x1 hp1 hs1 hne h1 h2 h3
  · intro q o' hq hne h1 h3
    rw [hgd, if_neg (fun e => hne e.symm)] at h1
    exact hF q p o' o hq hp hne h1 ho h3

theorem hand_move {m : Nat} {l t : List Int} {key p o : Nat} (hhl : home l key < m) (hc : ((home l key : Nat) : Int) = l.getD key 0) (hH : Hand m l t key p) (hp : p < m) (ho : t.getD p 0 = o) (hg : gives m l p o key = false) (hlt : offI m (l.getD key 0) p + 1 < m) :
    Hand m l t key ((p + 1) % m) := by
  have hnx : offI m (l.getD key 0) ((p + 1) % m : Nat) = offI m (l.getD key 0) p + 1 := by
    rw [← hc] at hlt ⊢
    exact offI_next hhl hp hlt
  intro q o' hq hne h1 h3
  by_cases e : q = p
  · subst e
    have : o' = o := by omega
    subst this; exact hg
  · rw [hnx, off_step hq hp hne] at h3
    exact hH q o' hq e h1 (by omega)

theorem fair_put {m : Nat} {l t : List Int} {key p : Nat} (hm : 0 < m) (hlen : t.length = m) (hfit : ∀ x : Nat, x < l.length → home l x < m ∧ ((home l x : Nat) : Int) = l.getD x 0) (hok : TabOk l.length t m) (hF : Fr m l t) (hH : Hand m l t key p) (hp : p < m) (hfree : t.getD p 0 < 0)
    (hreach : ∀ i, i < m → ¬ t.getD i 0 < 0 → Reached m l t i) : Fr m l (t.set p key) := by
  have hgd : ∀ j, (t.set p (key : Int)).getD j 0 = if p = j then (key : Int) else t.getD j 0 := fun j => getD_set (by omega)
  intro p1 s1 o1 x1 hp1 hs1 hne h1 h2 h3
  rw [hgd] at h1 h2
  by_cases e1 : p = p1
  · subst e1
    rw [if_neg hne] at h2
    exfalso
    have hx := (hok.range s1 hs1).2
    obtain ⟨f1, f2⟩ := hfit x1 (by omega)
    rw [← f2] at h3
    have hsub := off_sub f1 hp hs1 h3
    have hpos := off_pos hp hs1 hne
    have hr0 := offI_range (m := m) (h := p) (p := s1) (by omega)
    have hr1 := offI_range (m := m) (h := home l x1) (p := p) (by omega)
    have hb := offI_back (m := m) (h := home l x1) (p := p) (by omega) ⟨by omega, by omega⟩
    obtain ⟨e, he⟩ := Int.eq_ofNat_of_zero_le hr1.1
    rw [he, ← Int.natCast_add, ← Int.natCast_emod] at hb
    refine hreach s1 hs1 (by rw [h2]; omega) e p ?_ ?_ hfree
    · rw [h2, Int.toNat_natCast, ← f2]; omega
    · rw [h2, Int.toNat_natCast]; show p = (home l x1 + e) % m; omega
  · rw [if_neg e1] at h1
    by_cases e2 : p = s1
    · subst e2
      rw [if_pos rfl] at h2
      have : x1 = key := by omega
      subst this
      exact hH p1 o1 hp1 (fun e => e1 e.symm) h1 h3
    · rw [if_neg e2] at h2
      exact hF p1 s1 o1 x1 hp1 hs1 hne h1 h2 h3

theorem hfit_of {m : Nat} {l : List Int} (hH : Homes m l) : ∀ x : Nat, x < l.length → home l x < m ∧ ((home l x : Nat) : Int) = l.getD x 0 := fun _ hx => ⟨hH.home_lt hx, hH.home_cast hx⟩

theorem rob_fb {m k : Nat} {l : List Int} (hH : Homes m l) (hk : k < l.length) (h : RobOk m l (rob m l k) k) (hF : Fr m l (rob m l k)) {D : Nat} (w : Way (rob m l k) m (home l k) D) : ∀ d, d ≤ D →
    Fr m l (rob1 m l (home l k) (rob m l k) k d).1 ∧ Hand m l (rob1 m l (home l k) (rob m l k) k d).1 (rob1 m l (home l k) (rob m l k) k d).2 ((home l k + d) % m) := by
  have hm := hH.pos
  have hhl := hH.home_lt hk
  have hc := hH.home_cast hk
  have hDm := w.lt
  intro d
  induction d with
  | zero =>
    intro _
    refine ⟨hF, fun q o hq hne h1 h3 => ?_⟩
    exfalso
    have h0 : offI m (l.getD k 0) ((home l k + 0) % m : Nat) = 0 := by rw [← hc]; exact offI_way hhl hm
    have := off_pos hq (Nat.mod_lt _ hm) hne
    simp only [rob1] at h3
    omega
  | succ d ih =>
    intro hd
    obtain ⟨i1, i2⟩ := ih (by omega)
    have hw := rob_walk hH hk h w d (by omega)
    have hp : (home l k + d) % m < m := Nat.mod_lt _ hm
    have hfull := w.full d _ (by omega) rfl
    have hstep : ((home l k + d) % m + 1) % m = (home l k + (d + 1)) % m := step_mod _ _ _
    have hnf : ¬ (rob1 m l (home l k) (rob m l k) k d).1.getD ((home l k + d) % m) 0 < 0 := by rw [hw.free]; exact hfull
    obtain ⟨o, ho⟩ := Int.eq_ofNat_of_zero_le (show 0 ≤ (rob1 m l (home l k) (rob m l k) k d).1.getD ((home l k + d) % m) 0 by omega)
    have hol := (hw.ok.range _ hp).2
    have hkl := hw.klt
    have hoff := hw.off
    rw [← hstep]
    unfold rob1
    rw [ho, Int.toNat_natCast]
    split
    · rename_i hg
      obtain ⟨s1, s2⟩ := fb_swap hw.len i1 i2 hp ho hg
      refine ⟨s1, ?_⟩
      dsimp only
      have hg' := gives_iff.1 hg
      have e : (((rob1 m l (home l k) (rob m l k) k d).1.set ((home l k + d) % m) ((rob1 m l (home l k) (rob m l k) k d).2 : Int))).getD ((home l k + d) % m) 0 = ((rob1 m l (home l k) (rob m l k) k d).2 : Int) := by
        rw [getD_set (by rw [hw.len]; exact hp), if_pos rfl]
      exact hand_move (hH.home_lt (by omega)) (hH.home_cast (by omega)) s2 hp e (gives_not.2 (by omega)) (by omega)
    · rename_i hg
      exact ⟨i1, hand_move (hH.home_lt (by omega)) (hH.home_cast (by omega)) i2 hp ho (by simpa using hg) (by omega)⟩

theorem rob_fair {m : Nat} {l : List Int} (hH : Homes m l) : ∀ k, k ≤ l.length → Fr m l (rob m l k) := by
  intro k
  induction k with
  | zero =>
    intro _ p s o x hp _ _ h1
    have : (rob m l 0).getD p 0 = -1 := by simp [rob, List.getD, hp]
    omega
  | succ k ih =>
    intro hk
    have ih := ih (by omega)
    have hr := rob_ok hH k (by omega)
    have hm := hH.pos
    have hhl := hH.home_lt (k := k) (by omega)
    have hlm := hH.len
    obtain ⟨D, w⟩ := way hr.len hhl (by rw [(rob_inv hH k (by omega)).2.2]; omega)
    have hw := rob_walk hH (by omega) hr w D (Nat.le_refl _)
    obtain ⟨f1, f2⟩ := rob_fb hH (by omega) hr ih w D (Nat.le_refl _)
    have hpm : (home l k + D) % m < m := Nat.mod_lt _ hm
    have hfree : (rob1 m l (home l k) (rob m l k) k D).1.getD ((home l k + D) % m) 0 < 0 := (hw.free _).2 (w.free _ rfl)
    have e3 : rob m l (k + 1) = (rob1 m l (home l k) (rob m l k) k D).1.set ((home l k + D) % m) (rob1 m l (home l k) (rob m l k) k D).2 := by
      rw [rob, w.is]
    rw [e3]
    exact fair_put hm hw.len (hfit_of hH) ⟨fun j hj => by have := hw.ok.range j hj; omega, hw.ok.once⟩ f1 f2 hpm hfree hw.reach

/-- A fair table into which a key comes: from slot E on all go one slot on. -/
def sh (m a E k : Nat) (t : List Int) : Nat → List Int
  | 0 => t.set ((a + E) % m) (k : Int)
  | j + 1 => (sh m a E k t j).set ((a + (E + (j + 1))) % m) (t.getD ((a + (E + j)) % m) 0)

theorem slot_inj {m a i j : Nat} (ha : a < m) (hi : i < m) (hj : j < m) (h : (a + i) % m = (a + j) % m) : i = j := by
  by_cases e1 : a + i < m <;> by_cases e2 : a + j < m
  · rw [Nat.mod_eq_of_lt e1, Nat.mod_eq_of_lt e2] at h; omega
  · rw [Nat.mod_eq_of_lt e1, Nat.mod_eq_sub_mod (by omega), Nat.mod_eq_of_lt (by omega)] at h; omega
  · rw [Nat.mod_eq_of_lt e2, Nat.mod_eq_sub_mod (by omega), Nat.mod_eq_of_lt (by omega)] at h; omega
  · rw [Nat.mod_eq_sub_mod (by omega), Nat.mod_eq_of_lt (show a + i - m < m by omega), Nat.mod_eq_sub_mod (show a + j ≥ m by omega), Nat.mod_eq_of_lt (by omega)] at h; omega

/-- Up to its own slot a key goes; from there on it pushes all. -/
theorem rob_shift {m k : Nat} {l : List Int} (hH : Homes m l) (hk : k < l.length) (h : RobOk m l (rob m l k) k) (hF : Fr m l (rob m l k)) {D : Nat} (w : Way (rob m l k) m (home l k) D) :
    ∃ E, E ≤ D ∧ rob m l (k + 1) = sh m (home l k) E k (rob m l k) (D - E) := by
  have hm := hH.pos
  have hhl := hH.home_lt hk
  have hc := hH.home_cast hk
  have hDm := w.lt
  have hro : ∀ d, d < D → ∃ o : Nat, (rob m l k).getD ((home l k + d) % m) 0 = (o : Int) ∧ o < k := by
    intro d hd
    have h1 := w.full d _ hd rfl
    have h2 := h.ok.range ((home l k + d) % m) (Nat.mod_lt _ hm)
    obtain ⟨o, ho⟩ := Int.eq_ofNat_of_zero_le (show 0 ≤ (rob m l k).getD ((home l k + d) % m) 0 by omega)
    exact ⟨o, ho, by omega⟩
  -- either no key has given way, or all from E on
  have key : ∀ d, d ≤ D → (rob1 m l (home l k) (rob m l k) k d = (rob m l k, k)) ∨ ∃ E j, E + j + 1 = d ∧ rob1 m l (home l k) (rob m l k) k d = (sh m (home l k) E k (rob m l k) j, ((rob m l k).getD ((home l k + (E + j)) % m) 0).toNat) ∧ offI m (l.getD ((rob m l k).getD ((home l k + (E + j)) % m) 0).toNat 0) ((home l k + (E + j)) % m : Nat) ≤ (E + j : Nat) := by
    intro d
    induction d with
    | zero => intro _; exact .inl rfl
    | succ d ih =>
      intro hd
      have hp : (home l k + d) % m < m := Nat.mod_lt _ hm
      have hw := rob_walk hH hk h w d (by omega)
      obtain ⟨x, hx, hxk⟩ := hro d (by omega)
      rcases ih (by omega) with hi | ⟨E, j, he, hi, hof⟩
      · rw [hi] at hw
        rw [rob1, hi]
        simp only
        split
        · rename_i hg
          refine .inr ⟨d, 0, by omega, by rw [sh]; rfl, ?_⟩
          rw [hx, Int.toNat_natCast] at hg
          rw [Nat.add_zero, hx, Int.toNat_natCast]
          have h1 := gives_le hg
          have h2 := hw.off
          simp only at h2
          omega
        · exact .inl rfl
      · right
        rw [hi] at hw
        have hnot : ∀ j', j' ≤ j → (sh m (home l k) E k (rob m l k) j').getD ((home l k + d) % m) 0 = (rob m l k).getD ((home l k + d) % m) 0 ∧ (sh m (home l k) E k (rob m l k) j').length = m := by
          intro j'
          induction j' with
          | zero =>
            intro _
            rw [sh]
            refine ⟨?_, by rw [List.length_set, h.len]⟩
            rw [getD_set (by rw [h.len]; exact Nat.mod_lt _ hm), if_neg]
            intro e
            have := slot_inj hhl (by omega) (by omega) e
            omega
          | succ j' ih =>
            intro hj'
            obtain ⟨g1, g2⟩ := ih (by omega)
            rw [sh]
            refine ⟨?_, by rw [List.length_set, g2]⟩
            rw [getD_set (by rw [g2]; exact Nat.mod_lt _ hm), if_neg]
            · exact g1
            · intro e
              have := slot_inj hhl (by omega) (by omega) e
              omega
        obtain ⟨hsame, hlen⟩ := hnot j (Nat.le_refl _)
        obtain ⟨o', ho', hok'⟩ := hro (E + j) (by omega)
        rw [ho', Int.toNat_natCast] at hof
        have ed : E + j + 1 = d := he
        have hpq : (home l k + d) % m = ((home l k + (E + j)) % m + 1) % m := by rw [step_mod, ← ed]
        have hqm : (home l k + (E + j)) % m < m := Nat.mod_lt _ hm
        have hne : (home l k + (E + j)) % m ≠ (home l k + d) % m := by
          intro e
          have := slot_inj hhl (by omega) (by omega) e
          omega
        have ho'l := hH.home_lt (k := o') (by omega)
        have ho'c := hH.home_cast (k := o') (by omega)
        have hxl := hH.home_lt (k := x) (by omega)
        have hxc := hH.home_cast (k := x) (by omega)
        have h1 : offI m (l.getD o' 0) ((home l k + d) % m : Nat) = offI m (l.getD o' 0) ((home l k + (E + j)) % m : Nat) + 1 := by
          rw [hpq, ← ho'c]
          refine offI_next ho'l hqm ?_
          rw [ho'c]; omega
        have hgive : gives m l ((home l k + d) % m) x o' = true := by
          apply Classical.byContradiction
          intro hng
          rw [Bool.not_eq_true] at hng
          have hng' := gives_not.1 hng
          have hr := offI_range (m := m) (h := l.getD o' 0) (p := ((home l k + (E + j)) % m : Nat)) (by omega)
          have h2 : offI m ((home l k + (E + j)) % m : Nat) ((home l k + d) % m : Nat) = 1 := by rw [hpq]; exact off_one hqm (by omega)
          have h3 := hF _ _ o' x hqm hp hne ho' hx (by rw [h2]; omega)
          rw [gives_not] at h3
          have h4 : offI m (l.getD x 0) ((home l k + (E + j)) % m : Nat) = offI m (l.getD x 0) ((home l k + d) % m : Nat) - 1 := by
            rw [← hxc, ← h2]
            exact off_sub hxl hqm hp (by rw [h2, hxc]; omega)
          have hxo : x = o' := by omega
          subst hxo
          rcases Nat.lt_or_gt_of_ne hne with hlt | hlt
          · exact h.ok.once _ hp _ hlt (by rw [ho']; omega) (by rw [ho', hx])
          · exact h.ok.once _ hqm _ hlt (by rw [hx]; omega) (by rw [ho', hx])
        refine ⟨E, j + 1, by omega, ?_, ?_⟩
        · rw [rob1, hi]
          simp only
          rw [hsame, hx, ho', Int.toNat_natCast, Int.toNat_natCast, if_pos hgive, sh, ho', show E + (j + 1) = d by omega, hx]
          simp only [Int.toNat_natCast]
        · have h5 := gives_le hgive
          rw [show E + (j + 1) = d by omega, hx, Int.toNat_natCast]
          omega
  have e3 : rob m l (k + 1) = (rob1 m l (home l k) (rob m l k) k D).1.set ((home l k + D) % m) (rob1 m l (home l k) (rob m l k) k D).2 := by
    rw [rob, w.is]
  rw [e3]
  rcases key D (Nat.le_refl _) with hi | ⟨E, j, he, hi, _⟩
  · exact ⟨D, Nat.le_refl _, by rw [hi, Nat.sub_self, sh]⟩
  · obtain ⟨o', ho', _⟩ := hro (E + j) (by omega)
    refine ⟨E, by omega, ?_⟩
    rw [hi, show D - E = j + 1 by omega, sh, ho', Int.toNat_natCast, show E + (j + 1) = D by omega]
end Go.Proofs.Ytapkalpmnldhpab
