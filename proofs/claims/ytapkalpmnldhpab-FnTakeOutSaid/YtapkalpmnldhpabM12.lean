/-
  What TakeOut leaves: the other keys, all found; and of a fair table without its last key, the fair table of the others.
-/
import Derived.Test.YtapkalpmnldhpabM11
namespace Go.Proofs.Ytapkalpmnldhpab
open Go.RowKit

theorem TabOk.inj {n : Nat} {t : List Int} {m : Nat} (h : TabOk n t m) {i j : Nat} (hi : i < m) (hj : j < m) (e : t.getD i 0 = t.getD j 0) (h0 : 0 ≤ t.getD i 0) : i = j := by
  rcases Nat.lt_trichotomy i j with hlt | he | hlt
  · exact absurd e (h.once j hj i hlt h0)
  · exact he
  · exact absurd e.symm (h.once i hi j hlt (by omega))
theorem TabOk.of_inj {n : Nat} {t : List Int} {m : Nat} (h : ∀ j, j < m → -1 ≤ t.getD j 0 ∧ t.getD j 0 < n) (hi : ∀ i j, i < m → j < m → t.getD i 0 = t.getD j 0 → 0 ≤ t.getD i 0 → i = j) : TabOk n t m :=
  ⟨h, fun j hj k hk h0 e => by have := hi k j (by omega) hj e h0; omega⟩
theorem off_rest {m h q i : Nat} (hh : h < m) (hq : q < m) (hi : i < m) (hle : offI m h q ≤ offI m h i) : offI m q i = offI m h i - offI m h q := by
  rw [offI_val hh hq, offI_val hh hi] at hle
  rw [offI_val hq hi, offI_val hh hi, offI_val hh hq]
  by_cases c1 : h ≤ q <;> by_cases c2 : h ≤ i <;> by_cases c3 : q ≤ i <;> simp only [c1, c2, c3, if_true, if_false] at hle ⊢ <;> omega
theorem offN {m h p : Nat} (hh : h < m) (hp : p < m) : ∃ o : Nat, offI m h p = o ∧ o < m ∧ (h + o) % m = p := by
  have hr := offI_range (m := m) (h := h) (p := p) (by omega)
  have hb := offI_back (m := m) (h := h) (p := p) (by omega) ⟨by omega, by omega⟩
  obtain ⟨o, ho⟩ := Int.eq_ofNat_of_zero_le hr.1
  rw [ho, ← Int.natCast_add, ← Int.natCast_emod] at hb
  exact ⟨o, ho, by omega, by omega⟩

theorem held_unset {t : List Int} {i : Nat} (h : i < t.length) (hx : 0 ≤ t.getD i 0) : held (t.set i (-1)) + 1 = held t := by
  have := countP_set (fun x : Int => decide (0 ≤ x)) t i (-1) h
  have e : t.getD i 0 = t[i] := by simp [List.getD, h]
  rw [e] at hx
  simp [hx] at this
  unfold held
  omega

/-- What holds on the way: only the hole is a free slot that a key passes; what has been looked at may not go into it. -/
structure HI (m : Nat) (l t : List Int) (hole s : Nat) : Prop where
  hol : Hole m l t hole
  ok : TabOk l.length t m
  reach : ∀ i, i < m → ¬ t.getD i 0 < 0 → ∀ d q, d < (offI m (l.getD (t.getD i 0).toNat 0) i).toNat → q = ((l.getD (t.getD i 0).toNat 0).toNat + d) % m → t.getD q 0 < 0 → q = hole
  scan : ∀ e, 1 ≤ e → e < s → ¬ t.getD ((hole + e) % m) 0 < 0 ∧ goes m l t hole ((hole + e) % m) = false
/-- What holds at the end. -/
structure Left (m : Nat) (l r t : List Int) : Prop where
  len : r.length = m
  ok : TabOk l.length r m
  reach : ∀ i, i < m → ¬ r.getD i 0 < 0 → Reached m l r i
  held : held r = held t
  mem : ∀ y : Nat, (∃ i, i < m ∧ r.getD i 0 = y) ↔ ∃ i, i < m ∧ t.getD i 0 = y

theorem HI.left {m : Nat} {l t : List Int} {hole s : Nat} (hH : Homes m l) (h : HI m l t hole s) (hno : ∀ i, i < m → ¬ t.getD i 0 < 0 → goes m l t hole i = false) : Left m l t t := by
  refine ⟨h.hol.len, h.ok, fun i hi h0 d q hd hq hf => ?_, rfl, fun y => Iff.rfl⟩
  have hqh := h.reach i hi h0 d q hd hq hf
  have hg := hno i hi h0
  obtain ⟨x, hx⟩ := Int.eq_ofNat_of_zero_le (show 0 ≤ t.getD i 0 by omega)
  have hxl := (h.ok.range i hi).2
  have hhl := hH.home_lt (k := x) (by omega)
  have hc := hH.home_cast (k := x) (by omega)
  rw [hx, Int.toNat_natCast] at hd hq
  rw [← hc] at hd
  have hq2 : q = (home l x + d) % m := hq
  obtain ⟨o, ho, hom, hoi⟩ := offN hhl hi
  have hdo : d < o := by rw [ho] at hd; omega
  have e1 : offI m (home l x) q = d := by rw [hq2]; exact offI_way hhl (by omega)
  have e2 := off_rest hhl (show q < m by rw [hqh]; exact h.hol.lt) hi (by rw [e1, ho]; omega)
  unfold goes at hg
  rw [hx, Int.toNat_natCast, ← hqh, decide_eq_false_iff_not, e2, ho, e1] at hg
  omega

theorem moved_get {m : Nat} {l t : List Int} {hole p : Nat} (h : Hole m l t hole) (hp : p < m) (j : Nat) : (moved t hole p).getD j 0 = if p = j then -1 else if hole = j then t.getD p 0 else t.getD j 0 := by
  unfold moved
  rw [getD_set (by rw [List.length_set, h.len]; exact hp)]
  split
  · rfl
  · rw [getD_set (by rw [h.len]; exact h.lt)]

theorem HI.move {m : Nat} {l t : List Int} {hole s p : Nat} (hH : Homes m l) (h : HI m l t hole s) (hp : p < m) (hx : 0 ≤ t.getD p 0) (hg : goes m l t hole p = true) :
    HI m l (moved t hole p) p 1 ∧ held (moved t hole p) = held t ∧ ∀ y : Nat, (∃ i, i < m ∧ (moved t hole p).getD i 0 = y) ↔ ∃ i, i < m ∧ t.getD i 0 = y := by
  have hgt := moved_get h.hol hp
  have hfree := h.hol.free
  have hhm := h.hol.lt
  have hne : p ≠ hole := by intro e; rw [e] at hx; omega
  obtain ⟨x, hxx⟩ := Int.eq_ofNat_of_zero_le hx
  have hxl := (h.ok.range p hp).2
  refine ⟨⟨moved_hole h.hol hp hx, TabOk.of_inj (fun j hj => ?_) (fun i j hi hj e h0 => ?_), fun i hi h0 d q hd hq hf => ?_, fun e h1 h2 => by omega⟩, ?_, fun y => ?_⟩
  · rw [hgt]
    split
    · omega
    · split
      · exact h.ok.range p hp
      · exact h.ok.range j hj
  · rw [hgt, hgt] at e
    rw [hgt] at h0
    by_cases e1 : p = i
    · rw [if_pos e1] at h0; omega
    · rw [if_neg e1] at h0 e
      by_cases e2 : p = j
      · rw [if_pos e2] at e; omega
      · rw [if_neg e2] at e
        by_cases e3 : hole = i <;> by_cases e4 : hole = j
        · omega
        · rw [if_pos e3, if_neg e4] at e
          have := h.ok.inj hp hj e (by omega)
          omega
        · rw [if_neg e3, if_pos e4] at e
          rw [if_neg e3] at h0
          have := h.ok.inj hi hp e h0
          omega
        · rw [if_neg e3, if_neg e4] at e
          rw [if_neg e3] at h0
          exact h.ok.inj hi hj e h0
  · rw [hgt] at hf
    by_cases eq : p = q
    · exact eq.symm
    · exfalso
      rw [if_neg eq] at hf
      by_cases eqh : hole = q
      · rw [if_pos eqh] at hf; omega
      · rw [if_neg eqh] at hf
        rw [hgt] at h0 hd hq
        by_cases e1 : p = i
        · rw [if_pos e1] at h0; omega
        · rw [if_neg e1] at h0 hd hq
          by_cases e2 : hole = i
          · rw [if_pos e2, hxx, Int.toNat_natCast] at hd hq
            have hhl := hH.home_lt (k := x) (by omega)
            have hc := hH.home_cast (k := x) (by omega)
            unfold goes at hg
            rw [hxx, Int.toNat_natCast, decide_eq_true_eq] at hg
            have hs := off_sub hhl hhm hp hg
            have hpos := off_pos hhm hp (fun e => hne e.symm)
            rw [← e2, ← hc, hs] at hd
            exact eqh (h.reach p hp (by omega) d q (by rw [hxx, Int.toNat_natCast, ← hc]; omega) (by rw [hxx, Int.toNat_natCast]; exact hq) hf).symm
          · rw [if_neg e2] at h0 hd hq
            exact eqh (h.reach i hi h0 d q hd hq hf).symm
  · have a1 := held_set (t := t) (i := hole) (x := t.getD p 0) (by rw [h.hol.len]; exact hhm) (by omega) hx
    have a2 := held_unset (t := t.set hole (t.getD p 0)) (i := p) (by rw [List.length_set, h.hol.len]; exact hp) (by rw [getD_set (by rw [h.hol.len]; exact hhm), if_neg (fun e => hne e.symm)]; exact hx)
    unfold moved
    omega
  · constructor
    · rintro ⟨i, hi, e⟩
      rw [hgt] at e
      by_cases e1 : p = i
      · rw [if_pos e1] at e; omega
      · rw [if_neg e1] at e
        by_cases e2 : hole = i
        · rw [if_pos e2] at e; exact ⟨p, hp, e⟩
        · rw [if_neg e2] at e; exact ⟨i, hi, e⟩
    · rintro ⟨i, hi, e⟩
      by_cases e1 : i = p
      · refine ⟨hole, hhm, ?_⟩
        rw [hgt, if_neg hne, if_pos rfl, ← e1]; exact e
      · refine ⟨i, hi, ?_⟩
        rw [hgt, if_neg (fun q => e1 q.symm), if_neg]
        · exact e
        · intro q; subst q; omega

/-- What is left when TakeOut has come to its end. -/
theorem TK_left {m : Nat} {l : List Int} (hH : Homes m l) : ∀ (N : Nat) (t : List Int) (hole s : Nat), mu m l t s ≤ N → 1 ≤ s → HI m l t hole s → Left m l (TK m l t hole s) t := by
  have hm := hH.pos
  intro N
  induction N with
  | zero =>
    intro t hole s hmu h1 h
    have hend : m ≤ s := by unfold mu at hmu; omega
    rw [TK_end hend]
    refine h.left hH fun i hi h0 => ?_
    obtain ⟨e, he, hei⟩ := met h.hol.lt hi
    have hf := h.hol.free
    have he0 : e ≠ 0 := by
      intro e0; subst e0
      rw [Nat.add_zero, Nat.mod_eq_of_lt h.hol.lt] at hei
      subst hei; omega
    have := (h.scan e (by omega) (by omega)).2
    rwa [hei] at this
  | succ N ih =>
    intro t hole s hmu h1 h
    have hhm := h.hol.lt
    have hf := h.hol.free
    have hscan : ∀ i, i < m → ¬ t.getD i 0 < 0 → ∃ e, 1 ≤ e ∧ e < m ∧ (hole + e) % m = i := by
      intro i hi h0
      obtain ⟨e, he, hei⟩ := met hhm hi
      refine ⟨e, ?_, he, hei⟩
      apply Classical.byContradiction
      intro hn
      have e0 : e = 0 := by omega
      subst e0
      rw [Nat.add_zero, Nat.mod_eq_of_lt hhm] at hei
      subst hei; omega
    by_cases hend : m ≤ s
    · rw [TK_end hend]
      refine h.left hH fun i hi h0 => ?_
      obtain ⟨e, h1, he, hei⟩ := hscan i hi h0
      have := (h.scan e h1 (by omega)).2
      rwa [hei] at this
    · obtain ⟨p, hp⟩ : ∃ p, p = (hole + s) % m := ⟨_, rfl⟩
      have hpm : p < m := by rw [hp]; exact Nat.mod_lt _ (by omega)
      by_cases hfree : t.getD p 0 < 0
      · rw [TK_free (by omega) hp hfree]
        refine h.left hH fun i hi h0 => ?_
        obtain ⟨e, h1', he, hei⟩ := hscan i hi h0
        by_cases c1 : e < s
        · have := (h.scan e h1' c1).2
          rwa [hei] at this
        by_cases c2 : e = s
        · exfalso; rw [← hei, c2, ← hp] at h0; exact h0 hfree
        · apply Classical.byContradiction
          intro hg
          have hg' : goes m l t hole i = true := by simpa using hg
          unfold goes at hg'
          rw [decide_eq_true_eq] at hg'
          obtain ⟨x, hxx⟩ := Int.eq_ofNat_of_zero_le (show 0 ≤ t.getD i 0 by omega)
          have hxl := (h.ok.range i hi).2
          have hhl := hH.home_lt (k := x) (by omega)
          have hc := hH.home_cast (k := x) (by omega)
          rw [hxx, Int.toNat_natCast] at hg'
          have o1 : offI m hole i = e := by rw [← hei]; exact offI_way hhm he
          have o2 : offI m p i = (e - s : Nat) := by
            rw [← hei, show (hole + e) % m = (p + (e - s)) % m by rw [hp, Nat.mod_add_mod]; congr 1; omega]
            exact offI_way hpm (by omega)
          have o3 := off_sub hhl hpm hi (by rw [o2]; omega)
          obtain ⟨o, ho, hom, hoi⟩ := offN hhl hpm
          have := h.reach i hi h0 o p (by rw [hxx, Int.toNat_natCast, ← hc]; omega) (by rw [hxx, Int.toNat_natCast]; exact hoi.symm) hfree
          exact slot_ne hhm h1 (by omega) (by rw [← hp]; exact this)
      · by_cases hg : goes m l t hole p = true
        · rw [TK_move hH h.hol h1 (by omega) hp (by omega) hg]
          obtain ⟨i1, i2, i3⟩ := h.move hH hpm (by omega) hg
          have hne : p ≠ hole := by rw [hp]; exact slot_ne hhm h1 (by omega)
          have hmu2 := mu_moved (m := m) (l := l) (t := t) (s := s) hm (by omega) (phi_moved hm hH h.hol hpm hne (by omega) hg)
          obtain ⟨r1, r2, r3, r4, r5⟩ := ih _ p 1 (by omega) (Nat.le_refl _) i1
          exact ⟨r1, r2, r3, r4.trans i2, fun y => (r5 y).trans (i3 y)⟩
        · have hg' : goes m l t hole p = false := by simpa using hg
          rw [TK_skip hH h.hol h1 (by omega) hp (by omega) hg']
          refine ih t hole (s + 1) (by unfold mu at hmu ⊢; omega) (by omega) ⟨h.hol, h.ok, h.reach, fun e a b => ?_⟩
          by_cases e2 : e = s
          · subst e2; rw [← hp]; exact ⟨hfree, hg'⟩
          · exact h.scan e a (by omega)

/-- The first half of the law of TakeOut. -/
theorem TO_left {m : Nat} {l t : List Int} {key : Int} (hfd : FD m l t = true) (hk : 0 ≤ key) {i : Nat} (hp : posn t key = some i) :
    ∃ r, TO m l t key = (r, true) ∧ r.length = m ∧ FD m l r = true ∧ held r + 1 = held t ∧ (∀ y : Nat, (y : Int) ≠ key → (∃ j, j < m ∧ t.getD j 0 = y) → (y : Int) ∈ r) ∧ key ∉ r ∧ (∀ x ∈ r, -1 ≤ x ∧ x < l.length) := by
  obtain ⟨hvt, hre⟩ := FD_iff.1 hfd
  obtain ⟨hv, hlen, hok⟩ := VT_iff.1 hvt
  have hH := Homes.of_VH (VH_iff.1 hv)
  rw [Int.toNat_natCast] at hH hre
  have hlen' : t.length = m := by omega
  rw [hlen'] at hok hre
  obtain ⟨hi, hti⟩ := posn_some hp
  rw [hlen'] at hi
  have hg : ∀ j, (t.set i (-1)).getD j 0 = if i = j then -1 else t.getD j 0 := fun j => getD_set (by omega)
  have hhi : HI m l (t.set i (-1)) i 1 := by
    refine ⟨hole_first hlen' (by rw [hlen']; exact hok) hi, TabOk.of_inj (fun j hj => ?_) (fun a b ha hb e h0 => ?_), fun j hj h0 d q hd hq hf => ?_, fun e a b => by omega⟩
    · rw [hg]; split
      · omega
      · exact hok.range j hj
    · rw [hg, hg] at e
      rw [hg] at h0
      by_cases e1 : i = a
      · rw [if_pos e1] at h0; omega
      · rw [if_neg e1] at e h0
        by_cases e2 : i = b
        · rw [if_pos e2] at e; omega
        · rw [if_neg e2] at e
          exact hok.inj ha hb e h0
    · rw [hg] at hf
      by_cases e1 : i = q
      · exact e1.symm
      · exfalso
        rw [if_neg e1] at hf
        rw [hg] at h0 hd hq
        by_cases e2 : i = j
        · rw [if_pos e2] at h0; omega
        · rw [if_neg e2] at h0 hd hq
          exact hre j hj h0 d q hd hq hf
  have hL := TK_left hH _ _ i 1 (Nat.le_refl _) (Nat.le_refl _) hhi
  obtain ⟨r1, r2, r3, r4, r5⟩ := hL
  have hu := held_unset (t := t) (i := i) (by omega) (by rw [hti]; exact hk)
  have hin : ∀ (r : List Int) (z : Int), r.length = m → ((∃ j, j < m ∧ r.getD j 0 = z) ↔ z ∈ r) := by
    intro r z hr
    constructor
    · rintro ⟨j, hj, e⟩
      rw [← e, List.getD_eq_getElem?_getD, List.getElem?_eq_getElem (by omega)]; exact List.getElem_mem _
    · intro h
      obtain ⟨j, hj, e⟩ := List.getElem_of_mem h
      exact ⟨j, by omega, by simp [List.getD, hj, e]⟩
  refine ⟨_, by rw [TO_some ⟨hfd, hk⟩ hp, Int.toNat_natCast], r1, FD_iff.2 ⟨VT_true hv (by rw [r1]) (by rw [r1]; exact r2), by rw [r1, Int.toNat_natCast]; exact r3⟩, by rw [r4]; exact hu, fun y hy hex => ?_, fun hmem => ?_, fun x hx => ?_⟩
  · rw [← hin _ _ r1, r5]
    obtain ⟨j, hj, e⟩ := hex
    refine ⟨j, hj, ?_⟩
    rw [hg, if_neg]
    · exact e
    · intro q; subst q; omega
  · rw [← hin _ _ r1] at hmem
    obtain ⟨K, hK⟩ := Int.eq_ofNat_of_zero_le hk
    rw [hK] at hmem
    obtain ⟨j, hj, e⟩ := (r5 K).1 hmem
    rw [hg] at e
    by_cases e1 : i = j
    · rw [if_pos e1] at e; omega
    · rw [if_neg e1] at e
      exact e1 (hok.inj hi hj (by rw [hti, e, hK]) (by rw [hti]; exact hk))
  · rw [← hin _ _ r1] at hx
    obtain ⟨j, hj, e⟩ := hx
    rw [← e]; exact r2.range j hj
end Go.Proofs.Ytapkalpmnldhpab
