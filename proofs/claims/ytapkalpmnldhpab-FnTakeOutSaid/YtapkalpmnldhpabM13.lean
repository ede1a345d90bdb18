/-
  A fair table without its last key is the fair table of the others.
-/
import Derived.Test.YtapkalpmnldhpabM12
namespace Go.Proofs.Ytapkalpmnldhpab
open Go.RowKit

theorem sh_len (m a E k : Nat) (t : List Int) : ∀ j, (sh m a E k t j).length = t.length := by
  intro j
  induction j with
  | zero => simp [sh]
  | succ j ih => simp [sh, ih]
/-- The pushed table, slot by slot. -/
theorem sh_get {m a E k : Nat} {t : List Int} (ha : a < m) (hl : t.length = m) : ∀ j, E + j < m → ∀ e, e < m → (sh m a E k t j).getD ((a + e) % m) 0 = if e = E then (k : Int) else if E < e ∧ e ≤ E + j then t.getD ((a + (e - 1)) % m) 0 else t.getD ((a + e) % m) 0 := by
  intro j
  induction j with
  | zero =>
    intro hE e he
    rw [sh, getD_set (by rw [hl]; exact Nat.mod_lt _ (by omega))]
    by_cases c : e = E
    · subst c; rw [if_pos rfl, if_pos rfl]
    · rw [if_neg (fun q => c (slot_inj ha (by omega) he q).symm), if_neg c, if_neg (by omega)]
  | succ j ih =>
    intro hE e he
    rw [sh, getD_set (by rw [sh_len, hl]; exact Nat.mod_lt _ (by omega))]
    by_cases c : e = E + (j + 1)
    · subst c
      rw [if_pos rfl, if_neg (by omega), if_pos (by omega)]
      congr 2
    · rw [if_neg (fun q => c (slot_inj ha (by omega) he q).symm), ih (by omega) e he]
      by_cases c2 : e = E
      · rw [if_pos c2, if_pos c2]
      · rw [if_neg c2, if_neg c2]
        by_cases c3 : E < e ∧ e ≤ E + j
        · rw [if_pos c3, if_pos (by omega)]
        · rw [if_neg c3, if_neg (by omega)]

theorem ext_slots {m a : Nat} {t t' : List Int} (ha : a < m) (hl : t.length = m) (hl' : t'.length = m) (h : ∀ e, e < m → t.getD ((a + e) % m) 0 = t'.getD ((a + e) % m) 0) : t = t' := by
  refine List.ext_getElem (by rw [hl, hl']) fun i h1 h2 => ?_
  obtain ⟨e, he, hei⟩ := met ha (show i < m by omega)
  have := h e he
  rw [hei] at this
  simpa [List.getD, h1, h2] using this

/-- Nothing goes into a slot that was free in a table whose keys are all found. -/
theorem TK_rest {m : Nat} {l t : List Int} (hH : Homes m l) {hole : Nat} (h : Hole m l t hole) (hok : TabOk l.length t m) (hre : ∀ i, i < m → ¬ t.getD i 0 < 0 → Reached m l t i) : ∀ (N s : Nat), m - s ≤ N → 1 ≤ s → TK m l t hole s = t := by
  have hm := hH.pos
  have hhm := h.lt
  intro N
  induction N with
  | zero => intro s hN _; exact TK_end (by omega)
  | succ N ih =>
    intro s hN h1
    by_cases hend : m ≤ s
    · exact TK_end hend
    · obtain ⟨p, hp⟩ : ∃ p, p = (hole + s) % m := ⟨_, rfl⟩
      have hpm : p < m := by rw [hp]; exact Nat.mod_lt _ (by omega)
      by_cases hfree : t.getD p 0 < 0
      · exact TK_free (by omega) hp hfree
      · have hg : goes m l t hole p = false := by
          apply Classical.byContradiction
          intro hg
          have hg' : goes m l t hole p = true := by simpa using hg
          unfold goes at hg'
          rw [decide_eq_true_eq] at hg'
          obtain ⟨x, hxx⟩ := Int.eq_ofNat_of_zero_le (show 0 ≤ t.getD p 0 by omega)
          have hxl := (hok.range p hpm).2
          have hhl := hH.home_lt (k := x) (by omega)
          have hc := hH.home_cast (k := x) (by omega)
          rw [hxx, Int.toNat_natCast] at hg'
          have hs := off_sub hhl hhm hpm hg'
          have hpos := off_pos hhm hpm (fun e => slot_ne hhm h1 (by omega) (by rw [← hp]; exact e.symm))
          obtain ⟨o, ho, hom, hoi⟩ := offN hhl hhm
          exact hre p hpm hfree o hole (by rw [hxx, Int.toNat_natCast, ← hc]; omega) (by rw [hxx, Int.toNat_natCast]; exact hoi.symm) (by rw [h.free]; omega)
        rw [TK_skip hH h h1 (by omega) hp (by omega) hg]
        exact ih (s + 1) (by omega) (by omega)

/-- Taking out the last key undoes the pushing. -/
theorem TK_unpush {m : Nat} {l t : List Int} (hH : Homes m l) {a E k D : Nat} (ha : a < m) (hl : t.length = m) (hED : E ≤ D) (hD : D < m) (hk : k < l.length) (hok : TabOk l.length t m) (hre : ∀ i, i < m → ¬ t.getD i 0 < 0 → Reached m l t i)
    (hfull : ∀ e, e < D → ¬ t.getD ((a + e) % m) 0 < 0) (hfree : t.getD ((a + D) % m) 0 = -1) (hpass : ∀ e, E ≤ e → e < D → offI m (l.getD (t.getD ((a + e) % m) 0).toNat 0) ((a + e) % m : Nat) + 1 < m) :
    TK m l ((sh m a E k t (D - E)).set ((a + E) % m) (-1)) ((a + E) % m) 1 = t := by
  have hm := hH.pos
  have key : ∀ j, E + j ≤ D → ∃ U : List Int, TK m l ((sh m a E k t (D - E)).set ((a + E) % m) (-1)) ((a + E) % m) 1 = TK m l U ((a + (E + j)) % m) 1 ∧ Hole m l U ((a + (E + j)) % m) ∧
      ∀ e, e < m → U.getD ((a + e) % m) 0 = if e = E + j then -1 else if E + j < e ∧ e ≤ D then t.getD ((a + (e - 1)) % m) 0 else t.getD ((a + e) % m) 0 := by
    intro j
    induction j with
    | zero =>
      intro _
      have hpm : (a + E) % m < m := Nat.mod_lt _ hm
      have hU : ∀ e, e < m → ((sh m a E k t (D - E)).set ((a + E) % m) (-1)).getD ((a + e) % m) 0 = if e = E + 0 then -1 else if E + 0 < e ∧ e ≤ D then t.getD ((a + (e - 1)) % m) 0 else t.getD ((a + e) % m) 0 := by
        intro e he
        rw [getD_set (by rw [sh_len, hl]; exact hpm)]
        by_cases c : e = E
        · subst c; rw [if_pos rfl, if_pos (by omega)]
        · rw [if_neg (fun q => c (slot_inj ha (by omega) he q).symm), sh_get ha hl _ (by omega) e he, if_neg c, if_neg (by omega : ¬ e = E + 0)]
          by_cases c3 : E < e ∧ e ≤ D
          · rw [if_pos (by omega), if_pos (by omega)]
          · rw [if_neg (by omega), if_neg (by omega)]
      refine ⟨_, rfl, ⟨by rw [List.length_set, sh_len, hl], hpm, ?_, ?_⟩, hU⟩
      · intro i hi
        rw [List.length_set, sh_len, hl] at hi
        obtain ⟨e, he, hei⟩ := met ha hi
        rw [← hei, hU e he]
        split
        · exact .inl rfl
        · have hr : ∀ q, q < m → t.getD q 0 = -1 ∨ (0 ≤ t.getD q 0 ∧ t.getD q 0 < l.length) := fun q hq => by have := hok.range q hq; omega
          split
          · exact hr _ (Nat.mod_lt _ hm)
          · exact hr _ (Nat.mod_lt _ hm)
      · have := hU E (by omega)
        rw [if_pos (by omega)] at this
        exact this
    | succ j ih =>
      intro hj
      obtain ⟨U, hT, hh, hU⟩ := ih (by omega)
      obtain ⟨p, hp⟩ : ∃ p, p = ((a + (E + j)) % m + 1) % m := ⟨_, rfl⟩
      have hpp : p = (a + (E + (j + 1))) % m := by rw [hp, step_mod]; congr 1
      have hpm : p < m := by rw [hp]; exact Nat.mod_lt _ hm
      have hUp : U.getD p 0 = t.getD ((a + (E + j)) % m) 0 := by
        have := hU (E + (j + 1)) (by omega)
        rw [if_neg (by omega), if_pos (by omega)] at this
        rw [hpp, this]; congr 2
      have hf := hfull (E + j) (by omega)
      obtain ⟨x, hxx⟩ := Int.eq_ofNat_of_zero_le (show 0 ≤ t.getD ((a + (E + j)) % m) 0 by omega)
      have hqm : (a + (E + j)) % m < m := Nat.mod_lt _ hm
      have hxl := (hok.range _ hqm).2
      have hhl := hH.home_lt (k := x) (by omega)
      have hc := hH.home_cast (k := x) (by omega)
      have hps := hpass (E + j) (by omega) (by omega)
      rw [hxx, Int.toNat_natCast, ← hc] at hps
      have hnx := offI_next hhl hqm hps
      have h1m : 1 < m := by omega
      have hgo : goes m l U ((a + (E + j)) % m) p = true := by
        unfold goes
        rw [hUp, hxx, Int.toNat_natCast, decide_eq_true_eq, hp, off_one hqm h1m, hnx]
        have := (offI_range (m := m) (h := home l x) (p := ((a + (E + j)) % m : Nat)) (by omega)).1
        omega
      refine ⟨moved U ((a + (E + j)) % m) p, ?_, ?_, ?_⟩
      · rw [hT, TK_move hH hh (Nat.le_refl _) h1m hp (by rw [hUp]; omega) hgo, ← hpp]
      · rw [← hpp]; exact moved_hole hh hpm (by rw [hUp]; omega)
      · intro e he
        rw [moved_get hh hpm, hUp]
        by_cases c : e = E + (j + 1)
        · rw [if_pos (by rw [hpp, c]), if_pos c]
        · rw [if_neg (fun q => c (slot_inj ha (show E + (j + 1) < m by omega) he (by rw [← hpp]; exact q)).symm), if_neg c]
          by_cases c2 : e = E + j
          · subst c2; rw [if_pos rfl, if_neg (by omega)]
          · rw [if_neg (fun q => c2 (slot_inj ha (show E + j < m by omega) he q).symm), hU e he, if_neg c2]
            by_cases c3 : E + j < e ∧ e ≤ D
            · rw [if_pos c3, if_pos (by omega)]
            · rw [if_neg c3, if_neg (by omega)]
  obtain ⟨U, hT, hh, hU⟩ := key (D - E) (by omega)
  have hUt : U = t := by
    refine ext_slots ha hh.len hl fun e he => ?_
    rw [hU e he]
    by_cases c : e = E + (D - E)
    · rw [if_pos c, c, show E + (D - E) = D by omega, hfree]
    · rw [if_neg c, if_neg (by omega)]
  rw [hT]
  rw [hUt] at hh ⊢
  exact TK_rest hH hh hok hre _ 1 (Nat.le_refl _) (Nat.le_refl _)

/-- The fair table's keys depend on their own homes alone. -/
theorem rob1_congr {m k a D : Nat} {l l' t0 : List Int} (hm : 0 < m) (hl : t0.length = m) (hk : Keys k t0) (hw : Way t0 m a D) (he : ∀ i, i < k + 1 → l.getD i 0 = l'.getD i 0) : ∀ d, d ≤ D → rob1 m l a t0 k d = rob1 m l' a t0 k d := by
  intro d
  induction d with
  | zero => intro _; rfl
  | succ d ih =>
    intro hd
    have ih := ih (by omega)
    obtain ⟨h1, h2, h3, h4⟩ := rob1_inv (l := l') hm hl hk hw d (by omega)
    have hp : (a + d) % m < m := Nat.mod_lt _ hm
    have hfull := hw.full d _ (by omega) rfl
    have hnf : ¬ (rob1 m l' a t0 k d).1.getD ((a + d) % m) 0 < 0 := by rw [h4 _ hp]; exact hfull
    have hkk := h2 ((a + d) % m) (by omega)
    unfold rob1
    rw [ih]
    have hg : gives m l ((a + d) % m) ((rob1 m l' a t0 k d).1.getD ((a + d) % m) 0).toNat (rob1 m l' a t0 k d).2 = gives m l' ((a + d) % m) ((rob1 m l' a t0 k d).1.getD ((a + d) % m) 0).toNat (rob1 m l' a t0 k d).2 := by
      unfold gives
      rw [he _ (by omega), he _ h3]
    rw [hg]
theorem rob_congr {m : Nat} {l l' : List Int} (hH : Homes m l') {n : Nat} (hn : n ≤ l'.length) (he : ∀ i, i < n → l.getD i 0 = l'.getD i 0) : ∀ k, k ≤ n → rob m l k = rob m l' k := by
  intro k
  induction k with
  | zero => intro _; rfl
  | succ k ih =>
    intro hk
    have ih := ih (by omega)
    obtain ⟨h1, h2, h3⟩ := rob_inv hH k (by omega)
    obtain ⟨D, hw⟩ := way h1 (hH.home_lt (by omega : k < l'.length)) (by rw [h3]; have := hH.len; omega)
    have hh : home l k = home l' k := by unfold home; rw [he k (by omega)]
    have := rob1_congr (l := l) (l' := l') hH.pos h1 h2 hw (fun i hi => he i (by omega)) D (Nat.le_refl _)
    rw [rob, rob, ih, hh, hw.is, this]

/-- The second half of the law of TakeOut. -/
theorem TO_fair {m : Nat} {l : List Int} {n : Nat} (hv : VH m l = true) (hn : l.length = n + 1) : TO m l (FT m l) (n : Int) = (FT m (l.take n), true) := by
  have hh := VH_iff.1 hv
  have hH := Homes.of_VH hh
  rw [Int.toNat_natCast] at hH
  have hm := hH.pos
  have hlm := hH.len
  have hvt : VH m (l.take n) = true := VH_iff.2 ⟨hh.1, hh.2.1, by rw [List.length_take]; omega, fun x hx => hh.2.2.2 x (List.mem_of_mem_take hx)⟩
  have e1 : FT m l = rob m l (n + 1) := by unfold FT; rw [if_pos hv, Int.toNat_natCast, hn]
  have e2 : FT m (l.take n) = rob m l n := by
    unfold FT
    rw [if_pos hvt, Int.toNat_natCast, List.length_take, hn, show min n (n + 1) = n by omega]
    exact rob_congr hH (by omega) (fun i hi => by simp [List.getD, List.getElem?_take, hi]) n (Nat.le_refl _)
  have hfd := (FT_law hv).2.2.1
  have hr := rob_ok hH n (by omega)
  have hF := rob_fair hH n (by omega)
  have hhl := hH.home_lt (k := n) (by omega)
  obtain ⟨D, w⟩ := way hr.len hhl (by rw [(rob_inv hH n (by omega)).2.2]; omega)
  obtain ⟨E, hE, hsh⟩ := rob_shift hH (by omega) hr hF w
  have hDm := w.lt
  have hpE : (home l n + E) % m < m := Nat.mod_lt _ hm
  have hat : (rob m l (n + 1)).getD ((home l n + E) % m) 0 = (n : Int) := by
    rw [hsh, sh_get hhl hr.len _ (by omega) E (by omega), if_pos rfl]
  rw [e1] at hfd ⊢
  rw [e2]
  have hvt2 := VT_iff.1 (FD_iff.1 hfd).1
  have hlen : (rob m l (n + 1)).length = m := by have := hvt2.2.1; omega
  have hpos := posn_is hvt2.2.2 (by omega : (0 : Int) ≤ (n : Int)) (by rw [hlen]; exact hpE) hat
  rw [TO_some ⟨hfd, by omega⟩ hpos, Int.toNat_natCast]
  have hok : TabOk l.length (rob m l n) m := ⟨fun j hj => by have := hr.ok.range j hj; omega, hr.ok.once⟩
  have hfr : (rob m l n).getD ((home l n + D) % m) 0 = -1 := by
    have h1 := w.free _ rfl
    have h2 := hr.ok.range ((home l n + D) % m) (Nat.mod_lt _ hm)
    omega
  have hps : ∀ e, E ≤ e → e < D → offI m (l.getD ((rob m l n).getD ((home l n + e) % m) 0).toNat 0) ((home l n + e) % m : Nat) + 1 < m := by
    intro e he1 he2
    have hqm : (home l n + e) % m < m := Nat.mod_lt _ hm
    have hf := w.full e _ he2 rfl
    obtain ⟨x, hxx⟩ := Int.eq_ofNat_of_zero_le (show 0 ≤ (rob m l n).getD ((home l n + e) % m) 0 by omega)
    have hxl := (hok.range _ hqm).2
    have hhx := hH.home_lt (k := x) (by omega)
    have hc := hH.home_cast (k := x) (by omega)
    rw [hxx, Int.toNat_natCast, ← hc]
    apply Classical.byContradiction
    intro hn'
    obtain ⟨o, ho, hom, hoi⟩ := offN hhx hqm
    -- a key m - 1 behind its home is next ahead of it: the free slot lies between
    have hrc := hr.reach _ hqm hf
    obtain ⟨d, hd, hdp⟩ := met hhx (show (home l n + D) % m < m from Nat.mod_lt _ hm)
    have hdo : d ≠ o := by
      intro e5
      rw [e5, hoi] at hdp
      have := slot_inj hhl (show e < m by omega) hDm hdp
      omega
    exact hrc d ((home l n + D) % m) (by rw [hxx, Int.toNat_natCast, ← hc, ho]; omega) (by rw [hxx, Int.toNat_natCast]; exact hdp.symm) (by rw [hfr]; omega)
  rw [hsh, TK_unpush hH hhl hr.len hE hDm (by omega) hok hr.reach (fun e he => w.full e _ he rfl) hfr hps]
end Go.Proofs.Ytapkalpmnldhpab
