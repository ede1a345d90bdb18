/-
  impl.part.buckets: the walk.
-/
import Derived.Test.YtoaiaindcmihjaaOB5
import Derived.Test.YtoaiaindcmihjaaNF
namespace Go.Proofs.Ytoaiaindcmihjaa
open Go.RowKit

/-- What buckets gives, f parts deep. -/
def PBC (l : List Int) (m f : Nat) : Prop := ∀ d e : Nat, f + d = 6 → e < 2 ^ d → ∀ (u : Value) (base : Nat) (w : World), Own w base u (tfl (srt l) d e) → base ≤ w.heap.size →
    Calls Try.prog 41 #[.agg #[u, .int .i64 (d : Int), .int .i64 (e : Int)], .int .i64 (m : Int)] w fun en w' => ∃ g C cs, en = .returned (.slice (some ⟨g, 0, none⟩) (spl l m f d e).length C) ∧ RwB w' w.heap.size (.slice (some ⟨g, 0, none⟩) (spl l m f d e).length C) cs ∧ PBk w' base w.heap.size u.ownBlock cs (spl l m f d e) ∧ Below w.heap.size w w'
theorem rwB_one (w : World) (base : Nat) (hb : base ≤ w.heap.size) (d e : Int) (u : Value) : RwB (w.alloc (.cells #[.int .i64 d, .int .i64 e, u] 30)) base (.slice (some ⟨w.heap.size, 0, none⟩) 1 1) [(d, e, u)] :=
  ⟨rfl, .inr ⟨w.heap.size, 1, _, rfl, hb, heap_alloc_new w _, Nat.le_refl _, by unfold maxLen; omega, rfl, rfl⟩⟩
set_option maxHeartbeats 8000000 in
set_option maxRecDepth 100000 in
theorem buckets_fit (l : List Int) (m f d e : Nat) (hm : m ≤ 1000) (hd : d ≤ 6) (u : Value) (base : Nat) (w : World) (ho : Own w base u (tfl (srt l) d e)) (hb : base ≤ w.heap.size) (hfit : (tfl (srt l) d e).length ≤ m) :
    Calls Try.prog 41 #[.agg #[u, .int .i64 (d : Int), .int .i64 (e : Int)], .int .i64 (m : Int)] w fun en w' => ∃ g C cs, en = .returned (.slice (some ⟨g, 0, none⟩) (spl l m f d e).length C) ∧ RwB w' w.heap.size (.slice (some ⟨g, 0, none⟩) (spl l m f d e).length C) cs ∧ PBk w' base w.heap.size u.ownBlock cs (spl l m f d e) ∧ Below w.heap.size w w' := by
  rw [spl_srt_one f hfit]
  obtain ⟨T, hT⟩ : ∃ T, T = tfl (srt l) d e := ⟨_, rfl⟩
  rw [← hT] at ho hfit ⊢
  clear hT
  obtain ⟨sa, sc, rfl, _, _, _, _⟩ := ho.form
  have x0 := PBox.new w (.slice sa T.length sc) d e
  have b0 := (Below.refl w.heap.size w).alloc (Nat.le_refl _) (.cells #[.slice sa T.length sc, .int .i64 (d : Int), .int .i64 (e : Int)] 54)
  obtain ⟨w1, e1⟩ : ∃ w1, w1 = w.alloc (.cells #[.slice sa T.length sc, .int .i64 (d : Int), .int .i64 (e : Int)] 54) := ⟨_, rfl⟩
  have hz1 : w1.heap.size = w.heap.size + 1 := by rw [e1]; simp
  rw [← e1] at x0 b0
  have E1 := Lib.hid e1
  have s0 := x0.c0
  have s1 := x0.c1
  have s2 := x0.c2
  have cf := fun wx => fits_any sa T.length sc (m : Int) wx
  have hfi : (T.length : Int) ≤ (m : Int) := by omega
  rw [decide_eq_true hfi] at cf
  have CF := Lib.hid cf
  have o2 : Own (w1.alloc (.cells #[.int .i64 (d : Int), .int .i64 (e : Int), .slice sa T.length sc] 30)) base (.slice sa T.length sc) T := (ho.below b0).below ((Below.refl _ _).alloc (Nat.le_refl _) _)
  have r2 := rwB_one w1 w.heap.size (by omega) d e (.slice sa T.length sc)
  have b2 := b0.alloc (by omega) (.cells #[.int .i64 (d : Int), .int .i64 (e : Int), .slice sa T.length sc] 30)
  rw [hz1] at r2
  have O2 := Lib.hid o2
  have R2 := Lib.hid r2
  have B2 := Lib.hid b2
  clear cf hfi e1 o2 r2 b2 ho b0 x0 hfit
  go_enter Try.func41, Try.ntmps41
  go_wp2_with fail
  rw [← E1.out]
  refine (CF.out _).mono ?_
  rintro en w' ⟨rfl, rfl⟩
  go_wp2
  go_ret
  exact ⟨_, _, _, rfl, R2.out, PBk.one O2.out, B2.out⟩
theorem RwB.mono {w : World} {base base' : Nat} {v : Value} {cs : List Bc} (h : RwB w base v cs) (hb : base' ≤ base) : RwB w base' v cs := by
  refine ⟨h.1, ?_⟩
  rcases h.2 with hn | ⟨g, cap, cur, hv, hbg, r⟩
  · exact .inl hn
  · exact .inr ⟨g, cap, cur, hv, by omega, r⟩
theorem Own.put3n {w : World} {base g : Nat} {v : Value} {l : List Int} (h : Own w base v l) (hne : ∀ k, v.ownBlock = some k → k ≠ g) (x y z : Value) : Own (((w.setCell ⟨g, 0, none⟩ x).setCell ⟨g, 1, none⟩ y).setCell ⟨g, 2, none⟩ z) base v l := by
  have nn : v.ownBlock = none ∨ v.ownBlock ≠ some g := .inr (fun h => hne _ h rfl)
  exact ((h.kept (grownBy_setP _ _ _ _) nn).kept (grownBy_setP _ _ _ _) nn).kept (grownBy_setP _ _ _ _) nn
theorem concatB_n (gs : Nat) (a1 : Option Addr) (l1 : List Bc) (c1 : Nat) (a2 : Option Addr) (l2 : List Bc) (c2 N M : Nat) (w : World) (hN : l1.length = N) (hM : l2.length = M) (hr1 : RdB w a1 l1) (hr2 : RdB w a2 l2) (hs1 : SlB l1) (hs2 : SlB l2) (h11 : 1 ≤ N) (hl1 : N ≤ 1000) (hl2 : M ≤ 1000)
    (hc0 : w.cell? ⟨gs, 0, none⟩ = some (.slice a1 N c1)) (hc1 : w.cell? ⟨gs, 1, none⟩ = some (.slice a2 M c2)) :
    Calls Try.prog 61 #[.slice (some ⟨gs, 0, none⟩) 2 2] w fun e w' => ∃ v, e = .returned v ∧ RwB w' w.heap.size v (l1 ++ l2) ∧ Below w.heap.size w w' := by
  subst hN hM
  exact concatB_any gs a1 l1 c1 a2 l2 c2 w hr1 hr2 hs1 hs2 h11 hl1 hl2 hc0 hc1
theorem RwB.rd {w : World} {base : Nat} {g n C : Nat} {cs : List Bc} (h : RwB w base (.slice (some ⟨g, 0, none⟩) n C) cs) (h0 : cs ≠ []) : RdB w (some ⟨g, 0, none⟩) cs := by
  obtain ⟨g', C', e, _, h2⟩ := h.form h0
  cases e
  exact h2
theorem pbk_len {l : List Int} {m : Nat} (f d e : Nat) (hf : f ≤ 6) : (spl l m f d e).length ≤ 64 := Nat.le_trans (spl_len l m f d e) (Nat.pow_le_pow_right (n := 2) (by omega) hf)
set_option maxHeartbeats 16000000 in
set_option maxRecDepth 100000 in
theorem buckets_more (l : List Int) (m g d e : Nat) (hm : 1 ≤ m ∧ m ≤ 4) (hv : VNm l = true) (hgd : g + 1 + d = 6) (he : e < 2 ^ d) (ih : PBC l m g) (u : Value) (base : Nat) (w : World) (ho : Own w base u (tfl (srt l) d e)) (hb : base ≤ w.heap.size) (hfit : ¬ (tfl (srt l) d e).length ≤ m) :
    Calls Try.prog 41 #[.agg #[u, .int .i64 (d : Int), .int .i64 (e : Int)], .int .i64 (m : Int)] w fun en w' => ∃ g1 C cs, en = .returned (.slice (some ⟨g1, 0, none⟩) (spl l m (g + 1) d e).length C) ∧ RwB w' w.heap.size (.slice (some ⟨g1, 0, none⟩) (spl l m (g + 1) d e).length C) cs ∧ PBk w' base w.heap.size u.ownBlock cs (spl l m (g + 1) d e) ∧ Below w.heap.size w w' := by
  obtain ⟨h12, hrng, hnd⟩ := VNm_iff.1 hv
  have hps : 2 ^ (d + 1) = 2 * 2 ^ d := by rw [Nat.pow_succ]; omega
  have hp6 : 2 ^ d ≤ 2 ^ 6 := Nat.pow_le_pow_right (by omega) (by omega)
  have hmore := spl_srt_more g hfit
  have ih1 := ih (d + 1) e (by omega) (by omega)
  have ih2 := ih (d + 1) (e + 2 ^ d) (by omega) (by omega)
  rw [← tfl_sub he (.inl rfl)] at ih1
  rw [← tfl_sub he (.inr rfl)] at ih2
  have hT12 : (tfl (srt l) d e).length ≤ 12 := by have := tfl_len (srt l) d e; rw [srt_len] at this; omega
  have hTr : ∀ x ∈ tfl (srt l) d e, 0 ≤ x ∧ x ≤ 63 := fun x hx => hrng x (srt_mem.1 (tfl_mem.1 hx).1)
  obtain ⟨T, hT⟩ : ∃ T, T = tfl (srt l) d e := ⟨_, rfl⟩
  rw [← hT] at ho hfit ih1 ih2 hT12 hTr
  obtain ⟨sa, sc, rfl, hrT, _, _, _⟩ := ho.form
  have x0 := PBox.new w (.slice sa T.length sc) d e
  have b0 := (Below.refl w.heap.size w).alloc (Nat.le_refl _) (.cells #[.slice sa T.length sc, .int .i64 (d : Int), .int .i64 (e : Int)] 54)
  obtain ⟨w1, e1⟩ : ∃ w1, w1 = w.alloc (.cells #[.slice sa T.length sc, .int .i64 (d : Int), .int .i64 (e : Int)] 54) := ⟨_, rfl⟩
  have hz1 : w1.heap.size = w.heap.size + 1 := by rw [e1]; simp
  rw [← e1] at x0 b0
  have E1 := Lib.hid e1
  have s0 := x0.c0
  have s1 := x0.c1
  have s2 := x0.c2
  have cf := fun wx => fits_any sa T.length sc (m : Int) wx
  have hfi : ¬ (T.length : Int) ≤ (m : Int) := by omega
  rw [decide_eq_false hfi] at cf
  have cH := fun wx (h : Below w1.heap.size w1 wx) => halves_any sa T sc d e wx ((hrT.below b0).below h) (by omega) hTr (by omega) (by omega)
  obtain ⟨S1, hS1⟩ : ∃ S1, S1 = spl l m g (d + 1) e := ⟨_, rfl⟩
  obtain ⟨S2, hS2⟩ : ∃ S2, S2 = spl l m g (d + 1) (e + 2 ^ d) := ⟨_, rfl⟩
  have hl1 : S1.length ≤ 64 ∧ 1 ≤ S1.length := by rw [hS1]; exact ⟨pbk_len g _ _ (by omega), spl_pos _ _ _ _ _⟩
  have hl2 : S2.length ≤ 64 ∧ 1 ≤ S2.length := by rw [hS2]; exact ⟨pbk_len g _ _ (by omega), spl_pos _ _ _ _ _⟩
  rw [← hS1, ← hS2] at hmore
  rw [← hS1] at ih1
  rw [← hS2] at ih2
  rw [hmore]
  obtain ⟨D1, hD1⟩ : ∃ D1, D1 = d + 1 := ⟨_, rfl⟩
  obtain ⟨EP, hEP⟩ : ∃ EP, EP = e + 2 ^ d := ⟨_, rfl⟩
  rw [← hD1] at ih1 ih2
  rw [← hEP] at ih2
  simp only [← hD1, ← hEP] at cH
  obtain ⟨T1, hT1⟩ : ∃ T1, T1 = T.filter (fun x => decide (x.toNat % 2 ^ D1 = e)) := ⟨_, rfl⟩
  obtain ⟨T2, hT2⟩ : ∃ T2, T2 = T.filter (fun x => decide (x.toNat % 2 ^ D1 = EP)) := ⟨_, rfl⟩
  rw [← hT1] at ih1
  rw [← hT2] at ih2
  simp only [← hT1, ← hT2] at cH
  have CF := Lib.hid cf
  have CH := Lib.hid cH
  have I1 := Lib.hid ih1
  have I2 := Lib.hid ih2
  have OU := Lib.hid ho
  have hlt : ∀ k, (Value.slice sa T.length sc).ownBlock = some k → k < w.heap.size := fun k hk => (ho.lt k hk).2
  have HLT := Lib.hid hlt
  have hmb : m ≤ 4 := hm.2
  have z0 : Try.prog.underlying 54 = Try.prog.underlying 54 := rfl
  clear cf hfi e1 ho x0 hfit hps hp6 hmore ih1 ih2 ih cH hS1 hS2 hD1 hEP hT1 hT2 hT hTr hrT hrng hnd h12 hv hlt z0 hm he hgd hT12
  go_enter Try.func41, Try.ntmps41
  go_wp2_with fail
  rw [← E1.out]
  refine (CF.out _).mono ?_
  rintro en w' ⟨rfl, rfl⟩
  go_wp2_with fail
  refine (CH.out _ (Below.refl _ _)).mono ?_
  rintro en w2 ⟨z, o, rfl, oz, oo, nn, b2⟩
  have hz2 := b2.size
  have B2 := b0.trans (b2.mono b0.size)
  obtain ⟨za, zc, rfl, _, _, _, _⟩ := oz.form
  obtain ⟨oa, oc, rfl, _, _, _, _⟩ := oo.form
  have y1 := PBox.new w2 (.slice za T1.length zc) D1 e
  obtain ⟨w3, e3⟩ : ∃ w3, w3 = w2.alloc (.cells #[.slice za T1.length zc, .int .i64 (D1 : Int), .int .i64 (e : Int)] 54) := ⟨_, rfl⟩
  have B3 := B2.alloc (by omega) (.cells #[.slice za T1.length zc, .int .i64 (D1 : Int), .int .i64 (e : Int)] 54)
  have hz3 : w3.heap.size = w2.heap.size + 1 := by rw [e3]; simp
  have b23 := (Below.refl w2.heap.size w2).alloc (Nat.le_refl _) (.cells #[.slice za T1.length zc, .int .i64 (D1 : Int), .int .i64 (e : Int)] 54)
  rw [← e3] at y1 B3 b23
  have p2 := PBox.new w3 (.slice oa T2.length oc) D1 EP
  obtain ⟨w5, e5⟩ : ∃ w5, w5 = w3.alloc (.cells #[.slice oa T2.length oc, .int .i64 (D1 : Int), .int .i64 (EP : Int)] 54) := ⟨_, rfl⟩
  have B5 := B3.alloc (by omega) (.cells #[.slice oa T2.length oc, .int .i64 (D1 : Int), .int .i64 (EP : Int)] 54)
  have hz5 : w5.heap.size = w2.heap.size + 2 := by rw [e5]; simp [hz3]
  have p1 := y1.alloc (.cells #[.slice oa T2.length oc, .int .i64 (D1 : Int), .int .i64 (EP : Int)] 54)
  have b24 := b23.alloc (by omega) (.cells #[.slice oa T2.length oc, .int .i64 (D1 : Int), .int .i64 (EP : Int)] 54)
  rw [← e5] at p1 p2 B5 b24
  rw [hz3] at p2
  have E3 := Lib.hid e3
  have E5 := Lib.hid e5
  have hzb : ∀ k, (Value.slice za T1.length zc).ownBlock = some k → w.heap.size ≤ k ∧ k < w2.heap.size := fun k hk => by have := oz.lt k hk; omega
  have hob : ∀ k, (Value.slice oa T2.length oc).ownBlock = some k → w.heap.size ≤ k ∧ k < w2.heap.size := fun k hk => by have := oo.lt k hk; omega
  have oz5 := (oz.below b24).mono (base' := base) (by omega)
  have oo5 := (oo.below b24).mono (base' := base) (by omega)
  have P1 := Lib.hid p1
  have P2 := Lib.hid p2
  have OZ := Lib.hid oz5
  have OO := Lib.hid oo5
  have HZB := Lib.hid hzb
  have HOB := Lib.hid hob
  have NN := Lib.hid nn
  clear e3 e5 B2 B3 b23 p1 p2 y1 oz5 oo5 hzb hob oz oo nn b24
  go_upto_region 4 with fail
  rw [← E3.out, ← E5.out]
  clear s0 s1 s2 E3 E5 E1
  have s0 := P1.out.c0
  have s1 := P1.out.c1
  have s2 := P1.out.c2
  have s3 := P2.out.c0
  have s4 := P2.out.c1
  have s5 := P2.out.c2
  have bd : Below w5.heap.size w5 w5.drew := (Below.refl _ _).drew
  have ozd : Own w5.drew base (.slice za T1.length zc) T1 := OZ.out
  have hbd : base ≤ w5.drew.heap.size := by show base ≤ w5.heap.size; omega
  go_region_held3 (fun w' => w'.cell? ⟨w2.heap.size, 0, none⟩ = some (.slice za T1.length zc) ∧ w'.cell? ⟨w2.heap.size, 1, none⟩ = some (.int .i64 D1) ∧ w'.cell? ⟨w2.heap.size, 2, none⟩ = some (.int .i64 e) ∧ w'.cell? ⟨w2.heap.size + 1, 0, none⟩ = some (.slice oa T2.length oc) ∧ w'.cell? ⟨w2.heap.size + 1, 1, none⟩ = some (.int .i64 D1) ∧ w'.cell? ⟨w2.heap.size + 1, 2, none⟩ = some (.int .i64 EP))
    (first | with_reducible exact ⟨s0, s1, s2, s3, s4, s5⟩ | with_reducible exact sA _ | go_keep)
    (first
      | (have hmk := rdB; go_at_call 61; go_loud (refine (concatB_n _ _ cs1 _ _ cs2 _ _ _ _ lc1 lc2 (rdA _) (rdB _) sb1 sb2 hl1.2 (by omega) (by omega) ((cell_of_row _ _ _ _ _ _ (heap_alloc_new _ _)).trans rfl) ((cell_of_row _ _ _ _ _ _ (heap_alloc_new _ _)).trans rfl)).mono ?_); rintro en w9 ⟨v9, rfl, rw9, b9⟩; have u1 := PBox.belowAll b9 (v1.alloc _); have u2 := PBox.belowAll b9 (v2.alloc _); have s0 := u1.c0; have s1 := u1.c1; have s2 := u1.c2; have s3 := u2.c0; have s4 := u2.c1; have s5 := u2.c2)
      | (have ho6 := OO6.out; go_at_call 41; refine (I2.out _ base _ ho6 hb6).mono ?_; rintro en w7 ⟨g2, C2, cs2, rfl, rw2, pb2, b7⟩; have hb57 := b56.trans (b7.mono hz6); have v1 := PBox.belowAll hb57 P1.out; have v2 := PBox.belowAll hb57 P2.out; have s0 := v1.c0; have s1 := v1.c1; have s2 := v1.c2; have s3 := v2.c0; have s4 := v2.c1; have s5 := v2.c2; have lc2 := pb2.len; have sb2 := pb2.slb; have rdA := fun o => RdB.below ((Below.refl w7.heap.size w7).alloc (Nat.le_refl _) o) (RwB.rd (RwB.below b7 rw1) (fun h => by rw [h] at lc1; simp at lc1; omega)); have rdB := fun o => RdB.below ((Below.refl w7.heap.size w7).alloc (Nat.le_refl _) o) (RwB.rd rw2 (fun h => by rw [h] at lc2; simp at lc2; omega)); have sA := fun o => (⟨(v1.alloc o).c0, (v1.alloc o).c1, (v1.alloc o).c2, (v2.alloc o).c0, (v2.alloc o).c1, (v2.alloc o).c2⟩ : _ ∧ _ ∧ _ ∧ _ ∧ _ ∧ _))
      | (go_at_call 41; refine (I1.out _ base _ ozd hbd).mono ?_; rintro en w6 ⟨g1, C1, cs1, rfl, rw1, pb1, b6⟩; have b56 := bd.trans (b6.mono bd.size); have hz6 := b56.size; have hb6 : base ≤ w6.heap.size := Nat.le_trans hbd b6.size; have OO6 := Lib.hid (Own.below b56 OO.out); have u1 := PBox.belowAll b56 P1.out; have u2 := PBox.belowAll b56 P2.out; have s0 := u1.c0; have s1 := u1.c1; have s2 := u1.c2; have s3 := u2.c0; have s4 := u2.c1; have s5 := u2.c2; have lc1 := pb1.len; have sb1 := pb1.slb))
  all_goals
    have ba := (Below.refl w7.heap.size w7).alloc (Nat.le_refl _) (.cells #[.slice (some ⟨g1, 0, none⟩) S1.length C1, .slice (some ⟨g2, 0, none⟩) S2.length C2] 26)
    have b79 : Below w7.heap.size w7 w9 := ba.trans (b9.mono ba.size)
    have b59 : Below w5.heap.size w5 w9 := hb57.trans (b79.mono hb57.size)
    have B9 := B5.trans (b59.mono B5.size)
    have hz7 := b7.size
    have hzd : w5.drew.heap.size = w5.heap.size := rfl
    have hza := ba.size
    have hlen : (cs1 ++ cs2).length = (S1 ++ S2).length := by rw [List.length_append, List.length_append, lc1, lc2]
    have hne : cs1 ++ cs2 ≠ [] := by
      intro h
      have := congrArg List.length h
      rw [List.length_append] at this
      simp only [List.length_nil] at this
      omega
    obtain ⟨g9, C9, rfl, _, _⟩ := rw9.form hne
    have R9 := rw9.mono (base' := w.heap.size) (by omega)
    have pb1' := (pb1.below b7).below b79
    have pb2' := pb2.below b79
    have hhi : ∀ (r : Nat) (u : Value) (d e : Int), cs1[r]? = some (d, e, u) → ∀ k, u.ownBlock = some k → (Value.slice za T1.length zc).ownBlock = some k ∨ k < w6.heap.size := fun r u d e h k hk => by
      have hr := (List.getElem?_eq_some_iff.1 h).1
      obtain ⟨u', i1, i2, _⟩ := pb1.each r (by rw [← lc1]; exact hr)
      rw [h] at i1
      injection i1 with i1
      injection i1 with _ i1
      injection i1 with _ i1
      subst i1
      exact .inr (i2.lt k hk).2
    have F := PBk.app (lo := w.heap.size) (uo' := (Value.slice sa T.length sc).ownBlock) pb1' pb2' hhi (Nat.le_refl _) (by omega) (fun k hk => by have := HZB.out k hk; omega) (fun k hk => by have := HOB.out k hk; omega) NN.out (by omega)
    rw [hlen] at R9
    have FF := Lib.hid F
    have RR := Lib.hid R9
    have BB := Lib.hid B9
    clear F R9 B9
    go_wp2
    go_ret
    exact ⟨g9, C9, cs1 ++ cs2, by first | rfl | (rw [hlen]; rfl), RR.out, FF.out, BB.out⟩
theorem buckets_any (l : List Int) (m : Nat) (hm : 1 ≤ m ∧ m ≤ 4) (hv : VNm l = true) : ∀ f, PBC l m f := by
  obtain ⟨h12, hrng, hnd⟩ := VNm_iff.1 hv
  intro f
  induction f with
  | zero =>
    intro d e hfd he u base w ho hb
    obtain rfl : d = 6 := by omega
    exact buckets_fit l m 0 6 e (by omega) (by omega) u base w ho hb (by have := tfl_six_srt hnd hrng e; omega)
  | succ f ih =>
    intro d e hfd he u base w ho hb
    by_cases h : (tfl (srt l) d e).length ≤ m
    · exact buckets_fit l m (f + 1) d e (by omega) (by omega) u base w ho hb h
    · exact buckets_more l m f d e hm hv hfd he ih u base w ho hb h
end Go.Proofs.Ytoaiaindcmihjaa
