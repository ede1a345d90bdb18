/-
  impl.part.halves.
-/
import Derived.Test.YtoaiaindcmihjaaGreatDoorOB2
import Derived.Deep.RegionHeld3
import Derived.Deep.QuietTactic
import Derived.Deep.DeepCutAuto
namespace Go.Proofs.YtoaiaindcmihjaaGreatDoor
open Go.RowKit

theorem PBox.put3 {w : World} {g g1 : Nat} {v : Value} {d e : Int} (h : PBox w g v d e) (h1 : g ≠ g1) (x y z : Value) : PBox (((w.setCell ⟨g1, 0, none⟩ x).setCell ⟨g1, 1, none⟩ y).setCell ⟨g1, 2, none⟩ z) g v d e :=
  ((h.other h1 0 x).other h1 1 y).other h1 2 z
theorem Own.put3 {w : World} {base g : Nat} {v : Value} {l : List Int} (h : Own w base v l) (hg : g < base) (x y z : Value) : Own (((w.setCell ⟨g, 0, none⟩ x).setCell ⟨g, 1, none⟩ y).setCell ⟨g, 2, none⟩ z) base v l := by
  have hne : ∀ k, v.ownBlock = some k → k ≠ g := fun k hk => by have := (h.lt k hk).1; omega
  have nn : v.ownBlock = none ∨ v.ownBlock ≠ some g := .inr (fun h => hne _ h rfl)
  exact ((h.kept (grownBy_setP _ _ _ _) nn).kept (grownBy_setP _ _ _ _) nn).kept (grownBy_setP _ _ _ _) nn
/-- Two parts, handed back out of variables. -/
theorem ret_part2 {fn : Func} {R : Ending → World → Prop} {a : Act} {w : World} {p q : Tmp} (hf : fn.results = #[.cell p 48, .cell q 48]) (hd : a.defers = [])
    (g g' : Nat) (hp : a.tmps.getD p undef = .pointer (some ⟨g, 0, none⟩)) (hq : a.tmps.getD q undef = .pointer (some ⟨g', 0, none⟩)) (v v' : Value) (d e d' e' : Int) (hg : PBox w g v d e) (hg' : PBox w g' v' d' e')
    (hR : R (.returned (.tuple #[.agg #[v, .int .i64 d, .int .i64 e], .agg #[v', .int .i64 d', .int .i64 e']])) w) : bodyPost Tryz.prog fn R .ret a w := by
  refine bodyPost_ret (v := .tuple #[.agg #[v, .int .i64 d, .int .i64 e], .agg #[v', .int .i64 d', .int .i64 e']]) ?_ hd hR
  have hp' : a.tmps[p]?.getD undef = .pointer (some ⟨g, 0, none⟩) := by simpa using hp
  have hq' : a.tmps[q]?.getD undef = .pointer (some ⟨g', 0, none⟩) := by simpa using hq
  have h1 := run_loadVar_row (P := Tryz.prog) w g _ 48 _ (0, 0) _ hg Tryz.underlying48 rfl (by kernel_rfl)
  have h2 := run_loadVar_row (P := Tryz.prog) w g' _ 48 _ (0, 0) _ hg' Tryz.underlying48 rfl (by kernel_rfl)
  simp [results, hf, hp', hq', asAddr, h1, h2]
set_option maxHeartbeats 8000000 in
set_option maxRecDepth 100000 in
/-- halves: the names of a part by the next digit. -/
theorem halves_any (a : Option Addr) (l : List Int) (cap d e : Nat) (w : World) (hr : Reads w a l) (hl : l.length ≤ 1000) (hi : ∀ x ∈ l, 0 ≤ x ∧ x ≤ 63) (hd : d ≤ 30) (he : e ≤ 1000000) :
    Calls Tryz.prog 56 #[.agg #[.slice a l.length cap, .int .i64 (d : Int), .int .i64 (e : Int)]] w fun en w' => ∃ z o, en = .returned (.tuple #[.agg #[z, .int .i64 ((d + 1 : Nat) : Int), .int .i64 (e : Int)], .agg #[o, .int .i64 ((d + 1 : Nat) : Int), .int .i64 ((e + 2 ^ d : Nat) : Int)]]) ∧
      Own w' w.heap.size z (l.filter (fun x => decide (x.toNat % 2 ^ (d + 1) = e))) ∧ Own w' w.heap.size o (l.filter (fun x => decide (x.toNat % 2 ^ (d + 1) = e + 2 ^ d))) ∧ (z.ownBlock = none ∨ z.ownBlock ≠ o.ownBlock) ∧ Below w.heap.size w w' := by
  obtain ⟨M, hM⟩ : ∃ M, M = l.length := ⟨_, rfl⟩
  obtain ⟨P, hP⟩ : ∃ P, P = 2 ^ d := ⟨_, rfl⟩
  obtain ⟨e1, e2, e3⟩ := shl1 d P (by omega) hP
  have hps : P ≤ 1099511627776 := by rw [hP]; exact pow40 (by omega)
  rw [← hP]
  obtain ⟨L1, hL1⟩ : ∃ L1, L1 = l.filter (fun x => decide (x.toNat % 2 ^ (d + 1) = e)) := ⟨_, rfl⟩
  obtain ⟨L2, hL2⟩ : ∃ L2, L2 = l.filter (fun x => decide (x.toNat % 2 ^ (d + 1) = e + P)) := ⟨_, rfl⟩
  rw [← hL1, ← hL2]
  have x0 := PBox.new w (.slice a M cap) d e
  obtain ⟨w1, ew1⟩ : ∃ w1, w1 = w.alloc (.cells #[.slice a M cap, .int .i64 (d : Int), .int .i64 (e : Int)] 48) := ⟨_, rfl⟩
  have b1 := (Below.refl w.heap.size w).alloc (Nat.le_refl _) (.cells #[.slice a M cap, .int .i64 (d : Int), .int .i64 (e : Int)] 48)
  have hz1 : w1.heap.size = w.heap.size + 1 := by rw [ew1]; simp
  rw [← ew1] at x0 b1
  have y1 := PBox.new w1 (.slice none 0 0) 0 0
  obtain ⟨w2, ew2⟩ : ∃ w2, w2 = w1.alloc (.cells #[.slice none 0 0, .int .i64 0, .int .i64 0] 48) := ⟨_, rfl⟩
  have hz2 : w2.heap.size = w.heap.size + 2 := by rw [ew2]; simp [hz1]
  have b2 := b1.alloc (by omega) (.cells #[.slice none 0 0, .int .i64 0, .int .i64 0] 48)
  have x1 := x0.alloc (.cells #[.slice none 0 0, .int .i64 0, .int .i64 0] 48)
  rw [← ew2] at y1 b2 x1
  rw [hz1] at y1
  have y2 := PBox.new w2 (.slice none 0 0) 0 0
  obtain ⟨w3, ew3⟩ : ∃ w3, w3 = w2.alloc (.cells #[.slice none 0 0, .int .i64 0, .int .i64 0] 48) := ⟨_, rfl⟩
  have hz3 : w3.heap.size = w.heap.size + 3 := by rw [ew3]; simp [hz2]
  have b3 := b2.alloc (by omega) (.cells #[.slice none 0 0, .int .i64 0, .int .i64 0] 48)
  have x2 := x1.alloc (.cells #[.slice none 0 0, .int .i64 0, .int .i64 0] 48)
  have y1' := y1.alloc (.cells #[.slice none 0 0, .int .i64 0, .int .i64 0] 48)
  rw [← ew3] at y2 b3 x2 y1'
  rw [hz2] at y2
  have cE : ∀ (q : Nat) (L : List Int), L = l.filter (fun x => decide (x.toNat % 2 ^ (d + 1) = q)) → ∀ wx, Below w3.heap.size w3 wx → Calls Tryz.prog 86 #[.slice a M cap, .int .i64 ((d + 1 : Nat) : Int), .int .i64 (q : Int)] wx fun en w' => ∃ sa sc, en = .returned (.slice sa L.length sc) ∧ Own w' wx.heap.size (.slice sa L.length sc) L ∧ Below wx.heap.size wx w' ∧ w'.cell? ⟨w.heap.size, 0, none⟩ = some (.slice a M cap) := by
    rintro q L rfl wx hb
    rw [hM]
    refine (endingIn_any a l cap (d + 1) q wx ((hr.below b3).below hb) hl hi (by omega)).mono ?_
    rintro en w' ⟨v, rfl, ho, hb'⟩
    obtain ⟨sa, sc, rfl, _, _, _, _⟩ := ho.form
    exact ⟨sa, sc, rfl, ho, hb', by rw [← hM]; exact (PBox.belowAll hb' (PBox.belowAll hb x2)).c0⟩
  have C1 := Lib.hid (cE e L1 hL1)
  have C2 := Lib.hid (cE (e + P) L2 (by rw [hL2]))
  have E1 := Lib.hid ew1
  have E2 := Lib.hid ew2
  have E3 := Lib.hid ew3
  rw [← hM]
  have wr1 : IntKind.i64.wrap ((e : Int) + (P : Int)) = ((e + P : Nat) : Int) := by rw [IntWalk.i64_in _ (by omega)]; rfl
  have wr2 : IntKind.i64.wrap ((d : Int) + 1) = ((d + 1 : Nat) : Int) := by rw [IntWalk.i64_in _ (by omega)]; rfl
  obtain ⟨D1, hD1⟩ : ∃ D1, D1 = d + 1 := ⟨_, rfl⟩
  obtain ⟨EP, hEP⟩ : ∃ EP, EP = e + P := ⟨_, rfl⟩
  rw [← hD1] at wr2 C1 C2
  rw [← hEP] at wr1 C2
  rw [← hD1, ← hEP] 
  have s0 := x2.c0
  have s1 := x2.c1
  have s2 := x2.c2
  clear ew1 ew2 ew3 cE hL1 hL2 hM hi hr x0 x1 y1 hP hD1 hEP
  go_enter Tryz.func56, Tryz.ntmps56
  go_upto_region 1 with fail
  rw [← E1.out, ← E2.out, ← E3.out]
  go_cut [4, 5, 6] (fun s4 s5 s6 wx => s4 = .int .i64 (D1 : Int) ∧ s5 = .int .i64 (e : Int) ∧ s6 = .int .i64 (EP : Int) ∧ ∃ n, wx = w3.drewN n)
  case first =>
    go_quiet (fail)
    all_goals
      go_wp2_with fail
      go_meet
      exact ⟨rfl, rfl, rfl, _, rfl⟩
  case rest =>
    obtain ⟨rfl, rfl, rfl, n, rfl⟩ := hcut
    have x3 : PBox (w3.drewN n) w.heap.size (.slice a M cap) d e := x2
    have y1'' : PBox (w3.drewN n) (w.heap.size + 1) (.slice none 0 0) 0 0 := y1'
    have y2'' : PBox (w3.drewN n) (w.heap.size + 2) (.slice none 0 0) 0 0 := y2
    have hbn : Below w3.heap.size w3 (w3.drewN n).drew := (below_drewN (Below.refl _ _) n).drew
    obtain ⟨w4, hw4⟩ : ∃ w4, w4 = w3.drewN n := ⟨_, rfl⟩
    have hz4 : w4.heap.size = w.heap.size + 3 := by rw [hw4]; exact hz3
    rw [← hw4] at x3 y1'' y2'' hbn ⊢
    have s0' := x3.c0
    clear hw4 s0 s1 s2 y1'' y2'' e1 e2 e3 wr1 wr2 hps E1 E2 E3 b1 b2 hz1 hz2 hl hd he P
    go_upto_region 2 with fail
    go_region_held3 (fun w' => w'.cell? ⟨w.heap.size, 0, none⟩ = some (.slice a M cap)) (first | with_reducible exact s0 | with_reducible exact s0' | with_reducible exact k3 _ _ _ | with_reducible exact k6 _ _ _ _ _ _ | go_keep)
      (first
        | (have hbz := hbn.trans (bz.mono hbn.size); go_at_call 86; refine (C2.out _ hbz).mono ?_; rintro en w6 ⟨oa, oc, rfl, oo, bo, s0⟩; have hb6 := hbz.trans (bo.mono hbz.size); have v0 := PBox.belowAll hb6 x2; have k3 := fun x y z => (v0.put3 (g1 := w.heap.size + 1) (by omega) x y z).c0; have k6 := fun x y z x' y' z' => ((v0.put3 (g1 := w.heap.size + 1) (by omega) x y z).put3 (g1 := w.heap.size + 1 + 1) (by omega) x' y' z').c0; have v1 := PBox.belowAll hb6 y1'; have v2 : PBox w6 (w.heap.size + 1 + 1) _ _ _ := PBox.belowAll hb6 y2; have q0 := v1.c0; have q1 := v1.c1; have q2 := v1.c2; have q3 := v2.c0; have q4 := v2.c1; have q5 := v2.c2; have f0 := v1.fz 0; have f1 := v1.fz 1; have f2 := v1.fz 2; have f3 := v2.fz 0; have f4 := v2.fz 1; have f5 := v2.fz 2)
        | (go_at_call 86; refine (C1.out _ hbn).mono ?_; rintro en w5 ⟨za, zc, rfl, oz, bz, s0⟩))
    have hz5 := bz.size
    have hz6 := bo.size
    have hzd : (w4.drew).heap.size = w.heap.size + 3 := hz4
    rw [hzd] at oz bz hz5
    have p1 := (v1.put (.slice za L1.length zc) D1 e).put3 (g1 := w.heap.size + 1 + 1) (by omega) (.slice oa L2.length oc) (.int .i64 D1) (.int .i64 EP)
    have p2 := (v2.put3 (g1 := w.heap.size + 1) (by omega) (.slice za L1.length zc) (.int .i64 D1) (.int .i64 e)).put (.slice oa L2.length oc) D1 EP
    have oz6 := oz.below bo
    have r1 := ((oz6.put3 (g := w.heap.size + 1) (by omega) (.slice za L1.length zc) (.int .i64 D1) (.int .i64 e)).put3 (g := w.heap.size + 1 + 1) (by omega) (.slice oa L2.length oc) (.int .i64 D1) (.int .i64 EP)).mono (base' := w.heap.size) (by omega)
    have r2 := ((oo.put3 (g := w.heap.size + 1) (by omega) (.slice za L1.length zc) (.int .i64 D1) (.int .i64 e)).put3 (g := w.heap.size + 1 + 1) (by omega) (.slice oa L2.length oc) (.int .i64 D1) (.int .i64 EP)).mono (base' := w.heap.size) (by omega)
    have B6 := below_put3p (below_put3p (b3.trans (hb6.mono b3.size)) (g := w.heap.size + 1) (by omega) (.slice za L1.length zc) (.int .i64 D1) (.int .i64 e)) (g := w.heap.size + 1 + 1) (by omega) (.slice oa L2.length oc) (.int .i64 D1) (.int .i64 EP)
    have nn : (Value.slice za L1.length zc).ownBlock = none ∨ (Value.slice za L1.length zc).ownBlock ≠ (Value.slice oa L2.length oc).ownBlock := by
      by_cases h : (Value.slice za L1.length zc).ownBlock = none
      · exact .inl h
      · refine .inr fun e => ?_
        obtain ⟨k, hk⟩ := Option.ne_none_iff_exists'.1 h
        have i1 := (oz.lt k hk).2
        have i2 := (oo.lt k (by rw [← e]; exact hk)).1
        omega
    go_wp2
    exact ret_part2 rfl rfl _ _ rfl rfl _ _ _ _ _ _ p1 p2 ⟨_, _, rfl, r1, r2, nn, B6⟩
end Go.Proofs.YtoaiaindcmihjaaGreatDoor
