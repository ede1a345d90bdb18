/-
  spec.somePairs, and the draws of chapter 2 that give pairs.
-/
import Derived.Test.YtlkhobofbkoliaaD2
import Derived.Test.YtlkhobofbkoliaaPd
import Derived.Deep.DeepCutAuto
import Derived.Deep.LoopGhost
namespace Go.Proofs.Ytlkhobofbkoliaa
open Go.RowKit

theorem pair_cell {w : World} {x y : Int} : ∀ j u, ([Value.int .i64 x, Value.int .i64 y])[j]? = some u → (w.alloc (.cells #[.int .i64 x, .int .i64 y] 44)).cell? ((⟨w.heap.size, 0, none⟩ : Addr).add j) = some u := by
  intro j u hu
  have hj : j < 2 := by simpa using (List.getElem?_eq_some_iff.1 hu).1
  rw [Addr.add_lit, cell_of_row _ _ _ _ _ _ (heap_alloc_new _ _)]
  match j, hj, hu with
  | 0, _, hu => simpa using hu
  | 1, _, hu => simpa using hu

/-- 'append(s, p)' of one pair onto a slice of the call's own. -/
theorem push_pair {wr : World} {ops : Array Oper} {rest : List Oper} {o : Oper} {a : Act} {Q : Exit → Act → World → Prop} (hgd : o.guard = none) (s x : Operand)
    (ho : o.op = .call { callee := .builtin .append, args := #[s, x], argTypes := #[39, 39] })
    (base : Nat) (v : Value) (l : List (Int × Int)) (y z : Int) (hs : a.eval s = v) (hown : OwnP wr base v l) (H : Nat) (hx : a.eval x = .slice (some ⟨H, 0, none⟩) 1 1) (hH : wr.heap.size = H)
    (hl : l.length < 1000000000000) (hbase : base ≤ wr.heap.size)
    (h : ∀ v' w', OwnP w' base v' (l ++ [(y, z)]) → wr.grownBy w' v.ownBlock → wpList Try.prog ops Q rest (a.put o.dst v') w') :
    wpList Try.prog ops Q (o :: rest) a (wr.alloc (.cells #[.int .i64 y, .int .i64 z] 44)) := by
  subst hH
  obtain ⟨i0, hi, hz0, hz1, hz2⟩ := info_parts infoHomes
  refine wpList_append_own _ hgd s x 39 ho base 44 i0 (.agg #[.int .i64 0, .int .i64 0]) 2 16 Try.underlying39 hi hz0 hz1 hz2 rfl (by decide) v l.length (flat l) hs (World.ownsRow.alloc hown _) ⟨wr.heap.size, 0, none⟩ 1 1 [.int .i64 y, .int .i64 z] hx rfl pair_cell (fun u hu => by simp at hu; rcases hu with rfl | rfl <;> rfl) (by unfold maxLen; omega) (by omega) (by simp; omega) fun v' w' h1 h2 _ => h v' w' ?_ ?_
  · unfold OwnP
    rw [List.length_append, flat_append]
    exact h1
  · refine ⟨h2.os, h2.tape, h2.output, Nat.le_trans (by simp) h2.size, fun k hk hne => ?_⟩
    rw [h2.block k (by simp; omega) hne]; exact Below.heap_alloc _ _ _ hk
theorem OwnP.ne_g {w : World} {base : Nat} {v : Value} {l : List (Int × Int)} (h : OwnP w base v l) {g : Nat} (hg : g < base) : v.ownBlock = none ∨ v.ownBlock ≠ some g := by
  cases hv : v.ownBlock with
  | none => exact .inl rfl
  | some k =>
    have := h.lt k hv
    exact .inr (fun e => by cases e; omega)
theorem grownBy_ownP {a b c : World} {row : Option Nat} {base : Nat} {v : Value} {l : List (Int × Int)} (h : a.grownBy b row) (ho : OwnP b base v l) (hb : a.heap.size ≤ base) (k : b.grownBy c v.ownBlock) : a.grownBy c row :=
  ⟨k.os.trans h.os, k.tape.trans h.tape, k.output.trans h.output, Nat.le_trans h.size k.size, fun i hi hne => (k.block i (Nat.lt_of_lt_of_le hi h.size) (fun e => by have := (ho.lt i e.symm).1; omega)).trans (h.block i hi hne)⟩
theorem OwnP.lit0 (w : World) (base : Nat) (hb : base ≤ w.heap.size) : OwnP (w.alloc (.cells #[] 44)) base (.slice (some ⟨w.heap.size, 0, none⟩) 0 0) [] :=
  World.ownsRow_lit w #[] 0 hb (by unfold maxLen; omega) rfl
theorem OwnP.alloc {w : World} {base : Nat} {v : Value} {l : List (Int × Int)} (h : OwnP w base v l) (o : Obj) : OwnP (w.alloc o) base v l := World.ownsRow.alloc h o

theorem setCell_grown (w : World) (b i : Nat) (v : Value) : w.grownBy (w.setCell ⟨b, i, none⟩ v) (some b) :=
  ⟨rfl, rfl, rfl, by simp, fun k _ hk => heap_setCell_other _ _ _ _ (fun e => hk (by rw [e]))⟩
theorem ownP_ne_new {base : Nat} {v : Value} {b : Nat} (h : Hid (∀ k, v.ownBlock = some k → base ≤ k ∧ k < b)) : v.ownBlock = none ∨ v.ownBlock ≠ some b := by
  cases hv : v.ownBlock with
  | none => exact .inl rfl
  | some k =>
    have := h.out k hv
    exact .inr (fun e => by cases e; omega)

set_option maxHeartbeats 8000000 in
set_option maxRecDepth 100000 in
theorem somePairs_any (g p : Nat) (w : World) (hR : Rdr w g p) (hp : p ≤ 800000) :
    Calls Try.prog 85 #[.pointer (some ⟨g, 0, none⟩)] w fun e w' => ∃ (m : Int) (v : Value) (l : List (Int × Int)) (q : Nat), e = .returned (.tuple #[.int .i64 m, v]) ∧ (-1 ≤ m ∧ m ≤ 11) ∧ OwnP w' w.heap.size v l ∧ l.length ≤ 20 ∧ Rdr w' g q ∧ q ≤ p + 100 ∧ w.grownBy w' (some g) := by
  have zg := hR.lt
  go_enter Try.func85, Try.ntmps85
  go_wp2_with fail
  refine (slots_any g p _ hR (by omega)).mono ?_
  rintro e w1 ⟨m, rfl, hm, hR1, hg1⟩
  have z1 := hg1.size
  have ho1 : OwnP (w1.alloc (.cells #[] 44)) w.heap.size (.slice (some ⟨w1.heap.size, 0, none⟩) 0 0) [] := (OwnP.lit0 w1 w.heap.size z1)
  have hR2 := hR1.below ((Below.refl w1.heap.size w1).alloc (Nat.le_refl _) (.cells #[] 44))
  have hg2 := grownBy_alloc' hg1 (.cells #[] 44)
  clear hR1 hg1 hR
  go_upto_region 3 with fail
  go_cut [6] (fun s6 wx => ∃ n1 : Int, s6 = .int .i64 n1 ∧ n1 ≤ 8 ∧ OwnP wx w.heap.size (.slice (some ⟨w1.heap.size, 0, none⟩) 0 0) [] ∧ Rdr wx g (p + 3) ∧ w.grownBy wx (some g))
  case first =>
    go_wp2_with fail
    all_goals
      refine (pick_any g (p + 2) _ _ hR2 (by omega) (by omega)).mono ?_
      rintro e w2 ⟨y1, rfl, hy1, hR3, hg3⟩
      have hy1' := hy1.1 (by omega)
      go_wp2_with fail
      go_meet
      exact ⟨y1, rfl, by omega, ho1.kept hg3 (ho1.ne_g zg), hR3, grownBy_trans hg2 hg3⟩
  case rest =>
    clear ho1 hR2 hg2
    obtain ⟨n1, rfl, hn1, ho2, hR3, hg3⟩ := hcut
    have z2 := hg3.size
    go_wp2_with fail
    refine (pick_any g (p + 3) _ _ hR3 (by omega) (by omega)).mono ?_
    rintro e w3 ⟨y2, rfl, hy2, hR4, hg4⟩
    have ho3 := ho2.kept hg4 (ho2.ne_g zg)
    have hg5 := grownBy_trans hg3 hg4
    clear hR3 hg3 hg4 ho2 hy2
    go_upto_if 19 with fail
    go_cut [6] (fun s6 wx => ∃ (nn : Int) (q : Nat), s6 = .int .i64 nn ∧ nn ≤ 8 ∧ OwnP wx w.heap.size (.slice (some ⟨w1.heap.size, 0, none⟩) 0 0) [] ∧ Rdr wx g q ∧ q ≤ p + 10 ∧ w.grownBy wx (some g))
    case first =>
      by_cases hb : y2 = 0
      · have hd : (y2 == 0) = true := by simp [hb]
        clear hb
        go_wp2_with fail
        all_goals
          refine (pick_any g (p + 4) _ _ hR4 (by omega) (by omega)).mono ?_
          rintro e wc ⟨y3, rfl, hy3, hRc, hg7⟩
          have hy3' := hy3.1 (by omega)
          go_wp2_with fail
          go_meet
          exact ⟨_, p + 5, rfl, by omega, ho3.kept hg7 (ho3.ne_g zg), hRc, by omega, grownBy_trans hg5 hg7⟩
      · have hd : (y2 == 0) = false := by simpa using hb
        clear hb
        go_wp2_with fail
        go_meet
        exact ⟨_, p + 4, rfl, hn1, ho3, hR4, by omega, hg5⟩
    case rest =>
      clear ho3 hR4 hg5
      obtain ⟨nn, q0, rfl, hnn, ho4, hR5, hq0, hg6⟩ := hcut
      go_wp2_with fail
      go_loopg [5] 9 (fun n v wr => ∃ (l : List (Int × Int)) (q : Nat), l.length + n = 9 ∧ OwnP wr w.heap.size v l ∧ Rdr wr g q ∧ q ≤ p + 10 + 4 * l.length ∧ w.grownBy wr (some g))
      case atStart => exact ⟨[], q0, by simp, ho4, hR5, by simpa using hq0, hg6⟩
      case round =>
        clear ho4 hR5 hg6
        obtain ⟨l, q, hln, ho, hR, hq, hg⟩ := hrel
        obtain ⟨a5, c5, rfl, _, _, _, _⟩ := ho.form
        have hz := hg.size
        have HLN := Lib.hid hln
        have hl9 : l.length ≤ 9 := by omega
        clear hln
        by_cases hlt : (l.length : Int) < nn
        · go_wp2_with fail
          refine (pick_any g q _ _ hR (by omega) (by omega)).mono ?_
          rintro e wa ⟨x1, rfl, _, hRa, hga⟩
          replace ho := ho.kept hga (ho.ne_g zg)
          replace hg := grownBy_trans hg hga
          clear hga hR
          go_wp2_with fail
          refine (pick_any g (q + 1) _ _ hRa (by omega) (by omega)).mono ?_
          rintro e wb ⟨x2, rfl, _, hRb, hgb⟩
          replace ho := ho.kept hgb (ho.ne_g zg)
          replace hg := grownBy_trans hg hgb
          have hzb := hg.size
          clear hgb hRa
          have hRb2 := hRb.below ((Below.refl wb.heap.size wb).alloc (Nat.le_refl _) (.cells #[.int .i64 x1, .int .i64 x2] 44))
          have hob2 := ho.alloc (.cells #[.int .i64 x1, .int .i64 x2] 44)
          have hgb2 := grownBy_alloc' hg (.cells #[.int .i64 x1, .int .i64 x2] 44)
          have hgw : g < wb.heap.size := hRb.lt
          have HLT := Lib.hid ho.lt
          clear ho hg hRb
          go_wp2_with fail
          refine (pick_any g (q + 2) _ _ hRb2 (by omega) (by omega)).mono ?_
          rintro e wc2 ⟨x3, rfl, _, hRc, hgc⟩
          have hoc := hob2.kept hgc (hob2.ne_g zg)
          have hgc2 := grownBy_trans hgb2 hgc
          have k1 : wc2.cell? ⟨wb.heap.size, 0, none⟩ = some (.int .i64 x1) := hgc.cell (by simp [go_sem]) (by simp; omega)
          have k2 : wc2.cell? ⟨wb.heap.size, 1, none⟩ = some (.int .i64 x2) := hgc.cell (by simp [go_sem]) (by simp; omega)
          have hzc := hgc2.size
          have hwbc := hgc.size
          rw [World.size_alloc] at hwbc
          have hfz : wc2.frozen? ⟨wb.heap.size, 1, none⟩ = false := by
            rw [World.frozen?_of_block (hgc.block wb.heap.size (by simp) (by simp; omega))]; simp [go_sem]
          clear hRb2 hob2 hgb2 hgc
          by_cases hx3 : x3 = 0
          · have hd3 : (x3 == 0) = true := by simp [hx3]
            clear hx3
            go_wp2_with fail
            all_goals
              refine (pick_any g (q + 3) _ _ hRc (by omega) (by omega)).mono ?_
              rintro e wd ⟨x4, rfl, _, hRd, hgd⟩
              have hod := hoc.kept hgd (hoc.ne_g zg)
              have hgd2 := grownBy_trans hgc2 hgd
              have k1d : wd.cell? ⟨wb.heap.size, 0, none⟩ = some (.int .i64 x1) := hgd.cell k1 (by simp; omega)
              have k2d : wd.cell? ⟨wb.heap.size, 1, none⟩ = some (.int .i64 x2) := hgd.cell k2 (by simp; omega)
              have hfd : wd.frozen? ⟨wb.heap.size, 1, none⟩ = false := by
                rw [World.frozen?_of_block (hgd.block wb.heap.size (by show wb.heap.size < wc2.heap.size; omega) (by simp; omega))]; exact hfz
              have hse := setCell_grown wd wb.heap.size 1 (.int .i64 x4)
              have hoe := hod.kept hse (ownP_ne_new HLT)
              have hRe := hRd.kept hse (fun k hk => by cases hk; exact hgw)
              have hge : w.grownBy (wd.setCell ⟨wb.heap.size, 1, none⟩ (.int .i64 x4)) (some g) :=
                ⟨hgd2.os, hgd2.tape, hgd2.output, by simpa using hgd2.size, fun i hi hne => (hse.block i (Nat.lt_of_lt_of_le hi hgd2.size) (by simp; omega)).trans (hgd2.block i hi hne)⟩
              have hze := hge.size
              have hmu := HLN.out
              clear hod hRd hgd2 hse hgd
              go_wp2_with (at_builtin; refine push_pair rfl (.tmp 46) (.tmp 48) rfl w.heap.size _ l x1 x4 rfl hoe _ rfl (by simp) (by omega) hze ?_)
              intro v' wf of gf
              have hRf := hRe.kept gf (fun k hk => by have := (hoe.lt k hk).1; omega)
              have hgf := grownBy_ownP hge hoe (Nat.le_refl _) gf
              clear gf hoe hge hRe
              go_wp2
              go_roundg (gk - 1)
              case measure => omega
              case rel => exact ⟨l ++ [(x1, x4)], q + 4, by simp; omega, of, hRf, by simp; omega, hgf⟩
          · have hd3 : (x3 == 0) = false := by simpa using hx3
            clear hx3
            go_wp2_with (at_builtin; refine push_pair rfl (.tmp 46) (.tmp 48) rfl w.heap.size _ l x1 x2 rfl hoc _ rfl rfl (by omega) hzc ?_)
            intro v' wf of gf
            have hmu := HLN.out
            have hRf := hRc.kept gf (fun k hk => by have := (hoc.lt k hk).1; omega)
            have hgf := grownBy_ownP hgc2 hoc (Nat.le_refl _) gf
            clear gf hoc hgc2 hRc
            go_wp2
            go_roundg (gk - 1)
            case measure => omega
            case rel => exact ⟨l ++ [(x1, x2)], q + 3, by simp; omega, of, hRf, by simp; omega, hgf⟩
        · go_wp2_with fail
          refine (pick_any g q _ _ hR (by omega) (by omega)).mono ?_
          rintro e wa ⟨x1, rfl, hx1, hRa, hga⟩
          replace ho := ho.kept hga (ho.ne_g zg)
          replace hg := grownBy_trans hg hga
          have hza := hg.size
          have hga2 := hRa.lt
          clear hx1 hga hR
          by_cases hx0 : x1 = 0
          · have hd2 : (x1 == 0) = true := by simp [hx0]
            have hc : CellsAt (wa.alloc (.cells #[.int .i64 (-1), .int .i64 m] 3)) wa.heap.size 0 [-1, m] := CellsAt.lit wa [-1, m]
            have hR2 := hRa.below ((Below.refl wa.heap.size wa).alloc (Nat.le_refl _) (.cells #[.int .i64 (-1), .int .i64 m] 3))
            clear hx0
            go_wp2_with fail
            refine (one_any g (q + 1) _ _ [-1, m] _ hR2 (by omega) hc hga2 (by simp) (by simp) 2 rfl).mono ?_
            rintro e wb ⟨z, rfl, hz, hR3, hg3⟩
            have hob0 := ho.alloc (.cells #[.int .i64 (-1), .int .i64 m] 3)
            have hob := hob0.kept hg3 (ho.ne_g zg)
            have hgb := grownBy_trans (grownBy_alloc' hg _) hg3
            have hzb := hgb.size
            clear hc hz hg3 ho hg hob0
            go_wp2_with (at_builtin; refine push_pair rfl (.tmp 54) (.tmp 60) rfl w.heap.size _ l 0 z rfl hob _ rfl rfl (by omega) hzb ?_)
            intro v' we oe ge
            have hRe := hR3.kept ge (fun k hk => by have := (hob.lt k hk).1; omega)
            have hge := grownBy_ownP hgb hob (Nat.le_refl _) ge
            clear ge hob hgb hR3
            go_wp2
            go_ret2
            exact ⟨m, _, _, q + 2, rfl, hm, oe, by simp; omega, hRe, by omega, hge⟩
          · have hd2 : (x1 == 0) = false := by simpa using hx0
            clear hx0
            go_wp2
            go_ret2
            exact ⟨m, _, l, q + 1, rfl, hm, ho, by omega, hRa, by omega, hg⟩

theorem OwnP.base {w : World} {base base' : Nat} {v : Value} {l : List (Int × Int)} (h : OwnP w base v l) (hb : base' ≤ base) : OwnP w base' v l := by
  refine ⟨h.1, ?_⟩
  rcases h.2 with h | ⟨g, cap, cur, h1, h2, h3⟩
  · exact .inl h
  · exact .inr ⟨g, cap, cur, h1, Nat.le_trans hb h2, h3⟩

theorem drawValidPairs_any (a : Option Addr) (n cap : Nat) (w : World) (hB : Bytes w w.heap.size a n) (hn : n ≤ 9223372036854775807) (hc : n ≤ cap) :
    Calls Try.prog 33 #[.slice a n cap] w fun e w' => ∃ (m : Int) (v : Value) (l : List (Int × Int)), e = .returned (.tuple #[.int .i64 m, v]) ∧ (-1 ≤ m ∧ m ≤ 11) ∧ OwnP w' w.heap.size v l ∧ l.length ≤ 20 ∧ Below w.heap.size w w' := by
  go_enter Try.func33, Try.ntmps33
  go_wp2_with fail
  refine (newReader_any a n cap w hB hn hc).mono ?_
  rintro e w1 ⟨rfl, hR, hb1, hs1⟩
  go_wp2_with fail
  refine (somePairs_any w.heap.size 0 w1 hR (by omega)).mono ?_
  rintro e w2 ⟨m, v, l, q, rfl, hm, ho, hl, hR2, hq, hg⟩
  go_wp2
  go_ret2
  exact ⟨m, v, l, rfl, hm, ho.base hb1.size, hl, hb1.grown hg hb1.size (fun k hk => by cases hk; omega)⟩

theorem drawGroupsOf_any (a : Option Addr) (n cap : Nat) (w : World) (hB : Bytes w w.heap.size a n) (hn : n ≤ 9223372036854775807) (hc : n ≤ cap) :
    Calls Try.prog 37 #[.slice a n cap] w fun e w' => ∃ (m : Int) (v : Value) (l : List (Int × Int)), e = .returned (.tuple #[.int .i64 m, v]) ∧ (-1 ≤ m ∧ m ≤ 11) ∧ OwnP w' w.heap.size v l ∧ l.length ≤ 20 ∧ Below w.heap.size w w' := by
  go_enter Try.func37, Try.ntmps37
  go_wp2_with fail
  refine (newReader_any a n cap w hB hn hc).mono ?_
  rintro e w1 ⟨rfl, hR, hb1, hs1⟩
  go_wp2_with fail
  refine (somePairs_any w.heap.size 0 w1 hR (by omega)).mono ?_
  rintro e w2 ⟨m, v, l, q, rfl, hm, ho, hl, hR2, hq, hg⟩
  go_wp2
  go_ret2
  exact ⟨m, v, l, rfl, hm, ho.base hb1.size, hl, hb1.grown hg hb1.size (fun k hk => by cases hk; omega)⟩

theorem drawIsRoomy_any (a : Option Addr) (n cap : Nat) (w : World) (hB : Bytes w w.heap.size a n) (hn : n ≤ 9223372036854775807) (hc : n ≤ cap) :
    Calls Try.prog 40 #[.slice a n cap] w fun e w' => ∃ (m : Int) (v : Value) (l : List (Int × Int)), e = .returned (.tuple #[.int .i64 m, v]) ∧ (-1 ≤ m ∧ m ≤ 11) ∧ OwnP w' w.heap.size v l ∧ l.length ≤ 20 ∧ Below w.heap.size w w' := by
  go_enter Try.func40, Try.ntmps40
  go_wp2_with fail
  refine (newReader_any a n cap w hB hn hc).mono ?_
  rintro e w1 ⟨rfl, hR, hb1, hs1⟩
  go_wp2_with fail
  refine (somePairs_any w.heap.size 0 w1 hR (by omega)).mono ?_
  rintro e w2 ⟨m, v, l, q, rfl, hm, ho, hl, hR2, hq, hg⟩
  go_wp2
  go_ret2
  exact ⟨m, v, l, rfl, hm, ho.base hb1.size, hl, hb1.grown hg hb1.size (fun k hk => by cases hk; omega)⟩

theorem drawPlaceAll_any (a : Option Addr) (n cap : Nat) (w : World) (hB : Bytes w w.heap.size a n) (hn : n ≤ 9223372036854775807) (hc : n ≤ cap) :
    Calls Try.prog 43 #[.slice a n cap] w fun e w' => ∃ (m : Int) (v : Value) (l : List (Int × Int)), e = .returned (.tuple #[.int .i64 m, v]) ∧ (-1 ≤ m ∧ m ≤ 11) ∧ OwnP w' w.heap.size v l ∧ l.length ≤ 20 ∧ Below w.heap.size w w' := by
  go_enter Try.func43, Try.ntmps43
  go_wp2_with fail
  refine (newReader_any a n cap w hB hn hc).mono ?_
  rintro e w1 ⟨rfl, hR, hb1, hs1⟩
  go_wp2_with fail
  refine (somePairs_any w.heap.size 0 w1 hR (by omega)).mono ?_
  rintro e w2 ⟨m, v, l, q, rfl, hm, ho, hl, hR2, hq, hg⟩
  go_wp2
  go_ret2
  exact ⟨m, v, l, rfl, hm, ho.base hb1.size, hl, hb1.grown hg hb1.size (fun k hk => by cases hk; omega)⟩

theorem drawKickAll_any (a : Option Addr) (n cap : Nat) (w : World) (hB : Bytes w w.heap.size a n) (hn : n ≤ 9223372036854775807) (hc : n ≤ cap) :
    Calls Try.prog 45 #[.slice a n cap] w fun e w' => ∃ (m : Int) (v : Value) (l : List (Int × Int)), e = .returned (.tuple #[.int .i64 m, v]) ∧ (-1 ≤ m ∧ m ≤ 11) ∧ OwnP w' w.heap.size v l ∧ l.length ≤ 20 ∧ Below w.heap.size w w' := by
  go_enter Try.func45, Try.ntmps45
  go_wp2_with fail
  refine (newReader_any a n cap w hB hn hc).mono ?_
  rintro e w1 ⟨rfl, hR, hb1, hs1⟩
  go_wp2_with fail
  refine (somePairs_any w.heap.size 0 w1 hR (by omega)).mono ?_
  rintro e w2 ⟨m, v, l, q, rfl, hm, ho, hl, hR2, hq, hg⟩
  go_wp2
  go_ret2
  exact ⟨m, v, l, rfl, hm, ho.base hb1.size, hl, hb1.grown hg hb1.size (fun k hk => by cases hk; omega)⟩
end Go.Proofs.Ytlkhobofbkoliaa
