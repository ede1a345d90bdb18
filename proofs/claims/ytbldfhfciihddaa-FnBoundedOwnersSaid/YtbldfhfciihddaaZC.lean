/-
  impl.BoundedOwners.
-/
import Derived.Test.YtbldfhfciihddaaZB
import Derived.Deep.RegionHeld3
import Derived.Deep.DeepCutAuto
namespace Go.Proofs.Ytbldfhfciihddaa
open Go.RowKit

def pad (O : List Int) (m : Nat) : List Int := O ++ List.replicate m 0
theorem pad_len (O : List Int) (m : Nat) : (pad O m).length = O.length + m := by simp [pad]
theorem pad_zero (O : List Int) : pad O 0 = O := by simp [pad]
theorem pad_set (O : List Int) (m : Nat) (x : Int) : (pad O (m + 1)).set O.length x = pad (O ++ [x]) m := by
  simp [pad, List.replicate_succ]
theorem Tab.other {w : World} {base g n cap : Nat} {l : List Int} (h : Tab w base g n cap l) {g' : Nat} (hg : g ≠ g') (k : Nat) (x : Value) : Tab (w.setCell ⟨g', k, none⟩ x) base g n cap l :=
  World.ownsRow.kept h (grownBy_setCell_any w ⟨g', k, none⟩ x) (.inr (fun e => hg (by simpa [Value.ownBlock] using e)))

theorem tab3_0 (w : World) (X Y : Obj) {BB : Array Value} (base n : Nat) (hBB : BB = madeCells #[.int .i64 0] n) (hb : base ≤ w.heap.size) (hn : n ≤ 100) : Tab (((w.alloc (.cells BB 3)).alloc X).alloc Y) base w.heap.size n n (List.replicate n 0) := by
  rw [hBB]
  exact ((made_tabR w base n hb hn).below ((Below.refl _ _).alloc (Nat.le_refl _) _)).below ((Below.refl _ _).alloc (Nat.le_refl _) _)
theorem tab3_1 (w : World) (X Y : Obj) {BB : Array Value} (base n : Nat) (hBB : BB = madeCells #[.int .i64 0] n) (hb : base ≤ w.heap.size) (hn : n ≤ 100) : Tab (((w.alloc X).alloc (.cells BB 3)).alloc Y) base (w.heap.size + 1) n n (List.replicate n 0) := by
  rw [hBB]
  have := (made_tabR (w.alloc X) base n (by rw [World.size_alloc]; omega) hn).below ((Below.refl _ _).alloc (Nat.le_refl _) Y)
  rw [World.size_alloc] at this
  exact this
theorem tab3_2 (w : World) (X Y : Obj) {BB : Array Value} (base n : Nat) (hBB : BB = madeCells #[.int .i64 0] n) (hb : base ≤ w.heap.size) (hn : n ≤ 100) : Tab (((w.alloc X).alloc Y).alloc (.cells BB 3)) base (w.heap.size + 1 + 1) n n (List.replicate n 0) := by
  rw [hBB]
  have := made_tabR ((w.alloc X).alloc Y) base n (by rw [World.size_alloc, World.size_alloc]; omega) hn
  rw [World.size_alloc, World.size_alloc] at this
  exact this
theorem cell3_0 (w : World) (X Y : Obj) (v : Value) (t : TypeId) : (((w.alloc (.cells #[v] t)).alloc X).alloc Y).cell? ⟨w.heap.size, 0, none⟩ = some v := by
  rw [World.cell?_alloc_lt _ _ _ (by simp; omega), World.cell?_alloc_lt _ _ _ (by simp)]; simp
theorem cell3_1 (w : World) (X Y : Obj) (v : Value) (t : TypeId) : (((w.alloc X).alloc (.cells #[v] t)).alloc Y).cell? ⟨w.heap.size + 1, 0, none⟩ = some v := by
  rw [World.cell?_alloc_lt _ _ _ (by simp)]
  have : w.heap.size + 1 = (w.alloc X).heap.size := (World.size_alloc _ _).symm
  rw [this]; simp
theorem cell3_2 (w : World) (X Y : Obj) (v : Value) (t : TypeId) : (((w.alloc X).alloc Y).alloc (.cells #[v] t)).cell? ⟨w.heap.size + 1 + 1, 0, none⟩ = some v := by
  have h : ∀ (v2 : World), (v2.alloc (.cells #[v] t)).cell? ⟨v2.heap.size, 0, none⟩ = some v := fun v2 => by simp
  have := h ((w.alloc X).alloc Y)
  rw [World.size_alloc, World.size_alloc] at this
  exact this

/-- What the three variables are when they lie there. -/
def BV (w w3 : World) (l ks : List Int) (load : Int) (s8 s9 : Value) (wx : World) : Prop :=
  ∃ gP gC gO : Nat, s8 = .pointer (some ⟨gP, 0, none⟩) ∧ s9 = .slice (some ⟨gO, 0, none⟩) ks.length ks.length ∧ wx.cell? ⟨gP, 0, none⟩ = some (.slice (some ⟨gC, 0, none⟩) l.length l.length) ∧ Tab wx w3.heap.size gC l.length l.length (List.replicate l.length 0) ∧ Tab wx w3.heap.size gO ks.length ks.length (List.replicate ks.length 0) ∧ gC ≠ gO ∧ gP ≠ gC ∧ gP ≠ gO ∧ w3.heap.size ≤ gP ∧ Below w3.heap.size w3 wx

set_option maxHeartbeats 8000000 in
set_option maxRecDepth 100000 in
theorem implBoundedOwners_any (a : Option Addr) (l : List Int) (cap : Nat) (ak : Option Addr) (ks : List Int) (ck : Nat) (load : Int) (w : World) (hr : Reads w a l) (hi : ∀ n ∈ l, In64 n) (hl : l.length ≤ 1048586) (hcap : l.length ≤ cap) (hrk : Reads w ak ks) (_hik : ∀ n ∈ ks, In64 n) (hlk : ks.length ≤ 1048586) (_hck : ks.length ≤ ck) (_hload : In64 load) :
    Calls Try.prog 46 #[.slice a l.length cap, .slice ak ks.length ck, .int .i64 load] w fun e w' => ∃ v, e = .returned (.tuple #[v, .bool (BO l ks load).2]) ∧ Own w' w.heap.size v (BO l ks load).1 ∧ Below w.heap.size w w' := by
  obtain ⟨F, hF⟩ : ∃ F, F = BO l ks load := ⟨_, rfl⟩
  rw [← hF]
  have HF := Lib.hid hF
  clear hF
  obtain ⟨wA, hwA⟩ : ∃ wA, wA = w.alloc (.cells #[.int .i64 load] 3) := ⟨_, rfl⟩
  have bA : Below w.heap.size w wA := by rw [hwA]; exact (Below.refl _ _).alloc (Nat.le_refl _) _
  have cA : wA.cell? ⟨w.heap.size, 0, none⟩ = some (.int .i64 load) := by rw [hwA]; simp
  have zA : wA.heap.size = w.heap.size + 1 := by rw [hwA]; simp
  have HWA := Lib.hid hwA
  have cV := implValidRing_any a l cap wA (hr.below bA) hi hl hcap
  clear hwA
  by_cases hv : VR l = true
  rotate_left
  · have e : F = ([], false) := by rw [HF.out]; exact BO_no fun h => hv h.1
    subst e
    rw [show VR l = false from by simpa using hv] at cV
    have CV := Lib.hid cV
    clear cV hv
    go_enter Try.func46, Try.ntmps46
    go_wp2_with fail
    rw [← HWA.out]
    refine CV.out.mono ?_
    rintro e w2 ⟨rfl, b2⟩
    have B2 := bA.trans (b2.mono bA.size)
    go_wp2
    go_ret2
    exact ⟨_, rfl, Own.nil _ _, B2⟩
  rw [hv] at cV
  have CV := Lib.hid cV
  have hl1 := (VR_iff.1 hv).1
  have hl6 := (VR_iff.1 hv).2.1
  have HV := Lib.hid hv
  clear cV hv
  have cL := fun wx (h : Reads wx ak ks) => validLoad_any ak ks ck load wx h hlk
  by_cases hld : VL ks load = true
  rotate_left
  · have e : F = ([], false) := by rw [HF.out]; exact BO_no fun h => hld (VL_iff.2 ⟨h.2.1, h.2.2.1, h.2.2.2.1⟩)
    subst e
    rw [show VL ks load = false from by simpa using hld] at cL
    have CL := Lib.hid cL
    clear cL hld
    go_enter Try.func46, Try.ntmps46
    go_wp2_with fail
    rw [← HWA.out]
    refine CV.out.mono ?_
    rintro e w2 ⟨rfl, b2⟩
    have B2 := bA.trans (b2.mono bA.size)
    have c2 := (b2.cell (p := ⟨w.heap.size, 0, none⟩) (by show w.heap.size < wA.heap.size; omega)).trans cA
    go_wp2_with fail
    refine (CL.out _ (hrk.below B2)).mono ?_
    rintro e w3 ⟨rfl, b3⟩
    have B3 := B2.trans (b3.mono B2.size)
    go_wp2
    go_ret2
    exact ⟨_, rfl, Own.nil _ _, B3⟩
  rw [hld] at cL
  have CL := Lib.hid cL
  have hld1 := VL_iff.1 hld
  have hk8 := hld1.1
  have HLD := Lib.hid hld1
  have hmk := run_make_row' (P := Try.prog) 23 3 (.int .i64 0) 8 Try.underlying23 infoInt rfl .i64 .i64 l.length (by omega) (by omega)
  have hmk2 := run_make_row' (P := Try.prog) 23 3 (.int .i64 0) 8 Try.underlying23 infoInt rfl .i64 .i64 ks.length (by omega) (by omega)
  obtain ⟨BB, hBB⟩ : ∃ BB, BB = madeCells #[.int .i64 0] l.length := ⟨_, rfl⟩
  obtain ⟨BK2, hBK⟩ : ∃ BB, BB = madeCells #[.int .i64 0] ks.length := ⟨_, rfl⟩
  rw [← hBB] at hmk
  rw [← hBK] at hmk2
  have HBB := Lib.hid hBB
  have HBK2 := Lib.hid hBK
  clear cL hld hBB hBK hld1
  go_enter Try.func46, Try.ntmps46
  go_wp2_with fail
  rw [← HWA.out]
  refine CV.out.mono ?_
  rintro e w2 ⟨rfl, b2⟩
  have B2 := bA.trans (b2.mono bA.size)
  have c2 := (b2.cell (p := ⟨w.heap.size, 0, none⟩) (by show w.heap.size < wA.heap.size; omega)).trans cA
  go_wp2_with fail
  refine (CL.out _ (hrk.below B2)).mono ?_
  rintro e w3 ⟨rfl, b3⟩
  have B3 := B2.trans (b3.mono B2.size)
  have c3 := (b3.cell (p := ⟨w.heap.size, 0, none⟩) (World.block_lt_of_cell? _ _ c2)).trans c2
  clear c2 b2 b3 CV CL cA
  go_wp2_with fail
  go_cut [8, 9] (fun s8 s9 wx => BV w w3 l ks load s8 s9 wx)
  case first =>
    go_region_held3 (fun w' => True) (trivial) (fail)
    all_goals
      go_wp2_with fail
      go_meet
      first
        | refine ⟨_, _, _, rfl, rfl, cell3_0 _ _ _ _ _, ?c2, ?c3, ?c4, ?c5, ?c6, ?c7, ?c8⟩
        | refine ⟨_, _, _, rfl, rfl, cell3_1 _ _ _ _ _, ?c2, ?c3, ?c4, ?c5, ?c6, ?c7, ?c8⟩
        | refine ⟨_, _, _, rfl, rfl, cell3_2 _ _ _ _ _, ?c2, ?c3, ?c4, ?c5, ?c6, ?c7, ?c8⟩
      case c2 => refine Tab.below (Below.refl _ _).drew ?_; first | exact tab3_0 _ _ _ _ _ HBB.out (Nat.le_refl _) (by omega) | exact tab3_1 _ _ _ _ _ HBB.out (Nat.le_refl _) (by omega) | exact tab3_2 _ _ _ _ _ HBB.out (Nat.le_refl _) (by omega)
      case c3 => refine Tab.below (Below.refl _ _).drew ?_; first | exact tab3_0 _ _ _ _ _ HBK2.out (Nat.le_refl _) (by omega) | exact tab3_1 _ _ _ _ _ HBK2.out (Nat.le_refl _) (by omega) | exact tab3_2 _ _ _ _ _ HBK2.out (Nat.le_refl _) (by omega)
      case c4 => omega
      case c5 => omega
      case c6 => omega
      case c7 => omega
      case c8 => exact ((((Below.refl _ _).alloc (Nat.le_refl _) _).alloc (by rw [World.size_alloc]; omega) _).alloc (by rw [World.size_alloc, World.size_alloc]; omega) _).drew
  case rest =>
    obtain ⟨gP, gC, gO, rfl, rfl, hP, hTC, hTO, hCO, hPC, hPO, hzP, hB⟩ := hcut
    have hzL : w.heap.size < w3.heap.size := World.block_lt_of_cell? _ _ c3
    have cL := (hB.cell (p := ⟨w.heap.size, 0, none⟩) hzL).trans c3
    have hzC := hTC.block.1
    have hzO := hTO.block.1
    have hLC : w.heap.size ≠ gC := by omega
    have hLO : w.heap.size ≠ gO := by omega
    have B := B3.trans (hB.mono B3.size)
    have hpad : (List.replicate ks.length 0 : List Int) = pad (bs l ks load 0).2 (ks.length - 0) := by simp [pad, bs]
    have htc0 : (List.replicate l.length 0 : List Int) = (bs l ks load 0).1 := rfl
    rw [hpad] at hTO
    rw [htc0] at hTC
    have hr3 := hr.below B3
    have hrk3 := hrk.below B3
    have HZ := Lib.hid (show w.heap.size ≤ w3.heap.size by omega)
    clear hpad htc0 hmk hmk2 HBB HBK2 c3 B2 bA hr hrk
    go_wp2_with fail
    go_loopw [31] (fun iv wr => ∃ j : Nat, j ≤ ks.length ∧ iv = .int .i64 j ∧ Hid (BK l ks load j) ∧ Tab wr w3.heap.size gC l.length l.length (bs l ks load j).1 ∧ Tab wr w3.heap.size gO ks.length ks.length (pad (bs l ks load j).2 (ks.length - j)) ∧ wr.cell? ⟨gP, 0, none⟩ = some (.slice (some ⟨gC, 0, none⟩) l.length l.length) ∧ wr.cell? ⟨w.heap.size, 0, none⟩ = some (.int .i64 load) ∧ Below w3.heap.size w3 wr) (fun iv _ => ks.length - (intOf iv).toNat)
    case atStart => exact ⟨0, by omega, rfl, BK.zero _ _ _, hTC, hTO, hP, cL, hB⟩
    case round =>
      clear hTC hTO hP cL hB B
      obtain ⟨j, hj, rfl, hbk, hTC, hTO, hP, cL, hB⟩ := hrel
      have B := B3.trans (hB.mono HZ.out)
      by_cases hlt : j < ks.length
      · have hjl : (j : Int) < (ks.length : Int) := by omega
        obtain ⟨bk, ok, y, rfl, hbk1, hck, hy⟩ := (hrk3.below hB).get hlt
        have hy63 := HLD.out.2.2 j hlt
        rw [hy.out] at hy63
        have hbs := (bs_sum j hbk.out).2
        have hst1 := fun b => bs_succ1 (ps := l) (ks := ks) (load := load) (j := j) (b := b)
        have hst2 := fun b => bs_succ2 (ps := l) (ks := ks) (load := load) (j := j) (b := b)
        obtain ⟨C, hC⟩ : ∃ C, C = (bs l ks load j).1 := ⟨_, rfl⟩
        obtain ⟨O, hO⟩ : ∃ O, O = (bs l ks load j).2 := ⟨_, rfl⟩
        have hOl : O.length = j := by rw [hO, bs_len2]
        have hCl : C.length = l.length := by rw [hC, bs_len1]
        rw [← hC, hy.out] at hst1 hst2
        rw [← hC] at hTC hbs
        rw [← hO] at hst2 hTO
        have hnb : nb l load C y = bb (mo load C) (st l y) l.length := rfl
        have hbk2 : ∀ b, nb l load C y = some b → BK l ks load (j + 1) := fun b hb => hbk.out.succ (by rw [← hC, hy.out, hb]; rfl)
        have hbad : nb l load C y = none → F = ([], false) := fun hn => by
          rw [HF.out]; refine BO_no fun h => ?_
          have := h.2.2.2.2 j hlt
          rw [← hC, hy.out, hn] at this
          simp at this
        have hpad : ∀ x : Int, (pad O (ks.length - j)).set j x = pad (O ++ [x]) (ks.length - (j + 1)) := fun x => by
          have := pad_set O (ks.length - (j + 1)) x
          rw [hOl, show ks.length - (j + 1) + 1 = ks.length - j by omega] at this
          exact this
        have cF := from_any a l cap y wr (hr3.below hB) HV.out hy63.1 hy63.2
        have HCF := Lib.hid cF
        have HST1 := Lib.hid hst1
        have HST2 := Lib.hid hst2
        have HBS := Lib.hid hbs
        have HBK := Lib.hid hbk2
        have HBAD := Lib.hid hbad
        have HPAD := Lib.hid hpad
        have HCL := Lib.hid hCl
        have HNB := Lib.hid hnb
        clear cF hst1 hst2 hbs hbk2 hbad hpad hCl hOl hC hO hy hnb hbk
        go_wp2_with fail
        refine HCF.out.mono ?_
        rintro e w5 ⟨v5, R, rfl, hS, ho5, b5⟩
        have hRl := hS.len
        have hzr := hB.size
        have hB5 := hB.trans (b5.mono hzr)
        have TC5 := hTC.below b5
        have TO5 := hTO.below b5
        have P5 := (b5.cell (p := ⟨gP, 0, none⟩) (World.block_lt_of_cell? _ _ hP)).trans hP
        have L5 := (b5.cell (p := ⟨w.heap.size, 0, none⟩) (World.block_lt_of_cell? _ _ cL)).trans cL
        obtain ⟨aR, cR, eR, hrR, _, _, _⟩ := ho5.form
        have hnl : (nts R).length = l.length := by rw [nts_len, hRl]
        rw [hnl] at eR
        subst eR
        have hCA : CellsAt w5 gC 0 C := fun i hi => by
          obtain ⟨x, hx, hx2⟩ := TC5.get (k := i) (by rw [← HCL.out]; exact hi)
          rw [Nat.zero_add, hx2.out]; exact hx
        have cI := indexFunc_any aR R l.length cR gP w.heap.size gC l.length l.length C load w5 HCL.out hRl hl6 (fun i hi => hS.mem hi) hrR P5 L5 hCA
        have HCI := Lib.hid cI
        have HSO := Lib.hid hS
        have HRL := Lib.hid hRl
        have HNL := Lib.hid hnl
        clear cI hS hCA ho5 hTC hTO hP cL b5 HCF hnl hRl
        go_wp2_with fail
        refine HCI.out.mono ?_
        rintro e w6 ⟨⟨r, rfl, hcase⟩, q, rfl⟩
        have hB6 := below_drewN hB5 q
        have B6 := B3.trans (hB6.mono HZ.out)
        rcases hcase with ⟨rfl, hnone⟩ | ⟨i, rfl, hi2, hmi, hpre⟩
        · have e := HBAD.out (by rw [HNB.out]; exact bb_ord_no HSO.out hnone)
          subst e
          clear HCI hnone
          go_wp2
          go_ret2
          exact ⟨_, rfl, Own.nil _ _, B6⟩
        · have hnb2 := bb_ord HV.out HSO.out hi2 hmi hpre
          rw [← HNB.out] at hnb2
          obtain ⟨bR, oR, yb, rfl, hbR, hcR, hyb⟩ := hrR.get (k := i) (by rw [HNL.out]; exact hi2)
          have hyb' : yb = ((R.getD i 0 : Nat) : Int) := by rw [← hyb.out, nts_get (by rw [HRL.out]; exact hi2)]
          have hbl : R.getD i 0 < l.length := HSO.out.mem hi2
          obtain ⟨b, hb⟩ : ∃ b, b = R.getD i 0 := ⟨_, rfl⟩
          rw [← hb] at hnb2 hyb' hbl
          subst hyb'
          have h1 := HST1.out b hnb2
          have h2 := HST2.out b hnb2
          have h3 := HBK.out b hnb2
          have hcb := HBS.out b hbl
          have TC6 := TC5.below (below_drewN (Below.refl _ w5) q)
          have TO6 := TO5.below (below_drewN (Below.refl _ w5) q)
          obtain ⟨y0, hcy0, _⟩ := TO6.get (k := j) hlt
          have hfO := TO6.frozen j
          have TO7 := TO6.store j (b : Int)
          rw [HPAD.out, ← h2] at TO7
          have TC7 := TC6.other hCO j (.int .i64 (b : Int))
          have cO7 : ((w5.drewN q).setCell ⟨gO, j, none⟩ (.int .i64 (b : Int))).cell? ⟨gO, j, none⟩ = some (.int .i64 (b : Int)) := by
            obtain ⟨x, hx, hx2⟩ := (TO6.store j (b : Int)).get (k := j) hlt
            have hl2 := TO6.len
            have : x = (b : Int) := by
              rw [← hx2.out]
              simp only [List.getD]
              rw [List.getElem?_set_self (by omega)]; rfl
            rw [this] at hx
            exact hx
          have P7 := KeptB.store gO j (w5.drewN q) (.int .i64 (b : Int)) gP 0 _ hPO P5
          have L7 := KeptB.store gO j (w5.drewN q) (.int .i64 (b : Int)) w.heap.size 0 _ hLO L5
          have hB7 := hB6.setCell (p := ⟨gO, j, none⟩) hzO (.int .i64 (b : Int))
          obtain ⟨ws, hws⟩ : ∃ ws, ws = (w5.drewN q).setCell ⟨gO, j, none⟩ (.int .i64 (b : Int)) := ⟨_, rfl⟩
          rw [← hws] at TO7 TC7 cO7 P7 L7 hB7
          obtain ⟨c1, hcc, hc1v⟩ := TC7.get (k := b) hbl
          have hfC := TC7.frozen b
          rw [hc1v.out] at h1 hcb
          have hj8 : j ≤ 8 := by omega
          have hcw : IntKind.i64.wrap (c1 + 1) = c1 + 1 := IntWalk.i64_in _ (by omega)
          have TC8 := TC7.store b (c1 + 1)
          rw [← h1] at TC8
          have TO8 := TO7.other (g' := gC) (fun e => hCO e.symm) b (.int .i64 (c1 + 1))
          have P8 := KeptB.store gC b ws (.int .i64 (c1 + 1)) gP 0 _ hPC P7
          have L8 := KeptB.store gC b ws (.int .i64 (c1 + 1)) w.heap.size 0 _ hLC L7
          have hB8 := hB7.setCell (p := ⟨gC, b, none⟩) hzC (.int .i64 (c1 + 1))
          have hbl1 : (b : Int) < (l.length : Int) := by omega
          have hil : (i : Int) < (l.length : Int) := by omega
          have HWS := Lib.hid hws
          have HH3 := Lib.hid h3
          have hb0 : (0 : Int) ≤ (b : Int) := by omega
          have hj0 : (0 : Int) ≤ (j : Int) := by omega
          clear h1 h2 h3 hcb hc1v hws TC5 TO5 TC6 TO6 TO7 TC7 hyb hb hnb2 hmi hpre HCI P5 L5 hB6 hB7 B6
          go_upto_region 12 with fail
          rw [← HWS.out]
          go_region
          all_goals
            go_wp2
            go_roundw
            case rel => exact ⟨j + 1, by omega, by go_num, HH3, TC8, TO8, P8, L8, by first | exact hB8 | exact hB8.drew⟩
            case measure => simp [intOf]; omega
      · obtain rfl : j = ks.length := by omega
        have e : F = ((bs l ks load ks.length).2, true) := by
          rw [HF.out]; exact BO_yes ⟨HV.out, HLD.out.1, HLD.out.2.1, HLD.out.2.2, hbk.out⟩
        subst e
        rw [Nat.sub_self, pad_zero] at hTO
        have ho' := hTO.own.mono HZ.out
        clear hTC hTO
        go_wp2
        go_ret2
        exact ⟨_, rfl, ho', B⟩
end Go.Proofs.Ytbldfhfciihddaa
