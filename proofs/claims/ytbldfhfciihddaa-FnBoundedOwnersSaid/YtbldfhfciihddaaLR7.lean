/-
  laws.FnBoundedOwners: the walk.
-/
import Derived.Test.YtbldfhfciihddaaZC
import Derived.Test.YtbldfhfciihddaaZ3
import Derived.Test.YtbldfhfciihddaaDC
import Derived.Test.YtbldfhfciihddaaLG
namespace Go.Proofs.Ytbldfhfciihddaa
open Go.RowKit

set_option maxHeartbeats 8000000 in
set_option maxRecDepth 100000 in
theorem lawFnBoundedOwners (a : Option Addr) (n cap : Nat) (w : World) (hBy : Bytes w w.heap.size a n) (hn : n ≤ 9223372036854775807) (hc : n ≤ cap) :
    Calls Try.prog 10 #[.slice a n cap] w fun e w' => e = .returned (.bool true) ∧ Below w.heap.size w w' := by
  by_cases hbig : 1048576 < n
  · go_enter Try.func10, Try.ntmps10
    go_wp2
    go_ret
    exact ⟨rfl, Below.refl _ _⟩
  go_enter Try.func10, Try.ntmps10
  go_wp2_with fail
  refine (drawBoundedOwners_any a n cap w hBy hn hc).mono ?_
  rintro e w1 ⟨v, l, kv, ks, load, rfl, ho, hll, hls, hok, hkl, hks, hld, hb⟩
  obtain ⟨av, cv, rfl, hr, hcv, _, _⟩ := ho.form
  obtain ⟨ak, ck, rfl, hrk, hck, _, _⟩ := hok.form
  have hld64 : In64 load := by unfold In64; omega
  have hil : ∀ x ∈ l, In64 x := fun x hx => by have := hls x hx; unfold In64; omega
  have hik : ∀ x ∈ ks, In64 x := fun x hx => by have := hks x hx; unfold In64; omega
  have z1 := hb.size
  clear ho hBy hok
  obtain ⟨R, hR⟩ : ∃ R, R = (BO l ks load).1 := ⟨_, rfl⟩
  obtain ⟨K, hK⟩ : ∃ K, K = (BO l ks load).2 := ⟨_, rfl⟩
  have hRl : R.length ≤ 1048586 := by rw [hR]; exact BO_len l ks load
  have eR := eqL_self R
  have i1 := fun wx (h : Reads wx av l) (hp : Reads wx ak ks) => implBoundedOwners_any av l cv ak ks ck load wx h hil (by omega) hcv hp hik (by omega) hck hld64
  have s1 := fun wx (h : Reads wx av l) (hp : Reads wx ak ks) => specBoundedOwners_any av l cv ak ks ck load wx h hil (by omega) hcv hp hik (by omega) hck hld64
  rw [← hR, ← hK] at i1 s1
  have CI := Lib.hid i1
  have CS := Lib.hid s1
  have HR := Lib.hid hR
  have HK := Lib.hid hK
  have HRL := Lib.hid hRl
  have ER := Lib.hid eR
  have HIL := Lib.hid hil
  have HIK := Lib.hid hik
  have HCV := Lib.hid hcv
  clear hR hK i1 s1 hil hik hks hls hRl eR hcv hck
  go_wp2_with fail
  refine (CI.out _ hr hrk).mono ?_
  rintro e w2 ⟨v1, rfl, ho1, hb2⟩
  have B2 := hb.trans (hb2.mono z1)
  have hr2 := hr.below hb2
  have hp2 := hrk.below hb2
  obtain ⟨a1, c1, rfl, r1, _, _, _⟩ := ho1.form
  have z2 := B2.size
  clear hb2 hb hr hrk ho1
  go_wp2_with fail
  refine (CS.out _ hr2 hp2).mono ?_
  rintro e w3 ⟨v3, rfl, ho3, hb3⟩
  have B3 := B2.trans (hb3.mono z2)
  have hr3 := hr2.below hb3
  have hp3 := hp2.below hb3
  replace r1 := r1.below hb3
  obtain ⟨a3, c3, rfl, r3, _, _, _⟩ := ho3.form
  have z3 := B3.size
  clear hb3 hr2 hp2 B2 ho3 CI CS
  have ce := fun wx (h1 : Reads wx a1 R) (h3 : Reads wx a3 R) => equalInts_any a1 a3 R R c1 c3 wx h1 h3 HRL.out HRL.out
  rw [ER.out] at ce
  have CE := Lib.hid ce
  clear ce
  cases K with
  | false =>
    go_wp2_with fail
    refine (CE.out _ r1 r3).mono ?_
    rintro e w4 ⟨rfl, n4, rfl⟩
    go_wp2_with fail
    refine (CE.out _ (show Reads (w3.drewN n4) _ _ from r1) (show Reads (w3.drewN n4) _ _ from r3)).mono ?_
    rintro e w5 ⟨rfl, n5, rfl⟩
    go_wp2
    go_ret
    exact ⟨rfl, below_drewN B3 _⟩
  | true =>
    have hV := BO_ok HK.out.symm
    have hRb : R = (bs l ks load ks.length).2 := by rw [HR.out, BO_yes hV]
    have hRlen : R.length = ks.length := by rw [hRb, bs_len2]
    have hl1 := (VR_iff.1 hV.1).1
    have hl6 := (VR_iff.1 hV.1).2.1
    have hk8 := hV.2.1
    have hl8 := hV.2.2.1
    have hroom := BO_room hV
    have hget : ∀ j, j < ks.length → ∃ b, nb l load (bs l ks load j).1 (ks.getD j 0) = some b ∧ R.getD j 0 = (b : Int) := fun j hj => by
      obtain ⟨b, hb⟩ := Option.isSome_iff_exists.1 (hV.2.2.2.2 j hj)
      refine ⟨b, hb, ?_⟩
      rw [hRb, bs_get _ hj, hb]; rfl
    have hown : (ks.length : Int) ≤ load → ∀ j b, j < ks.length → nb l load (bs l ks load j).1 (ks.getD j 0) = some b → OW l (ks.getD j 0) = (b : Int) := fun h j b hj hb => by
      have := BO_own hV h hj
      rw [hb] at this
      exact this.symm
    have hload : ∀ j, j ≤ ks.length → ∀ s, s < l.length → 0 ≤ (bs l ks load j).1.getD s 0 ∧ (bs l ks load j).1.getD s 0 ≤ load := fun j hj s hs => by
      have hbk : BK l ks load j := fun i hi => hV.2.2.2.2 i (by omega)
      exact ⟨((bs_sum j hbk).2 s hs).1, bs_load j hbk (by omega) s hs⟩
    obtain ⟨P, hP⟩ : ∃ P, P = load * (l.length : Int) := ⟨_, rfl⟩
    have hmul : IntKind.i64.wrap (load * (l.length : Int)) = P := by
      rw [hP]; refine IntWalk.i64_in _ ?_
      have h1 : load * (l.length : Int) ≤ 8 * 6 := Int.mul_le_mul hl8.2 (by omega) (by omega) (by omega)
      have h2 : 0 ≤ load * (l.length : Int) := Int.mul_nonneg (by omega) (by omega)
      constructor <;> omega
    rw [← hP] at hroom
    have hkk : ((ks.length : Int) == (ks.length : Int)) = true := by simp
    have hmk := run_make_row' (P := Try.prog) 23 3 (.int .i64 0) 8 Try.underlying23 infoInt rfl .i64 .i64 l.length (by omega) (by omega)
    have ce2 := CE.out
    rw [hRlen] at ce2 ⊢
    have CE2 := Lib.hid ce2
    have HGET := Lib.hid hget
    have HOWN := Lib.hid hown
    have HLOAD := Lib.hid hload
    have HRN := Lib.hid hRlen
    clear CE ce2 hV hRb hget hown hload hRlen hP HR HK
    go_wp2_with fail
    refine (CE2.out _ r1 r3).mono ?_
    rintro e w4 ⟨rfl, n4, rfl⟩
    obtain ⟨w5, hw5⟩ : ∃ w5, w5 = w3.drewN n4 := ⟨_, rfl⟩
    rw [← hw5]
    have B5 : Below w.heap.size w w5 := by rw [hw5]; exact below_drewN B3 _
    have hr5 : Reads w5 av l := by rw [hw5]; exact hr3
    have q1 : Reads w5 a1 R := by rw [hw5]; exact r1
    have q2 : Reads w5 ak ks := by rw [hw5]; exact hp3
    have xA := made_tabR w5 w5.heap.size l.length (Nat.le_refl _) (by omega)
    obtain ⟨BB, hBB⟩ : ∃ BB, BB = madeCells #[.int .i64 0] l.length := ⟨_, rfl⟩
    rw [← hBB] at hmk xA
    have bA := (Below.refl w5.heap.size w5).alloc (Nat.le_refl _) (.cells BB 3)
    have xB : Tab (w5.alloc (.cells BB 3)) w5.heap.size w5.heap.size l.length l.length (bs l ks load 0).1 := xA
    clear hw5 hr3 r1 r3 hp3 B3 z3 CE2 ER xA hBB
    go_wp2_with fail
    go_loopw [11] (fun iv wr => ∃ j : Nat, j ≤ ks.length ∧ iv = .int .i64 j ∧ Tab wr w5.heap.size w5.heap.size l.length l.length (bs l ks load j).1 ∧ Below w5.heap.size w5 wr) (fun iv _ => ks.length - (intOf iv).toNat)
    case atStart => exact ⟨0, Nat.zero_le _, rfl, xB, bA⟩
    case round =>
      clear xB bA hmk
      obtain ⟨j, hj, rfl, hT, hB⟩ := hrel
      have hBw := B5.trans (hB.mono B5.size)
      by_cases hlt : j < ks.length
      · obtain ⟨b, hb, hRb⟩ := HGET.out j hlt
        have hbs := (nb_some hb).1
        have hst := bs_succ1 hb
        have hown := fun h => HOWN.out h j b hlt hb
        have hcb := HLOAD.out (j + 1) (by omega) b hbs
        have hcb0 := HLOAD.out j (by omega) b hbs
        obtain ⟨bo, oo, yb, rfl, hbo, hco, hyb⟩ := (q1.below hB).get (k := j) (by rw [HRN.out]; exact hlt)
        rw [hRb] at hyb
        have hyb' := hyb.out
        subst hyb'
        obtain ⟨bk, ok, y, rfl, hbk, hck, hy⟩ := (q2.below hB).get hlt
        rw [hy.out] at hown
        obtain ⟨c0, hcc, hc0⟩ := hT.get (k := b) hbs
        have hfC := hT.frozen b
        rw [hc0.out] at hst hcb0
        have hlen1 : (bs l ks load j).1.length = l.length := bs_len1 _ _ _ _
        have hc1 : (bs l ks load (j + 1)).1.getD b 0 = c0 + 1 := by
          rw [hst]
          simp only [List.getD]
          rw [List.getElem?_set_self (by omega)]; rfl
        rw [hc1] at hcb
        have hcw : IntKind.i64.wrap (c0 + 1) = c0 + 1 := IntWalk.i64_in _ (by omega)
        have T2 := hT.store b (c0 + 1)
        rw [← hst] at T2
        have hB2 := hB.setCell (p := ⟨w5.heap.size, b, none⟩) (Nat.le_refl _) (.int .i64 (c0 + 1))
        have hjk : (j : Int) < (ks.length : Int) := by omega
        have hbl : (b : Int) < (l.length : Int) := by omega
        have hob : bo < w5.heap.size := by
          rcases q1 with h | ⟨b', o', e, hb', _⟩
          · have := HRN.out; rw [h] at this; simp at this; omega
          · cases e; exact hb'
        have hkb : bk < w5.heap.size := by
          rcases q2 with h | ⟨b', o', e, hb', _⟩
          · rw [h] at hlt; simp at hlt
          · cases e; exact hb'
        have HRB := Lib.hid hRb
        have HYK := Lib.hid (show ks.getD j 0 = y from hy.out)
        have HC1 := Lib.hid hc1
        clear hb hst hRb hyb hc0 hc1 hT hlen1 hcb0 hy
        go_upto_region 12 with fail
        go_region
        all_goals
          obtain ⟨ws, hws⟩ : ∃ ws, ws = (wr.setCell ⟨w5.heap.size, b, none⟩ (.int .i64 (c0 + 1))).drew := ⟨_, rfl⟩
          have T3 : Tab ws w5.heap.size w5.heap.size l.length l.length (bs l ks load (j + 1)).1 := by rw [hws]; exact T2.below (Below.refl _ _).drew
          have B3 : Below w5.heap.size w5 ws := by rw [hws]; exact hB2.drew
          rw [← hws]
          clear T2 hB2 hws hfC hcc hco hck hB hBw
          obtain ⟨x, hcx, hx⟩ := T3.get (k := b) hbs
          obtain ⟨_, _, yo, e1, _, hco, hyo⟩ := (q1.below B3).get (k := j) (by rw [HRN.out]; exact hlt)
          cases e1
          obtain ⟨_, _, yk, e2, _, hck, hyk⟩ := (q2.below B3).get hlt
          cases e2
          rw [HRB.out] at hyo
          have hyo' := hyo.out
          subst hyo'
          have hyk' := hyk.out
          rw [HYK.out] at hyk'
          subst hyk'
          have hx' := hx.out
          rw [HC1.out] at hx'
          subst hx'
          have hle : ¬ (c0 + 1 > load) := by omega
          clear hx hyo hyk
          by_cases hlk : load ≥ (ks.length : Int)
          · have hO := hown hlk
            have hr6 := hr5.below B3
            have cO := implOwnerOf_any av l cv y ws.drew (hr6.below (Below.refl _ _).drew) HIL.out (by omega) HCV.out (HIK.out y (by rw [← HYK.out]; exact getD_mem hlt))
            rw [hO] at cO
            have cO2 : Calls Try.prog 23 #[.slice av l.length cv, .int .i64 y] ws.drew fun e w' => e = .returned (.int .i64 (b : Int)) ∧ Below w5.heap.size w5 w' ∧ Tab w' w5.heap.size w5.heap.size l.length l.length (bs l ks load (j + 1)).1 ∧ w'.cell? ⟨bo, oo + j, none⟩ = some (.int .i64 (b : Int)) ∧ w'.cell? ⟨w5.heap.size, b, none⟩ = some (.int .i64 (c0 + 1)) ∧ w'.cell? ⟨bk, ok + j, none⟩ = some (.int .i64 y) := by
              refine cO.mono ?_
              rintro e w' ⟨rfl, bb⟩
              have bb5 : Below ws.heap.size ws w' := (Below.refl ws.heap.size ws).drew.trans bb
              exact ⟨rfl, B3.trans (bb5.mono B3.size), T3.below bb5, (bb5.cell (World.block_lt_of_cell? _ _ hco)).trans hco, (bb5.cell (World.block_lt_of_cell? _ _ hcx)).trans hcx, (bb5.cell (World.block_lt_of_cell? _ _ hck)).trans hck⟩
            have CO := Lib.hid cO2
            have hbb : ((b : Int) != (b : Int)) = false := by simp
            clear cO cO2 hO hown
            go_upto_region 13 with fail
            go_region_held3 (fun w' => w'.cell? ⟨bo, oo + j, none⟩ = some (.int .i64 (b : Int)) ∧ w'.cell? ⟨w5.heap.size, b, none⟩ = some (.int .i64 (c0 + 1)) ∧ w'.cell? ⟨bk, ok + j, none⟩ = some (.int .i64 y)) (first | exact ⟨s0, s1, s2⟩ | exact ⟨hco, hcx, hck⟩ | go_keep)
              (first | (go_at_call 23; refine CO.out.mono ?_; rintro e w6 ⟨rfl, b6, t6, s0, s1, s2⟩))
            all_goals
              go_wp2
              go_roundw
              case rel => exact ⟨j + 1, by omega, by go_num, t6, b6⟩
              case measure => simp [intOf]; omega
          · have hlk' : ¬ load ≥ (ks.length : Int) := hlk
            have d1 : decide (c0 + 1 > load) = false := by simpa using hle
            have d2 : decide (load ≥ (ks.length : Int)) = false := by simpa using hlk
            have d3 : decide ((ks.length : Int) ≤ load) = false := by simpa using hlk
            have d4 : decide (load < c0 + 1) = false := by simpa using hle
            clear hown
            go_upto_region 13 with fail
            go_quiet (fail)
            all_goals
              go_wp2
              go_roundw
              case rel => exact ⟨j + 1, by omega, by go_num, T3.below (below_drewN (Below.refl _ _) _), below_drewN B3 _⟩
              case measure => simp [intOf]; omega
      · obtain rfl : j = ks.length := by omega
        go_wp2
        go_ret
        exact ⟨rfl, hBw⟩
end Go.Proofs.Ytbldfhfciihddaa
