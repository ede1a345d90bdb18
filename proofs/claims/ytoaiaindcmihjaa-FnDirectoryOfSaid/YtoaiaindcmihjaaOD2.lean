/-
  impl.DirectoryOf.
-/
import Derived.Test.YtoaiaindcmihjaaOD1
import Derived.Test.YtoaiaindcmihjaaNH
import Derived.Test.YtoaiaindcmihjaaNM
import Derived.Deep.RegionHeld3
namespace Go.Proofs.Ytoaiaindcmihjaa
open Go.RowKit

theorem set_next (A : List Int) (n : Nat) (v : Int) : (A ++ List.replicate (n + 1) 0).set A.length v = (A ++ [v]) ++ List.replicate n 0 := by
  rw [List.replicate_succ, List.set_append_right _ _ (Nat.le_refl _), Nat.sub_self]
  simp
theorem cell_other_block (w : World) (g k g' k' : Nat) (v : Value) (h : g' ≠ g) : (w.setCell ⟨g, k, none⟩ v).cell? ⟨g', k', none⟩ = w.cell? ⟨g', k', none⟩ := by
  simp only [World.cell?]
  rw [heap_setCell_other w ⟨g, k, none⟩ g' v h]
theorem made_tabD (w : World) (base n : Nat) (hb : base ≤ w.heap.size) (hn : n ≤ 100) : Tab (w.alloc (.cells (madeCells #[.int .i64 0] n) 3)) base w.heap.size n n (List.replicate n 0) := by
  have e := toList_madeCells_one (Value.int .i64 0) n
  have := World.ownsRow_lit (e := 3) (size := 1) (base := base) w (madeCells #[.int .i64 0] n) n hb (by unfold maxLen; omega) (by rw [← Array.length_toList, e]; simp)
  rw [e] at this
  unfold Tab
  rw [List.map_replicate]
  exact this
set_option maxHeartbeats 16000000 in
set_option maxRecDepth 100000 in
theorem implDirectoryOf_e (a : Option Addr) (l : List Int) (cap : Nat) (m : Int) (w : World) (hr : Reads w a l) (hi : ∀ n ∈ l, In64 n) (hl : l.length ≤ 1048586) (hcap : l.length ≤ cap) (hm : In64 m) :
    Calls Try.prog 20 #[.slice a l.length cap, .int .i64 m] w fun e w' => ∃ v, e = .returned (.tuple #[.int .i64 (DRd l m), v]) ∧ Own w' w.heap.size v (DRl l m) ∧ Below w.heap.size w w' := by
  have cB := implBucketsOf_d a l cap m w hr hi hm hl hcap
  by_cases hv : VNm l = true ∧ 1 ≤ m ∧ m ≤ 4
  rotate_left
  · rw [bks_none hv] at cB
    have hR : DRl l m = [] := if_neg hv
    have hZ : DRd l m = -1 := if_neg hv
    rw [hR, hZ]
    have CB := Lib.hid cB
    clear cB hv hR hZ
    go_enter Try.func20, Try.ntmps20
    go_wp2_with fail
    refine CB.out.mono ?_
    rintro en w1 ⟨hb, b1⟩
    rcases hb with ⟨_, a', c', rfl, -, -⟩ | ⟨g, C, cs, rfl, _⟩
    · rw [show ([] : List Bk).length = 0 from rfl]
      go_wp2
      go_ret2
      exact ⟨_, rfl, Own.nil _ _, b1⟩
    · rw [show ([] : List Bk).length = 0 from rfl]
      go_wp2
      go_ret2
      exact ⟨_, rfl, Own.nil _ _, b1⟩
  have hbk : BKs l m = spl l m.toNat 6 0 0 := if_pos hv
  rw [hbk] at cB
  obtain ⟨q, rfl⟩ : ∃ q : Nat, m = q := ⟨m.toNat, by omega⟩
  rw [Int.toNat_natCast] at cB
  have hbl := spl_len l q 6 0 0
  have hbp := spl_pos l q 6 0 0
  have hdp := spl_dpt hv.1 (m := q) (by omega)
  have hok : ∀ b ∈ spl l q 6 0 0, b.1 ≤ 6 := fun b hb => (spl_ok (VNm_iff.1 hv.1).2.2 (VNm_iff.1 hv.1).2.1 (by omega) 6 0 0 rfl (by simp) b hb).1.2
  have hRv : DRl l q = drs (spl l q 6 0 0) (2 ^ dpt (spl l q 6 0 0)) := by unfold DRl; rw [if_pos hv, Int.toNat_natCast]
  have hZv : DRd l q = (dpt (spl l q 6 0 0) : Int) := by unfold DRd; rw [if_pos hv, Int.toNat_natCast]
  have hdl := drs_len l q
  have hd1 := fun x => drk_one l q x
  rw [hRv, hZv]
  obtain ⟨bs, hbs⟩ : ∃ bs, bs = spl l q 6 0 0 := ⟨_, rfl⟩
  rw [← hbs] at cB hbl hbp hdp hok hdl hd1 ⊢
  obtain ⟨D, hD⟩ : ∃ D, D = dpt bs := ⟨_, rfl⟩
  rw [← hD] at hdp ⊢
  have hp64 : 2 ^ D ≤ 2 ^ 6 := Nat.pow_le_pow_right (by omega) hdp
  have hpp := Nat.two_pow_pos D
  obtain ⟨P, hP⟩ : ∃ P, P = 2 ^ D := ⟨_, rfl⟩
  obtain ⟨e1, e2, e3⟩ := shl1 D P (by omega) hP
  rw [← hP] at hp64 hpp ⊢
  obtain ⟨B, hB⟩ : ∃ B, B = bs.length := ⟨_, rfl⟩
  have CB := Lib.hid cB
  have HB := Lib.hid hB
  have HD := Lib.hid hD
  have HOK := Lib.hid hok
  have HDL := Lib.hid hdl
  have HD1 := Lib.hid hd1
  rw [← hB] at hbl hbp
  clear cB hB hD hok hdl hd1 hP hbs hRv hZv hbk hv hr hi hl hcap hm
  go_enter Try.func20, Try.ntmps20
  go_wp2_with fail
  refine CB.out.mono ?_
  rintro en w1 ⟨hbg, b1⟩
  obtain ⟨ab, cb, rfl, hrb⟩ := hbg.reads
  rw [← HB.out]
  have hB0 : ((B : Int) == 0) = false := by rw [beq_eq_false_iff_ne]; omega
  have z1 := b1.size
  have b11 := Below.refl w1.heap.size w1
  clear hbg CB
  go_wp2_with fail
  go_loopw [7, 20] (fun dv iv wr => ∃ i : Nat, i ≤ B ∧ iv = .int .i64 (i : Int) ∧ dv = .int .i64 ((dpt (bs.take i) : Nat) : Int) ∧ Below w1.heap.size w1 wr) (fun _ iv _ => B - (intOf iv).toNat)
  case atStart => exact ⟨0, by omega, rfl, rfl, b11⟩
  case round =>
    clear b11
    obtain ⟨i, hi, rfl, rfl, hBw⟩ := hrel
    by_cases hlt : i < B
    · have hi1 : (i : Int) < (B : Int) := by omega
      obtain ⟨b, off, A, C, rfl, hbb, hc0, hc1, hc2, _, _⟩ := (hrb.below hBw).get (r := i) (by have := HB.out; omega)
      have hdt := dpt_take (bs := bs) (i := i) (by have := HB.out; omega)
      obtain ⟨p, hp⟩ : ∃ p, p = dpt (bs.take i) := ⟨_, rfl⟩
      obtain ⟨r, hr'⟩ : ∃ r, r = (bkt bs i).1 := ⟨_, rfl⟩
      obtain ⟨t, ht⟩ : ∃ t, t = (bkt bs i).2.1 := ⟨_, rfl⟩
      obtain ⟨n, hn⟩ : ∃ n, n = (bkt bs i).2.2.length := ⟨_, rfl⟩
      rw [← hp, ← hr'] at hdt
      rw [← hr'] at hc0
      rw [← ht] at hc1
      rw [← hn] at hc2
      have HDT := Lib.hid hdt
      rw [← hp]
      have hmx : max (p : Int) (r : Int) = ((max p r : Nat) : Int) := by omega
      have bA := hBw.alloc hBw.size (.cells #[.int .i64 (r : Int), .int .i64 (t : Int), .slice A n C] 30)
      have BA := Lib.hid bA
      clear hp hdt hr' ht hn bA
      go_wp2
      go_roundw
      case rel => exact ⟨i + 1, by omega, by go_num, by rw [HDT.out], BA.out⟩
      case measure => simp [intOf]; omega
    · obtain rfl : i = B := by omega
      have hDD : dpt (bs.take i) = D := by rw [HD.out, HB.out, List.take_length]
      rw [hDD]
      clear hDD
      rename World => w2
      have hz2 := hBw.size
      have hrb2 := hrb.below hBw
      have hmk := run_make_row' (P := Try.prog) 23 3 (.int .i64 0) 8 Try.underlying23 infoInt rfl .i64 .i64 P (by omega) (by omega)
      have xA := made_tabD w2 w2.heap.size P (Nat.le_refl _) (by omega)
      have bA := (Below.refl w2.heap.size w2).alloc (Nat.le_refl _) (.cells (madeCells #[.int .i64 0] P) 3)
      obtain ⟨BB, hBB⟩ : ∃ BB, BB = madeCells #[.int .i64 0] P := ⟨_, rfl⟩
      rw [← hBB] at hmk xA bA
      clear hBB
      have B2 := b1.trans (hBw.mono b1.size)
      have hC5 : w2.heap.size = w2.heap.size := rfl
      have o0 : Tab (w2.alloc (.cells BB 3)) w2.heap.size w2.heap.size P P (drs bs 0 ++ List.replicate (P - 0) 0) := by simpa [drs] using xA
      clear xA hC5 hBw
      go_wp2_with fail
      go_loopw [34] (fun xv wr => ∃ x : Nat, x ≤ P ∧ xv = .int .i64 (x : Int) ∧ Tab wr w2.heap.size w2.heap.size P P (drs bs x ++ List.replicate (P - x) 0) ∧ Below w2.heap.size w2 wr) (fun xv _ => P - (intOf xv).toNat)
      case atStart => exact ⟨0, by omega, rfl, o0, bA⟩
      case round =>
        clear o0 bA hmk
        rename World => wo
        obtain ⟨x, hx, rfl, hT, hW⟩ := hrel
        by_cases hlt2 : x < P
        · have hx0 : (0 : Int) ≤ (x : Int) := by omega
          have hx1 : (x : Int) < (P : Int) := by omega
          have hz3 := hW.size
          have hbl3 : w2.heap.size < wo.heap.size := hT.block.2
          have hne3 : wo.heap.size ≠ w2.heap.size := by omega
          have bN := (Below.refl wo.heap.size wo).alloc (Nat.le_refl _) (.cells #[.int .i64 (x : Int)] 3)
          obtain ⟨wn, en⟩ : ∃ wn, wn = wo.alloc (.cells #[.int .i64 (x : Int)] 3) := ⟨_, rfl⟩
          have hh : wn.heap[wo.heap.size]? = some (.cells #[.int .i64 (x : Int)] 3 (0, 0)) := by rw [en]; exact heap_alloc_new wo _
          rw [← en] at bN
          have hTn := hT.below bN
          have hTd : Tab wn.drew w2.heap.size w2.heap.size P P (drs bs x ++ List.replicate (P - x) 0) := hTn
          have hWn := hW.trans (bN.mono hW.size)
          have hrn := hrb2.below hWn
          have s0 : wn.cell? ⟨wo.heap.size, 0, none⟩ = some (.int .i64 (x : Int)) := by rw [cell_of_row wn _ 0 _ _ _ hh]; rfl
          have hgn : wo.heap.size < wn.heap.size := (Array.getElem?_eq_some_iff.1 hh).1
          have bd : Below wn.heap.size wn wn.drew := (Below.refl _ _).drew
          have cI := indexB_any wo.heap.size x ab bs cb wn.drew (hrn.below bd) (by have := HB.out; omega) (by omega) HOK.out (HD1.out x) s0
          rw [← HB.out] at cI
          have hlen : (drs bs x).length = x := HDL.out x
          have hsc := drs_succ bs x
          obtain ⟨T, hTT⟩ : ∃ T, T = drs bs x := ⟨_, rfl⟩
          rw [← hTT] at hT hTd hlen hsc
          obtain ⟨U, hU⟩ : ∃ U, U = T ++ List.replicate (P - x) 0 := ⟨_, rfl⟩
          rw [← hU] at hTd
          have CI := Lib.hid cI
          have HSC := Lib.hid hsc
          have HU := Lib.hid hU
          have EN := Lib.hid en
          have HLEN := Lib.hid hlen
          clear cI hh hTT hU hT hTn hrn hsc en hlen
          have hT7 : ∀ w5, Below wn.heap.size wn w5 → Tab w5 w2.heap.size w2.heap.size P P U := fun w5 hb => Tab.below hb hTd
          have HT7 := Lib.hid hT7
          clear hT7 hTd
          go_upto_region 14 with fail
          rw [← EN.out]
          go_region_held3 (fun w' => w'.cell? ⟨wo.heap.size, 0, none⟩ = some (.int .i64 (x : Int))) (first | with_reducible exact s0 | with_reducible exact s9 _ | go_keep)
            (first
              | (go_at_call 45; refine CI.out.mono ?_; rintro en w5 ⟨i5, rfl, hi5, b5⟩; go_loud (have hb5 := bd.trans (b5.mono bd.size); have s0 := (hb5.cell (p := ⟨wo.heap.size, 0, none⟩) hgn).trans s0; have t5 := HT7.out w5 hb5; obtain ⟨y5, c5, _⟩ := t5.get (k := x) hlt2; have f5 := t5.frozen x; have s9 := fun v : Value => (cell_other_block w5 w2.heap.size x wo.heap.size 0 v hne3).trans s0)))
          all_goals
            have hEq : U.set x (i5 : Int) = drs bs (x + 1) ++ List.replicate (P - (x + 1)) 0 := by
              have h1 := HSC.out
              rw [← HB.out, hi5] at h1
              rw [h1, HU.out, show P - x = P - (x + 1) + 1 by omega]
              have h2 := set_next T (P - (x + 1)) (i5 : Int)
              rw [HLEN.out] at h2
              exact h2
            have t6 := t5.store x (i5 : Int)
            rw [hEq] at t6
            have B6 := (hWn.trans (hb5.mono hWn.size)).setCell (p := ⟨w2.heap.size, x, none⟩) (Nat.le_refl _) (.int .i64 (i5 : Int))
            have T6 := Lib.hid t6
            have BB6 := Lib.hid B6
            clear hEq t6 B6
            go_wp2
            go_roundw
            case rel => exact ⟨x + 1, by omega, by go_num, T6.out, BB6.out⟩
            case measure => simp [intOf]; omega
        · obtain rfl : x = P := by omega
          rw [Nat.sub_self] at hT
          have hT2 := hT
          simp only [List.replicate_zero, List.append_nil] at hT2
          have o2 := hT2.own
          have O2 := Lib.hid o2
          have BW := Lib.hid (B2.trans (hW.mono B2.size))
          clear hT hT2 o2
          go_wp2
          go_ret2
          exact ⟨_, rfl, O2.out.mono (by omega), BW.out⟩
theorem directory_gives : DirectoryGives := fun a l cap m w hr hi hm hl hcap => implDirectoryOf_e a l cap m w hr hi hl hcap hm
theorem lawFnDirectoryOf (a : Option Addr) (n cap : Nat) (w : World) (hB : Bytes w w.heap.size a n) (hn : n ≤ 9223372036854775807) (hc : n ≤ cap) :
    Calls Try.prog 4 #[.slice a n cap] w fun e w' => e = .returned (.bool true) ∧ Below w.heap.size w w' := lawFnDirectoryOf_of directory_gives buckets_give a n cap w hB hn hc
end Go.Proofs.Ytoaiaindcmihjaa
