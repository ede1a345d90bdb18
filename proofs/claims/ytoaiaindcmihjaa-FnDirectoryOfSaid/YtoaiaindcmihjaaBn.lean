/-
  laws.markBucketS, heldBucketS, eqBucketS: the walks.
-/
import Derived.Test.YtoaiaindcmihjaaBm
namespace Go.Proofs.Ytoaiaindcmihjaa
open Go.RowKit

theorem Out.stepV {lo hi : Nat} {w w1 w2 : World} {o : Option Nat} (h : Out lo hi w w1) (hg : w1.grownBy w2 o) (h1 : ∀ k, o = some k → lo ≤ k ∧ k < hi) : Out lo hi w w2 :=
  ⟨hg.os.trans h.1, hg.tape.trans h.2.1, hg.output.trans h.2.2.1, Nat.le_trans h.2.2.2.1 hg.size, fun q hq hh => (hg.block q (Nat.lt_of_lt_of_le hq h.2.2.2.1) (fun e => by have := h1 q e.symm; omega)).trans (h.2.2.2.2 q hq hh)⟩
theorem grownBy_setB (w : World) (g k : Nat) (v : Value) : w.grownBy (w.setCell ⟨g, k, none⟩ v) (some g) := ⟨rfl, rfl, rfl, by simp, fun j _ hn => heap_setCell_other w ⟨g, k, none⟩ j _ (fun q => hn (by rw [q]))⟩

set_option maxHeartbeats 8000000 in
set_option maxRecDepth 100000 in
theorem markBucketS_any (lo hi g C : Nat) (cs : List Bc) (bs : List Bk) (k : Nat) (w : World) (hD : OwnD w lo hi g C cs bs) (hl : bs.length ≤ 1000) (hn : ∀ b ∈ bs, b.2.2.length ≤ 4) (hk : k ≤ 1000) :
    Calls Try.prog 33 #[.slice (some ⟨g, 0, none⟩) bs.length C, .int .i64 (k : Int)] w fun e w' => e = .returned (.int .i64 (kAt bs k bs.length : Nat)) ∧ (∃ cs', OwnD w' lo hi g C cs' (mkd bs k bs.length)) ∧ Out lo hi w w' := by
  obtain ⟨B, hB⟩ : ∃ B, B = bs.length := ⟨_, rfl⟩
  have HB := Lib.hid hB
  have HN := Lib.hid hn
  have hD0 : OwnD w lo hi g C cs (mkd bs k 0) := by rw [mkd_zero]; exact hD
  have hlow := hD.low
  have hhig := hD.hig
  have ek : (k : Int) = (kAt bs k 0 : Nat) := by rw [kAt_zero]
  rw [← hB] at hl ⊢
  clear hB hn hD
  go_enter Try.func33, Try.ntmps33
  go_wp2
  go_loopw [1, 5] (fun kv iv wr => ∃ (i : Nat) (cs : List Bc), i ≤ B ∧ iv = .int .i64 (i : Int) ∧ kv = .int .i64 (kAt bs k i : Nat) ∧ Hid (OwnD wr lo hi g C cs (mkd bs k i)) ∧ Hid (Out lo hi w wr)) (fun _ iv _ => B - (intOf iv).toNat)
  case atStart => exact ⟨0, cs, by omega, rfl, by rw [← ek], hD0, Out.refl _ _ _⟩
  case round =>
    clear hD0 ek
    obtain ⟨i, cs, hi', rfl, rfl, hD, hO⟩ := hrel
    by_cases hlt : i < B
    · have hi1 : (i : Int) < (B : Int) := by omega
      have hib : i < bs.length := by have := HB.out; omega
      have him : i < (mkd bs k i).length := by rw [mkd_len]; exact hib
      have hbk : bkt (mkd bs k i) i = bkt bs i := by rw [mkd_bkt hib, if_neg (by omega)]
      obtain ⟨u, hu, hou, hub⟩ := hD.out.each i him
      have hn4 := HN.out _ (bkt_mem hib)
      have hks := kAt_succ (k := k) hib
      have hkl := kAt_le HN.out k i
      have hturn := fun (x y : Nat) (w3 : World) (L : List Int) hg hL => hD.out.turn him hu x y (w3 := w3) (L := L) hg hL hub
      have hms := mkd_succ (k := k) hib
      have hrow := hD.out.row
      obtain ⟨e1, e2, e3⟩ := flat3_get hu
      have c0 : wr.cell? ⟨g, i * 3, none⟩ = some (.int .i64 ((bkt (mkd bs k i) i).1 : Int)) := by rw [World.ownsRow.cellAt hrow (i * 3) (by omega)]; exact e1
      have c1 : wr.cell? ⟨g, i * 3 + 1, none⟩ = some (.int .i64 ((bkt (mkd bs k i) i).2.1 : Int)) := by rw [World.ownsRow.cellAt hrow (i * 3 + 1) (by omega)]; exact e2
      have c2 : wr.cell? ⟨g, i * 3 + 2, none⟩ = some u := by rw [World.ownsRow.cellAt hrow (i * 3 + 2) (by omega)]; exact e3
      have f0 := World.ownsRow.frozenAt hrow (i * 3)
      have f1 := World.ownsRow.frozenAt hrow (i * 3 + 1)
      rw [hbk] at hou
      obtain ⟨K, hK⟩ : ∃ K, K = kAt bs k i := ⟨_, rfl⟩
      have hnb : u.ownBlock = none ∨ u.ownBlock ≠ some g := by
        obtain ⟨u', h1, h2, _⟩ := hD.out.each i him
        rcases hD.out.own.ne_own (show Own wr lo u (bkt bs i).2.2 from hou) with h | h
        · exact .inl h
        · exact .inr (by simpa [Value.ownBlock] using h)
      obtain ⟨W1, hW1⟩ : ∃ W, W = wr.setCell ⟨g, i * 3, none⟩ (.int .i64 (K : Int)) := ⟨_, rfl⟩
      obtain ⟨W2, hW2⟩ : ∃ W, W = W1.setCell ⟨g, i * 3 + 1, none⟩ (.int .i64 ((K : Int) + 1)) := ⟨_, rfl⟩
      have d1 : W1.cell? ⟨g, i * 3 + 1, none⟩ = some (.int .i64 ((bkt (mkd bs k i) i).2.1 : Int)) := by rw [hW1, World.cell?_setCell_other _ _ _ _ (fun hh => by injection hh with _ h3 _; omega)]; exact c1
      have d2 : W1.frozen? ⟨g, i * 3 + 1, none⟩ = false := by rw [hW1]; exact World.ownsRow.frozenAt (World.ownsRow.stored hrow (i * 3) _).1 (i * 3 + 1)
      have d3 : W2.cell? ⟨g, i * 3 + 2, none⟩ = some u := by
        rw [hW2, World.cell?_setCell_other _ _ _ _ (fun hh => by injection hh with _ h3 _; omega), hW1, World.cell?_setCell_other _ _ _ _ (fun hh => by injection hh with _ h3 _; omega)]; exact c2
      have g1 : wr.grownBy W1 (some g) := by rw [hW1]; exact grownBy_setB _ _ _ _
      have g2 : W1.grownBy W2 (some g) := by rw [hW2]; exact grownBy_setB _ _ _ _
      have o2 : Own W2 lo u (bkt bs i).2.2 := (hou.kept g1 hnb).kept g2 hnb
      have hO2 : Out lo hi w W2 := (hO.out.stepV g1 (fun q h => by cases h; exact ⟨hlow, hhig⟩)).stepV g2 (fun q h => by cases h; exact ⟨hlow, hhig⟩)
      obtain ⟨L, hL⟩ : ∃ L, L = (bkt bs i).2.2 := ⟨_, rfl⟩
      rw [← hL] at o2 hn4 hks
      rw [← hK] at hks hkl
      have cM := markIntS_any u L ((K : Int) + 1 + 1) lo W2 o2 (by omega) (by omega) (by omega)
      have HM := Lib.hid cM
      have HOU := Lib.hid o2
      obtain ⟨A, CA, rfl, _, _, _, _⟩ := o2.form
      have HT := Lib.hid hturn
      have HKS := Lib.hid hks
      have HMS := Lib.hid hms
      have HO2 := Lib.hid hO2
      have HL := Lib.hid hL
      have HK := Lib.hid hK
      have HW1 := Lib.hid hW1
      have HW2 := Lib.hid hW2
      have kk1 : IntKind.i64.wrap ((K : Int) + 1) = (K : Int) + 1 := IntWalk.i64_in _ (by omega)
      have kk2 : IntKind.i64.wrap ((K : Int) + 1 + 1) = (K : Int) + 1 + 1 := IntWalk.i64_in _ (by omega)
      clear hturn hks hms hO2 hL hK hW1 hW2 cM o2 hou hrow e1 e2 e3 hD hO g1 g2 hnb hbk him hib hu
      rw [← HK.out]
      go_wp2_with fail
      rw [← HW1.out, ← HW2.out]
      refine HM.out.mono ?_
      rintro e w3 ⟨rfl, o3, g3⟩
      have ht := HT.out K (K + 1) w3 (marks ((K : Int) + 1 + 1) L.length) (by rw [show (((K + 1 : Nat)) : Int) = (K : Int) + 1 by omega, ← HW1.out, ← HW2.out]; exact g3) o3
      have hnew : (mkd bs k i).set i (K, K + 1, marks ((K : Int) + 1 + 1) L.length) = mkd bs k (i + 1) := by
        rw [← HMS.out]
        unfold mk1
        rw [← HK.out, ← HL.out, show (((K + 2 : Nat)) : Int) = (K : Int) + 1 + 1 by omega]
      rw [hnew] at ht
      have hO3 := HO2.out.stepV g3 (fun q h => ⟨(HOU.out.lt q h).1, hub q h⟩)
      have ekk : (K : Int) + 1 + 1 + (L.length : Int) = (kAt bs k (i + 1) : Nat) := by rw [HKS.out]; omega
      have HT3 : Hid (OwnD w3 lo hi g C _ (mkd bs k (i + 1))) := ht
      have HO3 : Hid (Out lo hi w w3) := hO3
      have HEK := Lib.hid ekk
      clear ht hnew hO3 ekk o3 g3 c0 c1 c2 f0 f1 d1 d2 d3 HM HOU HT HO2
      go_wp2
      go_roundw
      case rel => exact ⟨i + 1, _, by omega, by go_num, by rw [HEK.out], HT3, HO3⟩
      case measure => simp [intOf]; omega
    · obtain rfl : i = B := by omega
      go_wp2
      go_ret
      exact ⟨rfl, ⟨cs, hD.out⟩, hO.out⟩
set_option maxHeartbeats 8000000 in
set_option maxRecDepth 100000 in
theorem heldBucketS_any (a : Option Addr) (C : Nat) (bs : List Bk) (k : Nat) (w : World) (hr : ReadsB w a (mkd bs k bs.length)) (hl : bs.length ≤ 1000) (hn : ∀ b ∈ bs, b.2.2.length ≤ 4) (hk : k ≤ 1000) :
    Calls Try.prog 34 #[.slice a bs.length C, .int .i64 (k : Int)] w fun e w' => e = .returned (.int .i64 (kAt bs k bs.length : Nat)) ∧ w = w' := by
  obtain ⟨B, hB⟩ : ∃ B, B = bs.length := ⟨_, rfl⟩
  have HB := Lib.hid hB
  have HN := Lib.hid hn
  have ek : (k : Int) = (kAt bs k 0 : Nat) := by rw [kAt_zero]
  rw [← hB] at hl hr ⊢
  clear hB hn
  go_enter Try.func34, Try.ntmps34
  go_wp2
  go_loop [1, 5] (fun kv iv => ∃ (i : Nat), i ≤ B ∧ iv = .int .i64 (i : Int) ∧ kv = .int .i64 (kAt bs k i : Nat)) (fun _ iv => B - (intOf iv).toNat)
  case atStart => exact ⟨0, by omega, rfl, by rw [← ek]⟩
  case round =>
    clear ek
    obtain ⟨i, hi', rfl, rfl⟩ := hrel
    by_cases hlt : i < B
    · have hi1 : (i : Int) < (B : Int) := by omega
      have hib : i < bs.length := by have := HB.out; omega
      obtain ⟨b, off, A, CA, rfl, hbb, hc0, hc1, hc2, hrA, hlA⟩ := hr.get (r := i) (by rw [mkd_len]; exact hib)
      rw [mkd_bkt hib, if_pos hlt] at hc0 hc1 hc2 hrA hlA
      have hn4 := HN.out _ (bkt_mem hib)
      have hks := kAt_succ (k := k) hib
      have hkl := kAt_le HN.out k i
      obtain ⟨L, hL⟩ : ∃ L, L = (bkt bs i).2.2.length := ⟨_, rfl⟩
      obtain ⟨K, hK⟩ : ∃ K, K = kAt bs k i := ⟨_, rfl⟩
      unfold mk1 at hc0 hc1 hc2 hrA hlA
      dsimp only at hc0 hc1 hc2 hrA hlA
      rw [← hL, ← hK] at hc2 hrA
      rw [marks_len] at hc2
      rw [← hK] at hc0 hc1 hkl hks ⊢
      rw [← hL] at hn4 hks
      rw [show (((K + 1 : Nat)) : Int) = (K : Int) + 1 by omega] at hc1
      rw [show (((K + 2 : Nat)) : Int) = (K : Int) + 1 + 1 by omega] at hrA
      have cH := fun wx (h : Reads wx A (marks ((K : Int) + 1 + 1) L)) => heldIntS_any A L CA ((K : Int) + 1 + 1) wx h (by omega) (by omega) (by omega)
      have CH := Lib.hid cH
      have HKS := Lib.hid hks
      have kk1 : IntKind.i64.wrap ((K : Int) + 1) = (K : Int) + 1 := IntWalk.i64_in _ (by omega)
      have kk2 : IntKind.i64.wrap ((K : Int) + 1 + 1) = (K : Int) + 1 + 1 := IntWalk.i64_in _ (by omega)
      have n1 : ((K : Int) != (K : Int)) = false := by simp
      have n2 : ((K : Int) + 1 != (K : Int) + 1) = false := by simp
      have n3 : ¬ (K : Int) + 1 + 1 + (L : Int) < 0 := by omega
      have ekk : (K : Int) + 1 + 1 + (L : Int) = (kAt bs k (i + 1) : Nat) := by rw [hks]; omega
      have HEK := Lib.hid ekk
      clear cH hks hL hK ekk hib hlA
      go_wp2_with fail
      refine (CH.out _ hrA).mono ?_
      rintro e w' ⟨rfl, rfl⟩
      go_wp2
      go_round
      case rel => exact ⟨i + 1, by omega, by go_num, by rw [HEK.out]⟩
      case measure => simp [intOf]; omega
    · obtain rfl : i = B := by omega
      go_wp2
      go_ret
      exact ⟨rfl, rfl⟩
set_option maxHeartbeats 1000000 in
theorem eqBucket_same (p q : Nat) (A A' : Option Addr) (L : List Int) (C C' : Nat) (w : World) (hr : Reads w A L) (hr' : Reads w A' L) (hl : L.length ≤ 1000) :
    Calls Try.prog 55 #[.agg #[.int .i64 (p : Int), .int .i64 (q : Int), .slice A L.length C], .agg #[.int .i64 (p : Int), .int .i64 (q : Int), .slice A' L.length C']] w fun e w' => e = .returned (.bool true) ∧ Below w.heap.size w w' := by
  have e1 : ((p : Int) != (p : Int)) = false := by simp
  have e2 : ((q : Int) != (q : Int)) = false := by simp
  have hB := (((Below.refl w.heap.size w).alloc (Nat.le_refl _) (.cells #[.int .i64 (p : Int), .int .i64 (q : Int), .slice A L.length C] 30)).alloc (by simp) (.cells #[.int .i64 (p : Int), .int .i64 (q : Int), .slice A' L.length C'] 30))
  have r1 := hr.below hB
  have r2 := hr'.below hB
  have cE := fun wx (h : Reads wx A L) (h2 : Reads wx A' L) => eqIntS_any A A' L L C C' wx h h2 (by omega) (by omega)
  simp only [eqL_self] at cE
  have CE := Lib.hid cE
  clear hr hr' cE
  go_enter Try.func55, Try.ntmps55
  go_wp2_with fail
  refine (CE.out _ r1 r2).mono ?_
  rintro e w' ⟨rfl, n, rfl⟩
  go_wp2
  go_ret
  exact ⟨rfl, below_drewN hB n⟩
set_option maxHeartbeats 4000000 in
set_option maxRecDepth 100000 in
theorem eqBucketS_self (a a' : Option Addr) (bs : List Bk) (cap cap' : Nat) (w : World) (hr : ReadsB w a bs) (hr' : ReadsB w a' bs) (hl : bs.length ≤ 1000) (hn : ∀ b ∈ bs, b.2.2.length ≤ 1000) :
    Calls Try.prog 30 #[.slice a bs.length cap, .slice a' bs.length cap'] w fun e w' => e = .returned (.bool true) ∧ Below w.heap.size w w' := by
  obtain ⟨B, hB⟩ : ∃ B, B = bs.length := ⟨_, rfl⟩
  have HB := Lib.hid hB
  rw [← hB] at hl ⊢
  clear hB
  have hBB : ((B : Int) != (B : Int)) = false := by simp
  have HN := Lib.hid hn
  clear hn
  go_enter Try.func30, Try.ntmps30
  go_wp2
  go_loopw [5] (fun iv wr => ∃ i : Nat, i ≤ B ∧ iv = .int .i64 (i : Int) ∧ Below w.heap.size w wr) (fun iv _ => B - (intOf iv).toNat)
  case atStart => exact ⟨0, by omega, rfl, Below.refl _ _⟩
  case round =>
    obtain ⟨i, hi, rfl, hb⟩ := hrel
    by_cases hlt : i < B
    · have hi1 : (i : Int) < (B : Int) := by omega
      have hib : i < bs.length := by have := HB.out; omega
      obtain ⟨b, off, A, C, rfl, hbb, hc0, hc1, hc2, hrA, _⟩ := (hr.below hb).get hib
      obtain ⟨b', off', A', C', rfl, hbb', hc0', hc1', hc2', hrA', _⟩ := (hr'.below hb).get hib
      have hle := HN.out _ (bkt_mem hib)
      obtain ⟨p, hp⟩ : ∃ p, p = (bkt bs i).1 := ⟨_, rfl⟩
      obtain ⟨q, hq⟩ : ∃ q, q = (bkt bs i).2.1 := ⟨_, rfl⟩
      obtain ⟨L, hL⟩ : ∃ L, L = (bkt bs i).2.2 := ⟨_, rfl⟩
      rw [← hp] at hc0 hc0'
      rw [← hq] at hc1 hc1'
      rw [← hL] at hc2 hc2' hrA hrA' hle
      have ce := eqBucket_same p q A A' L C C' wr.drew hrA hrA' hle
      have CE := Lib.hid ce
      clear hp hq hL ce hib hrA hrA'
      go_wp2
      refine region_tail 8 (by kernel_rfl) (by kernel_rfl) ?_
      simp only [List.take_succ_cons, List.take_zero, List.drop_succ_cons, List.drop_zero]
      repeat still_step
      refine wpStill_nil ?_
      go_wp2_with fail
      refine CE.out.mono ?_
      rintro e w2 ⟨rfl, hb2⟩
      have hb3 := (hb.drew).trans (hb2.mono (by exact hb.size))
      go_wp2
      go_roundw
      case rel => exact ⟨i + 1, by omega, by go_num, hb3⟩
      case measure => simp [intOf]; omega
    · obtain rfl : i = B := by omega
      go_wp2
      go_ret
      exact ⟨rfl, hb⟩
end Go.Proofs.Ytoaiaindcmihjaa
