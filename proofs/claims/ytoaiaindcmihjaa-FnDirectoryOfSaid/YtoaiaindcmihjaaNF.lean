/-
  spec.split, BucketsOf.
-/
import Derived.Test.YtoaiaindcmihjaaNB
import Derived.Test.YtoaiaindcmihjaaNC
import Derived.Test.YtoaiaindcmihjaaBk
namespace Go.Proofs.Ytoaiaindcmihjaa
open Go.RowKit

theorem tfl_take {l : List Int} {d e i : Nat} (h : i < l.length) : tfl (l.take (i + 1)) d e = tfl (l.take i) d e ++ if (l.getD i 0).toNat % 2 ^ d = e then [l.getD i 0] else [] := by
  rw [take_snocN h]
  unfold tfl
  rw [List.filter_append]
  by_cases g : (l.getD i 0).toNat % 2 ^ d = e
  · rw [if_pos g, List.filter_cons_of_pos (by rw [decide_eq_true g]), List.filter_nil]
  · rw [if_neg g, List.filter_cons_of_neg (by rw [decide_eq_false g]; simp), List.filter_nil]
theorem tfl_len (l : List Int) (d e : Nat) : (tfl l d e).length ≤ l.length := List.length_filter_le _ _

/-- What split gives, f parts deep. -/
def SPc (w0 : World) (a : Option Addr) (l : List Int) (cap m f : Nat) : Prop := ∀ d e : Nat, f + d = 6 → e < 2 ^ d → ∀ (bs : List Bk) (v : Value) (w : World), OwnB w w0.heap.size v bs → Below w0.heap.size w0 w → bs.length + 2 ^ f ≤ 1000 →
    Calls Try.prog 44 #[.slice a l.length cap, .int .i64 (m : Int), .int .i64 (d : Int), .int .i64 (e : Int), v] w fun en w' => ∃ v', en = .returned v' ∧ OwnB w' w0.heap.size v' (bs ++ spl l m f d e) ∧ Below w0.heap.size w0 w'
set_option maxHeartbeats 16000000 in
set_option maxRecDepth 100000 in
theorem split_step (w0 : World) (a : Option Addr) (l : List Int) (cap m f : Nat) (hr0 : Reads w0 a l) (hv : VNm l = true) (hm : 1 ≤ m ∧ m ≤ 4) (ih : ∀ g, f = g + 1 → SPc w0 a l cap m g) : SPc w0 a l cap m f := by
  obtain ⟨hl12, hrng, hnd⟩ := VNm_iff.1 hv
  intro d e hfd he bs v w hO hB0 hsz
  have hz0 := hB0.size
  have hrw := hr0.below hB0
  have hp2 : 2 ^ d ≤ 2 ^ 6 := Nat.pow_le_pow_right (by omega) (by omega)
  have hspl1 := fun (h : (tfl l d e).length ≤ m) => show spl l m f d e = [(d, e, srt (tfl l d e))] by cases f with | zero => rw [spl] | succ g => rw [spl, if_pos h]
  have six := tfl_six hnd hrng e
  have cp := fun wx => pow_any d wx (by omega)
  have hrec : ¬ (tfl l d e).length ≤ m → ∃ g P : Nat, d ≤ 5 ∧ (P ≤ 64 ∧ e < P) ∧ bs.length + 2 ^ g ≤ 1000 ∧ (bs.length + (spl l m g (d + 1) e).length) + 2 ^ g ≤ 1000 ∧ spl l m f d e = spl l m g (d + 1) e ++ spl l m g (d + 1) (e + P) ∧ (∀ (bs : List Bk) (v : Value) (w : World), OwnB w w0.heap.size v bs → Below w0.heap.size w0 w → bs.length + 2 ^ g ≤ 1000 →
    Calls Try.prog 44 #[.slice a l.length cap, .int .i64 (m : Int), .int .i64 ((d : Int) + 1), .int .i64 (e : Int), v] w fun en w' => ∃ v', en = .returned v' ∧ OwnB w' w0.heap.size v' (bs ++ spl l m g (d + 1) e) ∧ Below w0.heap.size w0 w') ∧ (∀ (bs : List Bk) (v : Value) (w : World), OwnB w w0.heap.size v bs → Below w0.heap.size w0 w → bs.length + 2 ^ g ≤ 1000 →
    Calls Try.prog 44 #[.slice a l.length cap, .int .i64 (m : Int), .int .i64 ((d : Int) + 1), .int .i64 ((e : Int) + (P : Int)), v] w fun en w' => ∃ v', en = .returned v' ∧ OwnB w' w0.heap.size v' (bs ++ spl l m g (d + 1) (e + P)) ∧ Below w0.heap.size w0 w') ∧ ∀ wx, Calls Try.prog 48 #[.int .i64 (d : Int)] wx fun e w' => e = .returned (.int .i64 (P : Int)) ∧ wx = w' := by
    intro h
    cases f with
    | zero => obtain rfl : d = 6 := by omega
              omega
    | succ g =>
      have hps : 2 ^ (d + 1) = 2 * 2 ^ d := by rw [Nat.pow_succ]; omega
      have hgs : 2 ^ (g + 1) = 2 * 2 ^ g := by rw [Nat.pow_succ]; omega
      have l1 := spl_len l m g (d + 1) e
      have i1 := ih g rfl (d + 1) e (by omega) (by omega)
      have i2 := ih g rfl (d + 1) (e + 2 ^ d) (by omega) (by omega)
      rw [show (((d + 1 : Nat)) : Int) = (d : Int) + 1 by omega] at i1 i2
      rw [show (((e + 2 ^ d : Nat)) : Int) = (e : Int) + ((2 ^ d : Nat) : Int) by omega] at i2
      exact ⟨g, 2 ^ d, by omega, ⟨by omega, he⟩, by omega, by omega, by rw [spl, if_neg h], i1, i2, cp⟩
  obtain ⟨M, hM⟩ : ∃ M, M = l.length := ⟨_, rfl⟩
  have HM := Lib.hid hM
  rw [← hM] at hl12 hrec ⊢
  clear hM
  have REC := Lib.hid hrec
  have HR1 := Lib.hid hspl1
  have HO := Lib.hid hO
  have HSZ := Lib.hid hsz
  have HB0 := Lib.hid hB0
  have ho1 := Own.lit0 w w.heap.size (Nat.le_refl _)
  have hB1 := (Below.refl w.heap.size w).alloc (Nat.le_refl _) (.cells #[] 3)
  clear hrec hspl1 ih hO hsz hB0 cp six hp2
  go_enter Try.func44, Try.ntmps44
  go_wp2
  go_loopw [11, 12] (fun sv iv wr => ∃ i : Nat, i ≤ M ∧ iv = .int .i64 (i : Int) ∧ Own wr w.heap.size sv (tfl (l.take i) d e) ∧ Below w.heap.size w wr) (fun _ iv _ => M - (intOf iv).toNat)
  case atStart => exact ⟨0, by omega, rfl, by simpa [tfl] using ho1, hB1⟩
  case round =>
    clear ho1 hB1
    rename World => wo
    obtain ⟨i, hi, rfl, ho, hB⟩ := hrel
    by_cases hlt : i < M
    · have hi1 : (i : Int) < (M : Int) := by omega
      obtain ⟨b, off, y, rfl, hb, hc0, hy⟩ := hrw.get (k := i) (by have := HM.out; omega)
      have hcell : wo.cell? ⟨b, off + i, none⟩ = some (.int .i64 y) := (hB.cell (by exact hb)).trans hc0
      have hyr := hrng y (by rw [← hy.out]; exact getD_mem (by have := HM.out; omega))
      have htk := tfl_take (l := l) (d := d) (e := e) (i := i) (by have := HM.out; omega)
      rw [hy.out] at htk
      obtain ⟨Y, rfl⟩ : ∃ Y : Nat, y = Y := ⟨y.toNat, by omega⟩
      rw [Int.toNat_natCast] at htk
      have ct := fun wx => pow_tail Y d wx (by omega) (by omega)
      obtain ⟨q, hq⟩ : ∃ q, q = Y % 2 ^ d := ⟨_, rfl⟩
      rw [← hq] at htk ct
      have D := Lib.hid ct
      have hz1 := hB.size
      have hlen := tfl_len (l.take i) d e
      rw [List.length_take] at hlen
      have hl9 : (tfl (l.take i) d e).length ≤ 12 := by omega
      obtain ⟨T, hT⟩ : ∃ T, T = tfl (l.take i) d e := ⟨_, rfl⟩
      rw [← hT] at htk ho hl9
      clear hc0 ct hq hlen hT
      by_cases hqe : q = e
      · rw [if_pos hqe] at htk
        have HTK := Lib.hid htk
        subst hqe
        have hd1 : ((q : Int) == (q : Int)) = true := by simp
        clear htk
        go_wp2_with fail
        refine (D.out _).mono ?_
        rintro en w' ⟨rfl, rfl⟩
        go_wp2_with (at_builtin; refine push_int rfl (.tmp 28) (.tmp 33) rfl w.heap.size _ T (Y : Int) rfl ho rfl (by omega) hz1 ?_)
        intro v' wf of _ gf
        rw [← HTK.out] at of
        have hBf := hB.grown gf hB.size (fun k hk => (ho.lt k hk).1)
        clear gf ho hB
        go_wp2
        go_roundw
        case rel => exact ⟨i + 1, by omega, by go_num, of, hBf⟩
        case measure => simp [intOf]; omega
      · rw [if_neg hqe, List.append_nil] at htk
        have HTK := Lib.hid htk
        have hd1 : ((q : Int) == (e : Int)) = false := by simp; omega
        clear htk
        go_wp2_with fail
        refine (D.out _).mono ?_
        rintro en w' ⟨rfl, rfl⟩
        go_wp2
        go_roundw
        case rel => exact ⟨i + 1, by omega, by go_num, by rw [HTK.out]; exact ho, hB⟩
        case measure => simp [intOf]; omega
    · obtain rfl : i = M := by omega
      have hlen := tfl_len l d e
      have etk : l.take i = l := by rw [HM.out, List.take_length]
      rw [etk] at ho
      obtain ⟨T, hT⟩ : ∃ T, T = tfl l d e := ⟨_, rfl⟩
      rw [← hT] at ho hlen
      have HT := Lib.hid hT
      have hT9 : T.length ≤ 12 := by have := HM.out; omega
      obtain ⟨sa, cs, rfl, hrs, hcs, _, _⟩ := ho.form
      have hO2 := OwnB.below hB HO.out
      have hB2 := HB0.out.trans (hB.mono hz0)
      clear hT hlen etk ho
      have hz2 := hB.size
      clear hB
      by_cases hlm : T.length ≤ m
      · have hlm1 : (T.length : Int) ≤ (m : Int) := by omega
        have hR1 := HR1.out (by rw [← HT.out]; exact hlm)
        rw [← HT.out] at hR1
        have HRR := Lib.hid hR1
        clear hR1
        go_wp2_with fail
        refine (sortInts_any sa T cs _ hrs (by omega)).mono ?_
        rintro en w3 ⟨u, rfl, hu, b3⟩
        have hO3 := OwnB.below b3 hO2
        have hB3 := hB2.trans (b3.mono hB2.size)
        have hu3 := hu.mono hB2.size
        obtain ⟨uA, uC, rfl, _, _, _, _⟩ := hu3.form
        have hz3 := hB3.size
        have hbl : bs.length < 1000000000 := by have := HSZ.out; have := Nat.two_pow_pos f; omega
        clear hO2 b3 hB2 hu
        go_wp2_with (at_builtin; refine push_bk rfl (.tmp 43) (.tmp 49) rfl w0.heap.size _ bs (d, e, srt T) rfl hO3 _ hu3 _ rfl (by simp) hbl hz3 ?_)
        intro v' wf of gf
        have hBf := Below.grownO hB3 hO3 gf hz3 (Nat.le_refl _)
        rw [← HRR.out] at of
        clear gf hO3 hB3
        go_wp2
        go_ret
        exact ⟨v', rfl, of, hBf⟩
      · have hlm1 : ¬ (T.length : Int) ≤ (m : Int) := by omega
        obtain ⟨g, P, hd5, ⟨hP64, heP⟩, hs1, hs2, hR1, c1, c2, cp⟩ := REC.out (by rw [← HT.out]; exact hlm)
        have HRR := Lib.hid hR1
        have hd6' : ((d : Int) == 6) = false := by simp; omega
        have C1 := Lib.hid c1
        have C2 := Lib.hid c2
        have CP := Lib.hid cp
        have HS1 := Lib.hid hs1
        have HS2 := Lib.hid hs2
        clear hR1 c1 c2 cp hs1 hs2
        go_wp2_with fail
        refine (C1.out bs v _ hO2 hB2 HS1.out).mono ?_
        rintro en w3 ⟨v3, rfl, hO3, hB3⟩
        clear hO2 hB2
        go_wp2_with fail
        refine (CP.out _).mono ?_
        rintro en w' ⟨rfl, rfl⟩
        go_wp2_with fail
        refine (C2.out (bs ++ spl l m g (d + 1) e) v3 _ hO3 hB3 (by rw [List.length_append]; exact HS2.out)).mono ?_
        rintro en w4 ⟨v4, rfl, hO4, hB4⟩
        rw [List.append_assoc, ← HRR.out] at hO4
        clear hO3 hB3
        go_wp2
        go_ret
        exact ⟨v4, rfl, hO4, hB4⟩
theorem split_any (w0 : World) (a : Option Addr) (l : List Int) (cap m : Nat) (hr0 : Reads w0 a l) (hv : VNm l = true) (hm : 1 ≤ m ∧ m ≤ 4) : ∀ f, SPc w0 a l cap m f := by
  intro f
  induction f with
  | zero => exact split_step w0 a l cap m 0 hr0 hv hm (fun g h => by omega)
  | succ f ih =>
    refine split_step w0 a l cap m (f + 1) hr0 hv hm (fun g h => ?_)
    obtain rfl : f = g := by omega
    exact ih
/-- The buckets of names, none for other arguments. -/
def BKs (l : List Int) (m : Int) : List Bk := if VNm l = true ∧ 1 ≤ m ∧ m ≤ 4 then spl l m.toNat 6 0 0 else []
theorem BKs_len (l : List Int) (m : Int) : (BKs l m).length ≤ 64 := by
  unfold BKs; split
  · exact spl_len _ _ _ _ _
  · simp
set_option maxHeartbeats 4000000 in
theorem specBucketsOf_any (a : Option Addr) (l : List Int) (cap : Nat) (m : Int) (w : World) (hr : Reads w a l) (hl : l.length ≤ 1048586) (hcap : l.length ≤ cap) :
    Calls Try.prog 14 #[.slice a l.length cap, .int .i64 m] w fun e w' => ∃ v, e = .returned v ∧ OwnB w' w.heap.size v (BKs l m) ∧ Below w.heap.size w w' := by
  have cv := specvalidNames_any a l cap w hr hl hcap
  obtain ⟨R, hR⟩ : ∃ R, R = BKs l m := ⟨_, rfl⟩
  rw [← hR]
  have HR := Lib.hid hR
  clear hR
  obtain ⟨V, hV⟩ : ∃ V, V = VNm l := ⟨_, rfl⟩
  rw [← hV] at cv
  have HV := Lib.hid hV
  clear hV
  cases V with
  | false =>
    obtain rfl : R = [] := by rw [HR.out]; unfold BKs; rw [if_neg]; rintro ⟨h, _⟩; rw [← HV.out] at h; cases h
    go_enter Try.func14, Try.ntmps14
    go_wp2_with fail
    refine cv.mono ?_
    rintro e w1 ⟨rfl, n, rfl⟩
    go_wp2
    go_ret
    exact ⟨_, rfl, OwnB.nil _ _, below_drewN (Below.refl _ _) n⟩
  | true =>
    have ci := fun wx => inRange_any m 1 4 wx
    by_cases hin : inR m 1 4 = true
    · have hm := inR_iff.1 hin
      rw [hin] at ci
      obtain ⟨q, rfl⟩ : ∃ q : Nat, m = q := ⟨m.toNat, by omega⟩
      have hR : R = spl l q 6 0 0 := by rw [HR.out]; unfold BKs; rw [if_pos ⟨HV.out.symm, hm⟩, Int.toNat_natCast]
      subst hR
      have hq : 1 ≤ q ∧ q ≤ 4 := by omega
      have cS := split_any w a l cap q hr HV.out.symm hq 6 0 0 rfl (by simp) []
      rw [List.nil_append, Int.natCast_zero] at cS
      have CS := Lib.hid cS
      have CI := Lib.hid ci
      clear ci hin cS
      go_enter Try.func14, Try.ntmps14
      go_wp2_with fail
      refine cv.mono ?_
      rintro e w1 ⟨rfl, n, rfl⟩
      clear cv
      go_wp2_with fail
      refine (CI.out _).mono ?_
      rintro e w' ⟨rfl, rfl⟩
      have b1 := below_drewN (Below.refl w.heap.size w) n
      have o1 := OwnB.lit0 (w.drewN n) w.heap.size b1.size
      have b2 := b1.alloc b1.size (.cells #[] 30)
      go_wp2_with fail
      refine (CS.out _ _ o1 b2 (by simp)).mono ?_
      rintro e w2 ⟨v, rfl, o2, b3⟩
      go_wp2
      go_ret
      exact ⟨_, rfl, o2, b3⟩
    · obtain rfl : R = [] := by rw [HR.out]; unfold BKs; rw [if_neg]; rintro ⟨_, h⟩; exact hin (inR_iff.2 h)
      rw [show inR m 1 4 = false by simpa using hin] at ci
      have CI := Lib.hid ci
      clear ci hin
      go_enter Try.func14, Try.ntmps14
      go_wp2_with fail
      refine cv.mono ?_
      rintro e w1 ⟨rfl, n, rfl⟩
      clear cv
      go_wp2_with fail
      refine (CI.out _).mono ?_
      rintro e w' ⟨rfl, rfl⟩
      go_wp2
      go_ret
      exact ⟨_, rfl, OwnB.nil _ _, below_drewN (Below.refl _ _) n⟩
end Go.Proofs.Ytoaiaindcmihjaa
