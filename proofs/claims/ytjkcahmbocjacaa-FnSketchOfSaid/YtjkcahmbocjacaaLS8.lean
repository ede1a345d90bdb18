/-
  laws.FnSketchOf: the walk.
-/
import Derived.Test.YtjkcahmbocjacaaK5
import Derived.Test.YtjkcahmbocjacaaK7
import Derived.Test.YtjkcahmbocjacaaDK
import Derived.Test.YtjkcahmbocjacaaLH
namespace Go.Proofs.Ytjkcahmbocjacaa
open Go.RowKit

set_option maxHeartbeats 8000000 in
set_option maxRecDepth 100000 in
theorem lawFnSketchOf (a : Option Addr) (n cap : Nat) (w : World) (hB : Bytes w w.heap.size a n) (hn : n ≤ 9223372036854775807) (hc : n ≤ cap) :
    Calls Try.prog 10 #[.slice a n cap] w fun e w' => e = .returned (.bool true) ∧ Below w.heap.size w w' := by
  by_cases hbig : 1048576 < n
  · go_enter Try.func10, Try.ntmps10
    go_wp2
    go_ret
    exact ⟨rfl, Below.refl _ _⟩
  go_enter Try.func10, Try.ntmps10
  go_wp2_with fail
  refine (drawSketchOf_any a n cap w hB hn hc).mono ?_
  rintro e w1 ⟨ar, ts, cr, set, rfl, hs, hr, bk, hel, B1⟩
  have hi64 : ∀ l ∈ ts, ∀ x ∈ l, In64 x := fun l hl x hx => by have := hel l hl x hx; unfold In64; omega
  have hts : ts.length ≤ 100 := by have := bulk_len ts; omega
  have CI := Lib.hid (fun t wx (h : ReadsS wx ar ts) (ht : In64 t) => implSketchOf_any ar ts cr t wx h (by omega) ht hi64)
  have CS := Lib.hid (fun t wx (h : ReadsS wx ar ts) (ht : In64 t) => specSketchOf_any ar ts cr t wx h (by omega) ht)
  have CE := Lib.hid (fun a1 a2 (l : List Int) c1 c2 wx (h1 : Reads wx a1 l) (h2 : Reads wx a2 l) (hl : l.length ≤ 1048586) => equalInts_any a1 a2 l l c1 c2 wx h1 h2 hl hl)
  have hRl := SKO_len ts set
  clear hB hn hc bk hel hi64
  obtain ⟨R, hR⟩ : ∃ R, R = SKO ts set := ⟨_, rfl⟩
  have ci1 := CI.out set w1 hr (by unfold In64; omega)
  have cs1 := fun wx h => CS.out set wx h (by unfold In64; omega)
  rw [← hR] at ci1 cs1 hRl
  have CS1 := Lib.hid cs1
  have HR := Lib.hid hR
  clear cs1 hR
  go_wp2_with fail
  refine ci1.mono ?_
  rintro e w2 ⟨v2, rfl, o2, b2⟩
  obtain ⟨a2, c2, rfl, r2, _, _, _⟩ := o2.form
  have hr2 := hr.below b2
  have B2 := B1.trans (b2.mono B1.size)
  clear b2 B1 hr o2 ci1
  go_wp2_with fail
  refine (CS1.out _ hr2).mono ?_
  rintro e w3 ⟨v3, rfl, o3, b3⟩
  obtain ⟨a3, c3, rfl, r3, _, _, _⟩ := o3.form
  have hr3 := hr2.below b3
  have r2b := r2.below b3
  have B3 := B2.trans (b3.mono B2.size)
  have cE := CE.out a2 a3 R c2 c3 w3 r2b r3 (by omega)
  rw [eqL_self] at cE
  clear b3 B2 hr2 r2 o3
  go_wp2_with fail
  refine cE.mono ?_
  rintro e w4 ⟨rfl, q4, rfl⟩
  have hr4 := hr3.below (below_drewN (Below.refl _ _) q4)
  have r4 := r2b.below (below_drewN (Below.refl _ _) q4)
  have B4 := below_drewN B3 q4
  clear cE hr3 r2b r3 B3
  obtain ⟨w4, e4⟩ : ∃ w4, w4 = w3.drewN q4 := ⟨_, rfl⟩
  rw [← e4] at hr4 r4 B4
  have E4 := Lib.hid e4
  rw [← e4]
  clear e4
  by_cases h0 : R.length = 0
  · obtain rfl : R = [] := List.eq_nil_of_length_eq_zero h0
    clear h0 hRl HR
    rw [show ([] : List Int).length = 0 from rfl]
    go_wp2_with fail
    refine (CS1.out _ hr4).mono ?_
    rintro e w5 ⟨v5, rfl, o5, b5⟩
    obtain ⟨a5, c5, rfl, r5, _, _, _⟩ := o5.form
    have B5 := B4.trans (b5.mono B4.size)
    have r4b := r4.below b5
    have cE := CE.out a2 a5 [] c2 c5 w5 r4b r5 (by simp)
    rw [eqL_self] at cE
    go_wp2_with fail
    refine cE.mono ?_
    rintro e w6 ⟨rfl, q6, rfl⟩
    go_wp2
    go_ret
    exact ⟨rfl, below_drewN B5 q6⟩
  · have hz : ((R.length : Int) == 0) = false := by
      simp; intro e; rw [e] at h0; exact h0 rfl
    have hR := HR.out
    have hv : VSK ts set := by
      by_cases h : VSK ts set
      · exact h
      · rw [hR] at h0; unfold SKO at h0; rw [if_neg h] at h0; exact absurd rfl h0
    have hRL : R.length = ts.length := by rw [hR]; exact SKO_get_len hv
    have hs1 : 1 ≤ set := (hv.2 0 (by omega)).2.2.2.1
    have hlaw := fun i (hi : i < ts.length) => SKO_law hv hs1 hi
    obtain ⟨S, rfl⟩ : ∃ S : Nat, set = S := ⟨set.toNat, by omega⟩
    have l1 := SKO_get_len hv.one
    have lb := SKO_get_len (hv.both hs1)
    rw [Int.toNat_natCast] at hlaw lb
    have hor : bits .or .i64 (S : Int) 1 = ((S ||| 1 : Nat) : Int) := bits_or_i64_nat S 1 (by omega) (by omega)
    have horl : S ||| 1 < 2 ^ 7 := Nat.or_lt_two_pow (by omega) (by omega)
    obtain ⟨U, hU⟩ : ∃ U, U = S ||| 1 := ⟨_, rfl⟩
    rw [← hU] at hor hlaw lb horl
    have ci2 := fun wx h => CI.out 1 wx h (by unfold In64; omega)
    have ci3 := fun wx h => CI.out (U : Int) wx h (by unfold In64; omega)
    rw [← hR] at hlaw
    obtain ⟨R1, hR1⟩ : ∃ R1, R1 = SKO ts 1 := ⟨_, rfl⟩
    obtain ⟨RB, hRB⟩ : ∃ RB, RB = SKO ts (U : Int) := ⟨_, rfl⟩
    rw [← hR1] at hlaw ci2 l1
    rw [← hRB] at hlaw ci3 lb
    have CI2 := Lib.hid ci2
    have CI3 := Lib.hid ci3
    have HL := Lib.hid hlaw
    have HLR := Lib.hid hRL
    have H1 := Lib.hid (l1.trans hRL.symm)
    have H2 := Lib.hid (lb.trans hRL.symm)
    clear HR hR hv hlaw hU hR1 hRB l1 lb ci2 ci3 CI CS CS1 CE
    go_wp2_with fail
    refine (CI2.out _ hr4).mono ?_
    rintro e w5 ⟨v5, rfl, o5, b5⟩
    obtain ⟨a5, c5, rfl, r5, _, _, _⟩ := o5.form
    have hr5 := hr4.below b5
    have r4b := r4.below b5
    have B5 := B4.trans (b5.mono B4.size)
    clear b5 o5 hr4 r4 B4
    go_wp2_with fail
    refine (CI3.out _ hr5).mono ?_
    rintro e w6 ⟨v6, rfl, o6, b6⟩
    obtain ⟨a6, c6, rfl, r6, _, _, _⟩ := o6.form
    have r4c := r4b.below b6
    have r5c := r5.below b6
    have B6 := B5.trans (b6.mono B5.size)
    clear b6 o6 hr5 r4b r5 B5 CI2 CI3
    rw [H1.out, H2.out, HLR.out]
    go_wp2
    go_loopw [8] (fun iv wr => ∃ (i m : Nat), i ≤ R.length ∧ iv = .int .i64 (i : Int) ∧ wr = w6.drewN m) (fun iv _ => R.length - (intOf iv).toNat)
    case atStart => exact ⟨0, 0, by omega, rfl, rfl⟩
    case round =>
      obtain ⟨i, m, hi, rfl, rfl⟩ := hrel
      by_cases hlt : i < R.length
      · have hi1 : (i : Int) < (R.length : Int) := by omega
        obtain ⟨t1, t2, t3⟩ := HL.out i (by have := HLR.out; omega)
        obtain ⟨b1, f1, x, rfl, hb1, hc1, hx⟩ := r4c.get hlt
        obtain ⟨b2, f2, y, rfl, hb2, hc2, hy⟩ := r6.get (k := i) (by have := H2.out; omega)
        obtain ⟨b3, f3, z, rfl, hb3, hc3, hz3⟩ := r5c.get (k := i) (by have := H1.out; omega)
        rw [hx.out] at t1 t2 t3
        rw [hy.out, hz3.out] at t3
        obtain ⟨X, rfl⟩ : ∃ X : Nat, x = X := ⟨x.toNat, by omega⟩
        rw [Int.toNat_natCast] at t1
        have cb := fun q => lawsbit_any S X (w6.drewN q) (by omega) (by omega)
        have hbt : bt S X = 1 := by unfold bt; rw [if_pos t1]
        rw [hbt] at cb
        have CB := Lib.hid cb
        clear t1 cb hbt
        rcases t3 with t3 | t3
        · subst t3
          have e1 : ((X : Int) != (X : Int)) = false := by simp
          go_wp2
          go_quiet ((with_reducible first | (go_at_call 51; first | exact quiet_lf (CB.out _) | exact quiet_pf (CB.out _))))
          all_goals
            go_wp2
            go_roundw
            case rel => exact ⟨i + 1, _, by omega, by go_num, rfl⟩
            case measure => simp [intOf]; omega
        · subst t3
          have e1 : (y != y) = false := by simp
          obtain ⟨db, hdb⟩ : ∃ db, db = (y != (X : Int)) := ⟨_, rfl⟩
          replace hdb := hdb.symm
          cases db
          all_goals
            go_wp2
            go_quiet ((with_reducible first | (go_at_call 51; first | exact quiet_lf (CB.out _) | exact quiet_pf (CB.out _))))
            all_goals
              go_wp2
              go_roundw
              case rel => exact ⟨i + 1, _, by omega, by go_num, rfl⟩
              case measure => simp [intOf]; omega
      · obtain rfl : i = R.length := by omega
        have hl := HLR.out
        go_wp2
        go_ret
        exact ⟨ret_bool (by simp [hl]), below_drewN B6 _⟩
end Go.Proofs.Ytjkcahmbocjacaa

