/-
  laws.FnTakeOut: the walk.
-/
import Derived.Test.YtapkalpmnldhpabM13
import Derived.Test.YtapkalpmnldhpabLFT
import Derived.Test.YtapkalpmnldhpabS5
import Derived.Test.YtapkalpmnldhpabI7
import Derived.Test.YtapkalpmnldhpabD6
namespace Go.Proofs.Ytapkalpmnldhpab
open Go.RowKit

theorem inLy {l : List Int} {x : Int} (h : x ∈ l) : inL l x = true := by simp [inL, h]
theorem inLn {l : List Int} {x : Int} (h : x ∉ l) : inL l x = false := by simp [inL, h]
theorem reads_take {w : World} {a : Option Addr} {l : List Int} (h : Reads w a l) (k : Nat) : Reads w a (l.take k) := by
  rcases h with rfl | ⟨b, off, ha, hb, hc⟩
  · exact .inl (by simp)
  · refine .inr ⟨b, off, ha, hb, fun i hi => ?_⟩
    rw [List.length_take] at hi
    rw [hc i (by omega)]
    simp [List.getD, List.getElem?_take, show i < k by omega]
/-- FairTable of a slice whose length is named. -/
theorem implFairTable_n (m : Int) (a : Option Addr) (l : List Int) (n cap : Nat) (w : World) (hn : l.length = n) (hm : In64 m) (hr : Reads w a l) (hi : ∀ x ∈ l, In64 x) (hl : n ≤ 1048586) :
    Calls Try.prog 21 #[.int .i64 m, .slice a n cap] w fun e w' => ∃ v, e = .returned v ∧ Own w' w.heap.size v (FT m l) ∧ Below w.heap.size w w' := by
  subst hn
  exact implFairTable_any m a l cap w hm hr hi hl

/-- What the law of TakeOut asks. -/
theorem TO_law {m : Int} {l t : List Int} {key : Int} (h : (TO m l t key).2 = true) : ∃ n : Nat, l.length = n + 1 ∧ (t.length : Int) = m ∧ 1 ≤ m ∧ m ≤ 10 ∧ ((TO m l t key).1.length : Int) = m ∧ FD m l (TO m l t key).1 = true ∧ held (TO m l t key).1 + 1 = held t ∧
    (∀ y : Nat, (y : Int) ≠ key → (y : Int) ∈ t → (y : Int) ∈ (TO m l t key).1) ∧ key ∉ (TO m l t key).1 ∧ TO m l (FT m l) (n : Int) = (FT m (l.take n), true) ∧ (∀ x ∈ (TO m l t key).1, -1 ≤ x ∧ x < l.length) ∧ ((FT m l).length : Int) = m := by
  by_cases hc : FD m l t = true ∧ 0 ≤ key
  · cases hp : posn t key with
    | none => rw [TO_none hc hp] at h; simp at h
    | some i =>
      obtain ⟨hvt, _⟩ := FD_iff.1 hc.1
      obtain ⟨hv, hlen, hok⟩ := VT_iff.1 hvt
      have hh := VH_iff.1 hv
      obtain ⟨M, rfl⟩ := Int.eq_ofNat_of_zero_le (show 0 ≤ m by omega)
      obtain ⟨r, e, r1, r2, r3, r4, r5, r6⟩ := TO_left hc.1 hc.2 hp
      obtain ⟨hi, hti⟩ := posn_some hp
      have hkl := (hok.range i hi).2
      rw [e]
      obtain ⟨n, hn⟩ : ∃ n, l.length = n + 1 := ⟨l.length - 1, by omega⟩
      have hft := (FT_law hv).1
      refine ⟨n, hn, hlen, hh.1, hh.2.1, by simp only; omega, r2, r3, fun y hy hm => r4 y hy ?_, r5, TO_fair hv hn, r6, by rw [hft]; omega⟩
      obtain ⟨j, hj, e⟩ := List.getElem_of_mem hm
      exact ⟨j, by omega, by simp [List.getD, hj, e]⟩
  · rw [TO_no hc] at h; simp at h

set_option maxHeartbeats 8000000 in
set_option maxRecDepth 100000 in
theorem lawFnTakeOut (a : Option Addr) (n cap : Nat) (w : World) (hB : Bytes w w.heap.size a n) (hn : n ≤ 9223372036854775807) (hc : n ≤ cap) :
    Calls Try.prog 6 #[.slice a n cap] w fun e w' => e = .returned (.bool true) ∧ Below w.heap.size w w' := by
  by_cases hbig : 1048576 < n
  · go_enter Try.func6, Try.ntmps6
    go_wp2
    go_ret
    exact ⟨rfl, Below.refl _ _⟩
  go_enter Try.func6, Try.ntmps6
  go_wp2_with fail
  refine (drawTakeOut_any a n cap w hB hn hc).mono ?_
  rintro e w1 ⟨m, ah, ch, l, at_, ct, t, k, rfl, hm, r1, hs, hl, hlc, t1, hmi, htl, hk, b1⟩
  have hm64 : In64 m := by unfold In64; omega
  have hk64 : In64 k := by unfold In64; omega
  have L64 := hs.in64
  have T64 := hmi.in64
  have z1 := b1.size
  clear hB hn hc hs
  obtain ⟨R, hR⟩ : ∃ R, R = (TO m l t k).1 := ⟨_, rfl⟩
  obtain ⟨K, hK⟩ : ∃ K, K = (TO m l t k).2 := ⟨_, rfl⟩
  have hRl : R.length ≤ 1048586 := by rw [hR]; exact TO_len m l t k
  have eR := eqL_self R
  have eK1 : (K != K) = false := by simp
  have eK2 : (K == K) = true := by simp
  have HR := Lib.hid hR
  have HK := Lib.hid hK
  clear hR hK
  have hc := implTakeOut_any m ah l ch at_ t ct k w1 hm64 r1 L64 (by omega) t1 T64 (by omega) hk64
  rw [← HR.out, ← HK.out] at hc
  go_wp2_with fail
  refine hc.mono ?_
  clear hc
  rintro e w2 ⟨vo, rfl, oo, b2⟩
  obtain ⟨ao, co, rfl, o2, _, _, _⟩ := oo.form
  have r2 := r1.below b2
  have t2 := t1.below b2
  have B2 := b1.trans (b2.mono z1)
  have z2 := B2.size
  clear r1 t1 b1 b2 oo
  have hc := specTakeOut_any m ah l ch at_ t ct k w2 hm64 r2 L64 (by omega) t2 T64 (by omega) hk64
  rw [← HR.out, ← HK.out] at hc
  go_wp2_with fail
  refine hc.mono ?_
  clear hc
  rintro e w3 ⟨vs, rfl, os, b3⟩
  obtain ⟨as3, cs, rfl, s3, _, _, _⟩ := os.form
  have r3 := r2.below b3
  have t3 := t2.below b3
  have o3 := o2.below b3
  have B3 := B2.trans (b3.mono z2)
  have z3 := B3.size
  clear r2 t2 o2 B2 b3 os
  have hq := equalInts_any _ _ R R co cs _ o3 s3 hRl hRl
  rw [eR] at hq
  go_wp2_with fail
  refine hq.mono ?_
  rintro e w4 ⟨rfl, q4, rfl⟩
  have Bq := below_drewN (Below.refl w3.heap.size w3) q4
  have r4 := r3.below Bq
  have t4 := t3.below Bq
  have o4 := o3.below Bq
  have s4 := s3.below Bq
  have B4 := B3.trans (Bq.mono z3)
  clear r3 t3 o3 s3 B3 Bq hq
  generalize w3.drewN q4 = w4 at r4 t4 o4 s4 B4 ⊢
  have z4 := B4.size
  by_cases hok : K = true
  · subst hok
    obtain ⟨N, f1, f2, f3, f3', f4, f5, f6, f7, f8, f9, f10, f11⟩ := TO_law (m := m) (l := l) (t := t) (key := k) HK.out.symm
    rw [← HR.out] at f4 f5 f6 f7 f8 f10
    have F5 := Lib.hid f5
    have F6 := Lib.hid f6
    have F7 := Lib.hid f7
    have F8 := Lib.hid f8
    have F9 := Lib.hid f9
    have R64 : ∀ x ∈ R, In64 x := fun x hx => by have := f10 x hx; unfold In64; omega
    have F1 := Lib.hid f1
    have F2 := Lib.hid f2
    have F4 := Lib.hid f4
    have F11 := Lib.hid f11
    have hN13 : N ≤ 13 := by omega
    have hR10 : R.length ≤ 10 := by omega
    clear f1 f2 f4 f5 f6 f7 f8 f9 f10 f11 s4
    go_wp2
    go_loopw [11] (fun i wr => ∃ s : Nat, (s : Int) ≤ m ∧ i = .int .i64 s ∧ wr = w4) (fun i _ => m.toNat - (intOf i).toNat)
    case atStart => exact ⟨0, by omega, rfl, rfl⟩
    case round =>
      obtain ⟨s, hsm, rfl, rfl⟩ := hrel
      by_cases hlt : (s : Int) < m
      · have hst : s < t.length := by have := F2.out; omega
        obtain ⟨bT, oT, x, rfl, hbT, hcT, hx⟩ := t4.get (k := s) hst
        have hs1 : (s : Int) < (t.length : Int) := by omega
        have hxm := hmi.get hst
        rw [hx.out] at hxm
        by_cases h0 : 0 ≤ x
        · by_cases hxk : x = k
          · have hd : (x != k) = false := by simp [hxk]
            have HX := Lib.hid hxk
            clear hxk hx
            go_wp2
            go_roundw
            case rel => exact ⟨s + 1, by omega, by go_num, (by first | rfl | trivial)⟩
            case measure => simp [intOf]; omega
          · have hd : (x != k) = true := by simpa using hxk
            have hin : inL R x = true := by
              obtain ⟨X, hX⟩ := Int.eq_ofNat_of_zero_le h0
              refine inLy ?_
              rw [hX]
              refine F7.out X (by omega) ?_
              rw [← hX, ← hx.out, List.getD_eq_getElem?_getD, List.getElem?_eq_getElem hst]
              exact List.getElem_mem hst
            have hc := isIn_any ao R co x wr o4 hRl
            rw [hin] at hc
            have HC := Lib.hid hc
            clear hc hin hxk hx
            go_wp2_with fail
            refine HC.out.mono ?_
            rintro e w' ⟨rfl, rfl⟩
            go_wp2
            go_roundw
            case rel => exact ⟨s + 1, by omega, by go_num, (by first | rfl | trivial)⟩
            case measure => simp [intOf]; omega
        · clear hx
          go_wp2
          go_roundw
          case rel => exact ⟨s + 1, by omega, by go_num, (by first | rfl | trivial)⟩
          case measure => simp [intOf]; omega
      · obtain ⟨FF, hFF⟩ : ∃ FF, FF = FT m l := ⟨_, rfl⟩
        obtain ⟨FL, hFL⟩ : ∃ FL, FL = FT m (l.take N) := ⟨_, rfl⟩
        have hFmi := FT_mild (m := m) hl
        have hFLmi := FT_mild (m := m) (l := l.take N) (by rw [List.length_take]; omega)
        rw [← hFF] at hFmi
        rw [← hFL] at hFLmi
        have F64 := hFmi.1.in64
        have f9 := F9.out
        rw [← hFF, ← hFL] at f9
        have hFF10 := hFmi.2
        have hFL10 := hFLmi.2
        have f11 := F11.out
        rw [← hFF] at f11
        have HFF := Lib.hid hFF
        have HFL := Lib.hid hFL
        have H9 := Lib.hid f9
        have hl1 : ((l.length : Int)) - 1 = (N : Int) := by have := F1.out; omega
        have hNl : N ≤ l.length := by have := F1.out; omega
        have hNi : (N : Int) ≤ (ch : Int) := by omega
        have HL1 := Lib.hid hl1
        clear hFF hFL hFmi hFLmi f9 f11 hl1 F9 F11
        have hc := implFairTable_any m ah l ch wr hm64 r4 L64 (by omega)
        rw [← HFF.out] at hc
        go_wp2_with fail
        rw [HL1.out]
        refine hc.mono ?_
        clear hc
        rintro e w5 ⟨vf, rfl, of5, b5⟩
        obtain ⟨af, cf, rfl, f5r, _, _, _⟩ := of5.form
        have r5 := r4.below b5
        have t5 := t4.below b5
        have o5 := o4.below b5
        have B5 := B4.trans (b5.mono z4)
        have z5 := B5.size
        clear r4 t4 o4 B4 b5 of5
        have hc := implTakeOut_any m ah l ch af FF cf (N : Int) w5 hm64 r5 L64 (by omega) f5r F64 (by omega) (by unfold In64; omega)
        rw [H9.out] at hc
        go_wp2_with fail
        refine hc.mono ?_
        clear hc
        rintro e w6 ⟨vl, rfl, ol, b6⟩
        obtain ⟨al, cl, rfl, l6, _, _, _⟩ := ol.form
        have r6 := r5.below b6
        have t6 := t5.below b6
        have o6 := o5.below b6
        have B6 := B5.trans (b6.mono z5)
        have z6 := B6.size
        clear r5 t5 o5 B5 b6 ol f5r
        have hc := implIsFound_any m ah l ch ao R co w6 hm64 r6 L64 (by omega) o6 R64 hRl
        rw [F5.out] at hc
        go_wp2_with fail
        refine hc.mono ?_
        clear hc
        rintro e w7 ⟨rfl, b7⟩
        have r7 := r6.below b7
        have t7 := t6.below b7
        have o7 := o6.below b7
        have l7 := l6.below b7
        have B7 := B6.trans (b7.mono z6)
        have z7 := B7.size
        clear r6 t6 o6 l6 B6 b7
        have hc := isIn_any ao R co k w7 o7 hRl
        rw [inLn F8.out] at hc
        go_wp2_with fail
        refine hc.mono ?_
        clear hc
        rintro e w' ⟨rfl, rfl⟩
        have hc := keysIn_any ao R co w7 o7 (by omega)
        obtain ⟨P, hP⟩ : ∃ P, P = held R := ⟨_, rfl⟩
        obtain ⟨Q, hQ⟩ : ∃ Q, Q = held t := ⟨_, rfl⟩
        have hPQ : P + 1 = Q := by rw [hP, hQ]; exact F6.out
        have hQ10 : Q ≤ 100 := by rw [hQ]; have := held_le t; omega
        rw [← hP] at hc
        go_wp2_with fail
        refine hc.mono ?_
        clear hc
        rintro e w' ⟨rfl, rfl⟩
        have hc := keysIn_any at_ t ct w7 t7 (by omega)
        rw [← hQ] at hc
        have hPQ2 : ((P : Int) == (Q : Int) - 1) = true := by simp; omega
        have HQ := Lib.hid hQ
        clear hP hQ hPQ
        go_wp2_with fail
        refine hc.mono ?_
        clear hc
        rintro e w' ⟨rfl, rfl⟩
        have hltk : (l.take N).length = N := by rw [List.length_take]; omega
        have hc := implFairTable_n m ah (l.take N) N ch w7 hltk hm64 (reads_take r7 N) (fun x hx => L64 x (List.mem_of_mem_take hx)) (by omega)
        rw [← HFL.out] at hc
        clear hltk
        go_wp2_with fail
        refine hc.mono ?_
        clear hc
        rintro e w8 ⟨vx, rfl, ox, b8⟩
        obtain ⟨ax, cx, rfl, x8, _, _, _⟩ := ox.form
        have l8 := l7.below b8
        have B8 := B7.trans (b8.mono z7)
        have hq := equalInts_any _ _ FL FL cl cx _ l8 x8 (by omega) (by omega)
        rw [eqL_self FL] at hq
        go_wp2_with fail
        refine hq.mono ?_
        rintro e w9 ⟨rfl, q9, rfl⟩
        go_wp2
        go_ret
        exact ⟨rfl, below_drewN B8 q9⟩
  · have hK2 : K = false := by simpa using hok
    subst hK2
    have hq := equalInts_any _ _ R R co cs _ o4 s4 hRl hRl
    rw [eR] at hq
    go_wp2_with fail
    refine hq.mono ?_
    rintro e w5 ⟨rfl, q5, rfl⟩
    go_wp2
    go_ret
    exact ⟨rfl, below_drewN B4 q5⟩
end Go.Proofs.Ytapkalpmnldhpab
