/-
  spec.LineOf, LineMoves.
-/
import Derived.Test.YtoaiaindcmihjaaNC
namespace Go.Proofs.Ytoaiaindcmihjaa
open Go.RowKit

theorem in63 {x : Int} : inR x 0 63 = true ↔ 0 ≤ x ∧ x ≤ 63 := inR_iff
set_option maxHeartbeats 4000000 in
theorem specLineOf_any (c x : Int) (w : World) : Calls Try.prog 25 #[.int .i64 c, .int .i64 x] w fun e w' => e = .returned (.int .i64 (LNO c x)) ∧ w = w' := by
  have c1 := fun wx => inRange_any c 1 40 wx
  have c2 := fun wx => inRange_any x 0 63 wx
  have c3 := fun wx => pow6_any wx
  obtain ⟨R, hR⟩ : ∃ R, R = LNO c x := ⟨_, rfl⟩
  rw [← hR]
  by_cases h1 : inR c 1 40 = true
  · have hc := inR_iff.1 h1
    rw [h1] at c1
    by_cases h2 : inR x 0 63 = true
    · have hx := inR_iff.1 h2
      rw [h2] at c2
      obtain ⟨C, rfl⟩ : ∃ C : Nat, c = C := ⟨c.toNat, by omega⟩
      obtain ⟨X, rfl⟩ : ∃ X : Nat, x = X := ⟨x.toNat, by omega⟩
      have hR2 : R = (lno C X : Nat) := by rw [hR, LNO_some ⟨hc, hx⟩]; rfl
      have c4 := fun wx => lineOf_any C X wx (by omega) (by omega)
      rw [← hR2] at c4
      have D1 := Lib.hid c1
      have D2 := Lib.hid c2
      have D3 := Lib.hid c3
      have D4 := Lib.hid c4
      clear c1 c2 c3 c4 hR hR2 h1 h2
      go_enter Try.func25, Try.ntmps25
      go_wp2_with fail
      refine (D1.out _).mono ?_
      rintro e w' ⟨rfl, rfl⟩
      go_wp2_with fail
      refine (D3.out _).mono ?_
      rintro e w' ⟨rfl, rfl⟩
      go_wp2_with fail
      refine (D2.out _).mono ?_
      rintro e w' ⟨rfl, rfl⟩
      go_wp2_with fail
      refine (D4.out _).mono ?_
      rintro e w' ⟨rfl, rfl⟩
      go_wp2
      go_ret
      exact ⟨rfl, rfl⟩
    · obtain rfl : R = -1 := by rw [hR, LNO_none (fun h => h2 (inR_iff.2 h.2))]
      rw [show inR x 0 63 = false by simpa using h2] at c2
      have D1 := Lib.hid c1
      have D2 := Lib.hid c2
      have D3 := Lib.hid c3
      clear c1 c2 c3 hR h1 h2
      go_enter Try.func25, Try.ntmps25
      go_wp2_with fail
      refine (D1.out _).mono ?_
      rintro e w' ⟨rfl, rfl⟩
      go_wp2_with fail
      refine (D3.out _).mono ?_
      rintro e w' ⟨rfl, rfl⟩
      go_wp2_with fail
      refine (D2.out _).mono ?_
      rintro e w' ⟨rfl, rfl⟩
      go_wp2
      go_ret
      exact ⟨rfl, rfl⟩
  · obtain rfl : R = -1 := by rw [hR, LNO_none (fun h => h1 (inR_iff.2 h.1))]
    rw [show inR c 1 40 = false by simpa using h1] at c1
    have D1 := Lib.hid c1
    clear c1 c2 c3 hR h1
    go_enter Try.func25, Try.ntmps25
    go_wp2_with (first | (go_at_call 43; refine (D1.out _).mono ?_; rintro e w' ⟨rfl, rfl⟩))
    go_ret
    exact ⟨rfl, rfl⟩
/-- The names that move, for a table and names. -/
def lmv (c : Nat) (l : List Int) : List Int := l.filter (fun x => decide (lno c x.toNat ≠ lno (c + 1) x.toNat))
theorem lmv_take {c : Nat} {l : List Int} {i : Nat} (h : i < l.length) : lmv c (l.take (i + 1)) = lmv c (l.take i) ++ if lno c (l.getD i 0).toNat ≠ lno (c + 1) (l.getD i 0).toNat then [l.getD i 0] else [] := by
  rw [take_snocN h]
  unfold lmv
  rw [List.filter_append]
  by_cases g : lno c (l.getD i 0).toNat ≠ lno (c + 1) (l.getD i 0).toNat
  · rw [if_pos g, List.filter_cons_of_pos (by rw [decide_eq_true g]), List.filter_nil]
  · rw [if_neg g, List.filter_cons_of_neg (by rw [decide_eq_false g]; simp), List.filter_nil]
theorem LMV_is {c : Nat} {l : List Int} (h : VLm (c : Int) l) : LMV c l = lmv c l := by
  unfold LMV lmv
  rw [if_pos h]
  refine List.filter_congr fun x hx => ?_
  have hr := (VNm_iff.1 h.2).2.1 x hx
  have hc := h.1
  rw [LNO_some ⟨⟨by omega, by omega⟩, hr⟩, LNO_some ⟨⟨by omega, by omega⟩, hr⟩, show ((c : Int) + 1).toNat = c + 1 by omega, Int.toNat_natCast]
  exact decide_eq_decide.2 (by omega)
theorem lmv_len (c : Nat) (l : List Int) : (lmv c l).length ≤ l.length := List.length_filter_le _ _
set_option maxHeartbeats 8000000 in
theorem specLineMoves_any (c : Int) (a : Option Addr) (l : List Int) (cap : Nat) (w : World) (hr : Reads w a l) (hl : l.length ≤ 1048586) (hcap : l.length ≤ cap) :
    Calls Try.prog 28 #[.int .i64 c, .slice a l.length cap] w fun e w' => ∃ v, e = .returned v ∧ Own w' w.heap.size v (LMV c l) ∧ Below w.heap.size w w' := by
  have cv := specvalidNames_any a l cap w hr hl hcap
  have ci := fun wx => inRange_any c 1 39 wx
  obtain ⟨R, hR⟩ : ∃ R, R = LMV c l := ⟨_, rfl⟩
  rw [← hR]
  have HR := Lib.hid hR
  clear hR
  by_cases hin : inR c 1 39 = true
  rotate_left
  · obtain rfl : R = [] := by rw [HR.out]; unfold LMV; rw [if_neg]; rintro ⟨h, _⟩; exact hin (inR_iff.2 h)
    rw [show inR c 1 39 = false by simpa using hin] at ci
    have CI := Lib.hid ci
    clear ci hin
    go_enter Try.func28, Try.ntmps28
    go_wp2_with fail
    refine (CI.out _).mono ?_
    rintro e w' ⟨rfl, rfl⟩
    go_wp2
    go_ret
    exact ⟨_, rfl, Own.nil _ _, Below.refl _ _⟩
  have hc := inR_iff.1 hin
  rw [hin] at ci
  have CI := Lib.hid ci
  clear ci hin
  cases hV : VNm l with
  | false =>
    obtain rfl : R = [] := by rw [HR.out]; unfold LMV; rw [if_neg]; rintro ⟨_, h⟩; rw [hV] at h; cases h
    rw [hV] at cv
    clear hV
    go_enter Try.func28, Try.ntmps28
    go_wp2_with fail
    refine (CI.out _).mono ?_
    rintro e w' ⟨rfl, rfl⟩
    go_wp2_with fail
    refine cv.mono ?_
    rintro e w1 ⟨rfl, n, rfl⟩
    go_wp2
    go_ret
    exact ⟨_, rfl, Own.nil _ _, below_drewN (Below.refl _ _) n⟩
  | true =>
    rw [hV] at cv
    obtain ⟨C, rfl⟩ : ∃ C : Nat, c = C := ⟨c.toNat, by omega⟩
    have hR2 : R = lmv C l := by rw [HR.out]; exact LMV_is ⟨hc, hV⟩
    have HR2 := Lib.hid hR2
    obtain ⟨hl12, hrng, _⟩ := VNm_iff.1 hV
    clear hV hR2 HR
    obtain ⟨M, hM⟩ : ∃ M, M = l.length := ⟨_, rfl⟩
    have HM := Lib.hid hM
    rw [← hM] at hl12 cv hl hcap ⊢
    clear hM
    have CL := Lib.hid (fun (k X : Nat) wx (h1 : 1 ≤ k ∧ k ≤ 40) (h2 : X ≤ 63) => lineOf_any k X wx h1 h2)
    have eC : IntKind.i64.wrap ((C : Int) + 1) = ((C + 1 : Nat) : Int) := by rw [IntWalk.i64_in _ (by omega)]; omega
    have hrow := hr
    go_enter Try.func28, Try.ntmps28
    go_wp2_with fail
    refine (CI.out _).mono ?_
    rintro e w' ⟨rfl, rfl⟩
    go_wp2_with fail
    refine cv.mono ?_
    rintro e w1 ⟨rfl, n, rfl⟩
    have b1 := below_drewN (Below.refl w.heap.size w) n
    have o1 := Own.lit0 (w.drewN n) w.heap.size b1.size
    have b2 := b1.alloc b1.size (.cells #[] 3)
    clear cv b1
    go_wp2
    go_loopw [5, 6] (fun sv iv wr => ∃ i : Nat, i ≤ M ∧ iv = .int .i64 (i : Int) ∧ Own wr w.heap.size sv (lmv C (l.take i)) ∧ Below w.heap.size w wr) (fun _ iv _ => M - (intOf iv).toNat)
    case atStart => exact ⟨0, by omega, rfl, by simpa [lmv] using o1, b2⟩
    case round =>
      clear o1 b2
      rename World => wo
      obtain ⟨i, hi, rfl, ho, hB⟩ := hrel
      by_cases hlt : i < M
      · have hi1 : (i : Int) < (M : Int) := by omega
        obtain ⟨b, off, y, rfl, hb, hc0, hy⟩ := hrow.get (k := i) (by have := HM.out; omega)
        have hcell : wo.cell? ⟨b, off + i, none⟩ = some (.int .i64 y) := (hB.cell (by exact hb)).trans hc0
        have hyr := hrng y (by rw [← hy.out]; exact getD_mem (by have := HM.out; omega))
        have htk := lmv_take (c := C) (l := l) (i := i) (by have := HM.out; omega)
        rw [hy.out] at htk
        obtain ⟨Y, rfl⟩ : ∃ Y : Nat, y = Y := ⟨y.toNat, by omega⟩
        rw [Int.toNat_natCast] at htk
        have k1 := fun wx => CL.out C Y wx (by omega) (by omega)
        have k2 := fun wx => CL.out (C + 1) Y wx (by omega) (by omega)
        obtain ⟨p, hp⟩ : ∃ p, p = lno C Y := ⟨_, rfl⟩
        obtain ⟨q, hq⟩ : ∃ q, q = lno (C + 1) Y := ⟨_, rfl⟩
        rw [← hp, ← hq] at htk
        rw [← hp] at k1
        rw [← hq, show (((C + 1 : Nat)) : Int) = (C : Int) + 1 by omega] at k2
        have D1 := Lib.hid (fun m => k1 (wo.drewN m))
        have D2 := Lib.hid (fun m => k2 (wo.drewN m))
        have hz1 := hB.size
        have hlen := lmv_len C (l.take i)
        rw [List.length_take] at hlen
        have hl9 : (lmv C (l.take i)).length ≤ 12 := by omega
        obtain ⟨T, hT⟩ : ∃ T, T = lmv C (l.take i) := ⟨_, rfl⟩
        rw [← hT] at htk ho hl9
        clear hc0 k1 k2 hp hq hlen hT
        by_cases hpq : p = q
        · rw [if_neg (fun h => h hpq), List.append_nil] at htk
          have HTK := Lib.hid htk
          subst hpq
          have hd1 : ((p : Int) != (p : Int)) = false := by simp
          clear htk
          go_wp2_with fail
          go_quiet ((with_reducible first | (go_at_call 54; exact quiet_pfN (D1.out _)) | (go_at_call 54; exact quiet_pfN (D2.out _))))
          all_goals
            go_wp2
            go_roundw
            case rel => exact ⟨i + 1, by omega, by go_num, by rw [HTK.out]; exact ho.below (below_drewN (Below.refl _ _) _), below_drewN hB _⟩
            case measure => simp [intOf]; omega
        · rw [if_pos hpq] at htk
          have HTK := Lib.hid htk
          have hd1 : ((p : Int) != (q : Int)) = true := by simp; omega
          clear htk
          go_wp2_with fail
          go_quiet ((with_reducible first | (go_at_call 54; exact quiet_pfN (D1.out _)) | (go_at_call 54; exact quiet_pfN (D2.out _))))
          all_goals
            have ho2 := ho.below (below_drewN (Below.refl wo.heap.size wo) nq)
            have hB2 := below_drewN hB nq
            have hz2 := hB2.size
            clear hB ho D1 D2
            go_wp2_with (at_builtin; refine push_int rfl (.tmp 36) (.tmp 41) rfl w.heap.size _ T (Y : Int) rfl ho2 rfl (by omega) hz2 ?_)
            intro v' wf of _ gf
            rw [← HTK.out] at of
            have hBf := hB2.grown gf hB2.size (fun k hk => (ho2.lt k hk).1)
            clear gf ho2 hB2
            go_wp2
            go_roundw
            case rel => exact ⟨i + 1, by omega, by go_num, of, hBf⟩
            case measure => simp [intOf]; omega
      · obtain rfl : i = M := by omega
        have etk : l.take i = l := by rw [HM.out, List.take_length]
        rw [etk, ← HR2.out] at ho
        clear etk
        go_wp2
        go_ret
        exact ⟨_, rfl, ho, hB⟩
end Go.Proofs.Ytoaiaindcmihjaa
