/-
  spec.HowMany.
-/
import Derived.Test.YtjkcahmbocjacaaW8
namespace Go.Proofs.Ytjkcahmbocjacaa
open Go.RowKit

set_option maxHeartbeats 4000000 in
theorem specHowMany_any (b ww s : Int) (w : World) :
    Calls Try.prog 37 #[.agg #[.int .i64 b, .int .i64 ww, .int .i64 s]] w fun e w' => e = .returned (.int .i64 (HMS b ww s)) ∧ Below w.heap.size w w' := by
  have hbA := (Below.refl w.heap.size w).alloc (Nat.le_refl _) (.cells #[.int .i64 b, .int .i64 ww, .int .i64 s] 24)
  have x0 := SBox.new w b ww s
  obtain ⟨W0, hW0⟩ : ∃ W0, W0 = w.alloc (.cells #[.int .i64 b, .int .i64 ww, .int .i64 s] 24) := ⟨_, rfl⟩
  have hz : w.heap.size + 1 = W0.heap.size := by rw [hW0]; simp
  rw [← hW0] at hbA x0
  have HW0 := Lib.hid hW0
  have cv := specvalidSieve_any b ww s W0
  clear hW0
  obtain ⟨R, hR⟩ : ∃ R, R = HMS b ww s := ⟨_, rfl⟩
  rw [← hR]
  by_cases g1 : VSv b ww s = true
  · rw [g1] at cv
    obtain ⟨B, W, S, rfl, rfl, rfl, h1, h2, h3, h4, h5⟩ := VSv_nats g1
    have e : R = (hm B W S 93 : Int) := by rw [hR]; unfold HMS; rw [if_pos g1]; rfl
    have HR := Lib.hid e
    have C1 := Lib.hid cv
    clear cv g1 hR e
    go_enter Try.func37, Try.ntmps37
    go_wp2_with fail
    rw [← HW0.out]
    refine C1.out.mono ?_
    rintro e w1 ⟨rfl, b1⟩
    have x1 := x0.belowAll b1
    have bA := hbA.trans (b1.mono (by omega))
    clear x0 b1 hbA
    go_wp2_with fail
    go_loopw [3, 4] (fun nv kv wr => ∃ k n : Nat, k ≤ 93 ∧ kv = .int .i64 (k : Int) ∧ nv = .int .i64 (n : Int) ∧ Hid (n = hm B W S k) ∧ SBox wr w.heap.size B W S ∧ Below w.heap.size w wr) (fun _ kv _ => 93 - (intOf kv).toNat)
    case atStart => exact ⟨0, 0, by omega, rfl, rfl, rfl, x1, bA⟩
    case round =>
      clear x1 bA
      obtain ⟨k, n, hk, rfl, rfl, hn, hx, hb⟩ := hrel
      have hnk : n ≤ k := by rw [hn.out]; exact hm_le
      by_cases hlt : k < 93
      · have hk1 : (k : Int) ≤ 92 := by omega
        have cm := fun wx => marks_any B W k S wx h1 h2 h4 (by omega)
        have hst := hm_succ (bits := B) (ways := W) (s := S) (n := k)
        have hm16 := mkb_16 (key := k) (k := W) h1 h2
        obtain ⟨m, hm⟩ : ∃ m, m = mkb B k W := ⟨_, rfl⟩
        rw [← hm] at cm hm16 hst
        have han := bits_and_i64_nat m S (by omega) (by omega)
        obtain ⟨O, hO⟩ : ∃ O, O = m &&& S := ⟨_, rfl⟩
        rw [← hO] at han hst
        have heq := eqN O m
        have cm2 : ∀ wx, Hid (SBox wx w.heap.size B W S) → Hid (Below w.heap.size w wx) → Calls Try.prog 76 #[.agg #[.int .i64 (B : Int), .int .i64 (W : Int), .int .i64 (S : Int)], .int .i64 (k : Int)] wx fun e w' => e = .returned (.int .i64 (m : Int)) ∧
            w'.cell? ⟨w.heap.size, 0, none⟩ = some (.int .i64 (B : Int)) ∧ w'.cell? ⟨w.heap.size, 1, none⟩ = some (.int .i64 (W : Int)) ∧ w'.cell? ⟨w.heap.size, 2, none⟩ = some (.int .i64 (S : Int)) ∧ Hid (SBox w' w.heap.size B W S) ∧ Hid (Below w.heap.size w w') := by
          intro wx hx hb
          refine (cm wx).mono ?_
          rintro e w' ⟨rfl, b2⟩
          have x2 := hx.out.belowAll b2
          exact ⟨rfl, x2.c0, x2.c1, x2.c2, x2, hb.out.trans (b2.mono hb.out.size)⟩
        have p0 := hx.c0
        have p1 := hx.c1
        have p2 := hx.c2
        have CM := Lib.hid cm2
        have hxd : Hid (SBox wr.drew w.heap.size B W S) := hx
        have hbd : Hid (Below w.heap.size w wr.drew) := hb.drew
        by_cases hc : O = m
        · rw [if_pos hc, ← hn.out] at hst
          rw [decide_eq_true hc] at heq
          have HST := Lib.hid hst
          clear cm cm2 hm hO hst hc hx hb
          go_upto_region 7 with fail
          go_region_held3 (fun w' => w'.cell? ⟨w.heap.size, 0, none⟩ = some (.int .i64 (B : Int)) ∧ w'.cell? ⟨w.heap.size, 1, none⟩ = some (.int .i64 (W : Int)) ∧ w'.cell? ⟨w.heap.size, 2, none⟩ = some (.int .i64 (S : Int))) (first | exact ⟨s0, s1, s2⟩ | exact ⟨p0, p1, p2⟩ | go_keep)
            (first | (go_at_call 76; refine (CM.out _ hx hb).mono ?_; rintro e w3 ⟨rfl, s0, s1, s2, hx, hb⟩) | (go_at_call 76; refine (CM.out _ hxd hbd).mono ?_; rintro e w3 ⟨rfl, s0, s1, s2, hx, hb⟩))
          all_goals
            go_wp2_with fail
            go_roundw
            case rel => exact ⟨k + 1, n + 1, by omega, by go_num, by go_num, HST.out.symm, hx.out, hb.out⟩
            case measure => simp [intOf]; omega
        · rw [if_neg hc, ← hn.out] at hst
          rw [decide_eq_false hc] at heq
          have HST := Lib.hid hst
          clear cm cm2 hm hO hst hc hx hb
          go_upto_region 7 with fail
          go_region_held3 (fun w' => w'.cell? ⟨w.heap.size, 0, none⟩ = some (.int .i64 (B : Int)) ∧ w'.cell? ⟨w.heap.size, 1, none⟩ = some (.int .i64 (W : Int)) ∧ w'.cell? ⟨w.heap.size, 2, none⟩ = some (.int .i64 (S : Int))) (first | exact ⟨s0, s1, s2⟩ | exact ⟨p0, p1, p2⟩ | go_keep)
            (first | (go_at_call 76; refine (CM.out _ hx hb).mono ?_; rintro e w3 ⟨rfl, s0, s1, s2, hx, hb⟩) | (go_at_call 76; refine (CM.out _ hxd hbd).mono ?_; rintro e w3 ⟨rfl, s0, s1, s2, hx, hb⟩))
          all_goals
            go_wp2_with fail
            go_roundw
            case rel => exact ⟨k + 1, n, by omega, by go_num, rfl, HST.out.symm, hx.out, hb.out⟩
            case measure => simp [intOf]; omega
      · obtain rfl : k = 93 := by omega
        go_wp2
        go_ret
        exact ⟨ret_int (by rw [HR.out, hn.out]), hb⟩
  · have e : R = -1 := by rw [hR]; unfold HMS; rw [if_neg g1]
    subst e
    rw [eq_false_of_ne_true g1] at cv
    have C1 := Lib.hid cv
    clear cv g1 hR
    go_enter Try.func37, Try.ntmps37
    go_wp2_with fail
    rw [← HW0.out]
    refine C1.out.mono ?_
    rintro e w1 ⟨rfl, b1⟩
    have bA := hbA.trans (b1.mono (by omega))
    go_wp2
    go_ret
    exact ⟨rfl, bA⟩
end Go.Proofs.Ytjkcahmbocjacaa
