/-
  impl.LineMoves.
-/
import Derived.Test.YtoaiaindcmihjaaO8
import Derived.Test.YtoaiaindcmihjaaNG
namespace Go.Proofs.Ytoaiaindcmihjaa
open Go.RowKit

theorem filter_take {l : List Int} {i : Nat} {p : Int → Bool} (h : i < l.length) : (l.take (i + 1)).filter p = (l.take i).filter p ++ if p (l.getD i 0) = true then [l.getD i 0] else [] := by
  rw [take_snocN h, List.filter_append]
  by_cases g : p (l.getD i 0) = true
  · rw [if_pos g, List.filter_cons_of_pos g, List.filter_nil]
  · rw [if_neg g, List.filter_cons_of_neg g, List.filter_nil]
set_option maxHeartbeats 8000000 in
set_option maxRecDepth 100000 in
theorem implLineMoves_e (c : Int) (a : Option Addr) (l : List Int) (cap : Nat) (w : World) (hc : In64 c) (hr : Reads w a l) (hi : ∀ n ∈ l, In64 n) (hl : l.length ≤ 1048586) (_hcap : l.length ≤ cap) :
    Calls Try.prog 27 #[.int .i64 c, .slice a l.length cap] w fun e w' => ∃ v, e = .returned v ∧ Own w' w.heap.size v (LMV c l) ∧ Below w.heap.size w w' := by
  have c1 := fun wx => isLine_any c wx
  have c2 := fun wx (hb : Below w.heap.size w wx) => implvalidNames_any a l cap wx (hr.below hb) hl
  by_cases h1 : 1 ≤ c ∧ c ≤ 40
  · rw [decide_eq_true h1] at c1
    by_cases h2 : c = 40
    · subst h2
      rw [show LMV 40 l = [] from if_neg (fun h : VLm 40 l => by have := h.1.2; omega)]
      have D1 := Lib.hid c1
      clear c1 c2
      go_enter Try.func27, Try.ntmps27
      go_wp2_with (first
        | (go_at_call 51; refine (D1.out _).mono ?_; rintro e w' ⟨rfl, rfl⟩))
      go_ret
      exact ⟨_, rfl, Own.nil _ _, Below.refl _ _⟩
    · have h2' : (c == 40) = false := by rw [beq_eq_false_iff_ne]; exact h2
      cases hv : VNm l with
      | false =>
        rw [hv] at c2
        rw [show LMV c l = [] from if_neg (fun h : VLm c l => by have := h.2; rw [hv] at this; cases this)]
        have D1 := Lib.hid c1
        have D2 := Lib.hid c2
        clear c1 c2 hv
        go_enter Try.func27, Try.ntmps27
        go_wp2_with (first
          | (go_at_call 51; refine (D1.out _).mono ?_; rintro e w' ⟨rfl, rfl⟩)
          | (go_at_call 39; refine (D2.out _ (Below.refl _ _)).mono ?_; rintro e w' ⟨rfl, b2⟩))
        go_ret
        exact ⟨_, rfl, Own.nil _ _, b2⟩
      | true =>
        have hR : LMV c l = l.filter (fun x => decide (LNO c x ≠ LNO (c + 1) x)) := if_pos (show VLm c l from ⟨by omega, hv⟩)
        rw [hR]
        rw [hv] at c2
        have hl12 := (VNm_iff.1 hv).1
        have cq := fun x wx (hx : In64 x) => implLineOf_q c x wx hc hx
        have cq1 := fun x wx (hx : In64 x) => implLineOf_q (c + 1) x wx (by unfold In64 at hc ⊢; omega) hx
        have D1 := Lib.hid c1
        have D2 := Lib.hid c2
        have D3 := Lib.hid cq
        have D4 := Lib.hid cq1
        have hci : c ≤ 39 := by omega
        obtain ⟨M, hM⟩ : ∃ M, M = l.length := ⟨_, rfl⟩
        have HM := Lib.hid hM
        have HI := Lib.hid hi
        rw [← hM] at hl hl12 ⊢
        rw [← hM] at D2
        clear c1 c2 cq cq1 hv hR hM hi
        go_enter Try.func27, Try.ntmps27
        go_wp2_with (first
          | (go_at_call 51; refine (D1.out _).mono ?_; rintro e w' ⟨rfl, rfl⟩)
          | (go_at_call 39; refine (D2.out _ (Below.refl _ _)).mono ?_; rintro e w1 ⟨rfl, b1⟩))
        go_loopw [5, 22] (fun sv iv wr => ∃ i : Nat, i ≤ M ∧ iv = .int .i64 (i : Int) ∧ Own wr w.heap.size sv ((l.take i).filter (fun x => decide (LNO c x ≠ LNO (c + 1) x))) ∧ Below w.heap.size w wr) (fun _ iv _ => M - (intOf iv).toNat)
        case atStart => exact ⟨0, by omega, rfl, by simpa using Own.nil _ _, b1⟩
        case round =>
          clear b1
          rename World => wo
          obtain ⟨i, hi, rfl, ho, hB⟩ := hrel
          by_cases hlt : i < M
          · have hi1 : (i : Int) < (M : Int) := by omega
            obtain ⟨b, off, y, rfl, hb, hc0, hy⟩ := hr.get (k := i) (by have := HM.out; omega)
            have hcell : wo.cell? ⟨b, off + i, none⟩ = some (.int .i64 y) := (hB.cell (by exact hb)).trans hc0
            have hyr := HI.out y (by rw [← hy.out]; exact getD_mem (by have := HM.out; omega))
            have htk := filter_take (l := l) (i := i) (p := fun x => decide (LNO c x ≠ LNO (c + 1) x)) (by have := HM.out; omega)
            rw [hy.out] at htk
            have hz1 := hB.size
            have hlen := List.length_filter_le (fun x => decide (LNO c x ≠ LNO (c + 1) x)) (l.take i)
            rw [List.length_take] at hlen
            obtain ⟨T, hT⟩ : ∃ T, T = (l.take i).filter (fun x => decide (LNO c x ≠ LNO (c + 1) x)) := ⟨_, rfl⟩
            rw [← hT] at htk ho hlen
            have hl9 : T.length ≤ 12 := by omega
            obtain ⟨sa, sc, rfl, _, _, _, _⟩ := ho.form
            have c3 := fun wx => D3.out y wx hyr
            have c4 := fun wx => D4.out y wx hyr
            obtain ⟨p, hp⟩ : ∃ p, p = LNO c y := ⟨_, rfl⟩
            obtain ⟨q, hq⟩ : ∃ q, q = LNO (c + 1) y := ⟨_, rfl⟩
            rw [← hp] at c3
            rw [← hq] at c4
            simp only [← hp, ← hq] at htk
            have C3 := Lib.hid c3
            have C4 := Lib.hid c4
            clear hc0 hlen hT c3 c4 hp hq
            by_cases hpq : p ≠ q
            · rw [decide_eq_true hpq, if_pos rfl] at htk
              have HTK := Lib.hid htk
              have hd1 : (p != q) = true := by simpa using hpq
              clear htk
              go_wp2_with fail
              refine (C3.out _).mono ?_
              rintro en w' ⟨rfl, n3, rfl⟩
              go_wp2_with fail
              refine (C4.out _).mono ?_
              rintro en w' ⟨rfl, n4, rfl⟩
              have ho4 : Own (wo.drewN (n3 + n4)) w.heap.size (.slice sa T.length sc) T := ho
              have hB4 : Below w.heap.size w (wo.drewN (n3 + n4)) := below_drewN hB (n3 + n4)
              have hz4 := hB4.size
              clear hB hz1 ho
              go_wp2_with (at_builtin; refine push_int rfl (.tmp 34) (.tmp 36) rfl w.heap.size _ T y rfl ho4 rfl (by omega) hz4 ?_)
              intro v' wf of _ gf
              rw [← HTK.out] at of
              have hBf := hB4.grown gf hB4.size (fun k hk => (ho4.lt k hk).1)
              clear gf ho4 hB4
              go_wp2
              go_roundw
              case rel => exact ⟨i + 1, by omega, by go_num, of, hBf⟩
              case measure => simp [intOf]; omega
            · rw [decide_eq_false hpq, if_neg (by simp), List.append_nil] at htk
              have HTK := Lib.hid htk
              have hd1 : (p != q) = false := by simpa using hpq
              clear htk
              go_wp2_with fail
              refine (C3.out _).mono ?_
              rintro en w' ⟨rfl, n3, rfl⟩
              go_wp2_with fail
              refine (C4.out _).mono ?_
              rintro en w' ⟨rfl, n4, rfl⟩
              go_wp2
              go_roundw
              case rel => exact ⟨i + 1, by omega, by go_num, by rw [HTK.out]; exact ho, below_drewN hB (n3 + n4)⟩
              case measure => simp [intOf]; omega
          · obtain rfl : i = M := by omega
            rw [show l.take i = l by rw [HM.out, List.take_length]] at ho
            obtain ⟨sa, sc, rfl, _, _, _, _⟩ := ho.form
            go_wp2
            go_ret
            exact ⟨_, rfl, ho, hB⟩
  · rw [decide_eq_false h1] at c1
    rw [show LMV c l = [] from if_neg (fun h : VLm c l => h1 ⟨h.1.1, by have := h.1.2; omega⟩)]
    have D1 := Lib.hid c1
    clear c1 c2
    go_enter Try.func27, Try.ntmps27
    go_wp2_with (first
      | (go_at_call 51; refine (D1.out _).mono ?_; rintro e w' ⟨rfl, rfl⟩))
    go_ret
    exact ⟨_, rfl, Own.nil _ _, Below.refl _ _⟩
end Go.Proofs.Ytoaiaindcmihjaa
