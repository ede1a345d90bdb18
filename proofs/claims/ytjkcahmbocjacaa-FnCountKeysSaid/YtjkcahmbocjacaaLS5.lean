/-
  laws.FnCountKeys: the walk.
-/
import Derived.Test.YtjkcahmbocjacaaECountKeys
import Derived.Test.YtjkcahmbocjacaaLeq
import Derived.Test.YtjkcahmbocjacaaDG
import Derived.Test.YtjkcahmbocjacaaLT
import Derived.Test.YtjkcahmbocjacaaLG
namespace Go.Proofs.Ytjkcahmbocjacaa
open Go.RowKit

theorem summ_sum (l : List Int) : summ l = l.sum := by
  induction l with
  | nil => rfl
  | cons x r ih => simp [summ, ih]
set_option maxHeartbeats 8000000 in
set_option maxRecDepth 100000 in
theorem lawFnCountKeys (a : Option Addr) (n cap : Nat) (w : World) (hB : Bytes w w.heap.size a n) (hn : n ≤ 9223372036854775807) (hc : n ≤ cap) :
    Calls Try.prog 8 #[.slice a n cap] w fun e w' => e = .returned (.bool true) ∧ Below w.heap.size w w' := by
  by_cases hbig : 1048576 < n
  · go_enter Try.func8, Try.ntmps8
    go_wp2
    go_ret
    exact ⟨rfl, Below.refl _ _⟩
  go_enter Try.func8, Try.ntmps8
  go_wp2_with fail
  refine (drawCountKeys_any a n cap w hB hn hc).mono ?_
  rintro e w1 ⟨ways, bits, v, l, rfl, hw, hb, ho, hl, hs, B1⟩
  clear hB hn hc
  obtain ⟨al, cl, rfl, hr, hlc, hcm, _⟩ := ho.form
  obtain ⟨ts, hts⟩ : ∃ ts, ts = CKs ways bits l := ⟨_, rfl⟩
  have bk : bulk ts ≤ 1048586 := by rw [hts]; have := CKs_bulk ways bits l; omega
  have bk2 : bulk ts ≤ 100 := by rw [hts]; exact CKs_bulk ways bits l
  have hrev : ts = CKs ways bits l.reverse := by rw [CKs_rev]; exact hts
  have CS := Lib.hid (fun wx (h : Reads wx al l) => specCountKeys_any ways bits al l cl wx h (by omega))
  have CI := Lib.hid (fun wx (h : Reads wx al l) => implCountKeys_any ways bits al l cl wx h (by omega))
  have CR := Lib.hid (fun a c wx (h : Reads wx a l.reverse) => implCountKeys_any ways bits a l.reverse c wx h (by rw [List.length_reverse]; omega))
  rw [← hts] at CS
  rw [← hts] at CI
  rw [← hrev] at CR
  rw [List.length_reverse] at CR
  have HTS := Lib.hid hts
  have blen := bulk_len ts
  have HS := Lib.hid hs
  clear hts hrev hlc hcm ho hs
  go_wp2_with fail
  refine (CI.out _ hr).mono ?_
  rintro e w2 ⟨hg, b2⟩
  obtain ⟨ag, cg, rfl, rg⟩ := hg.reads
  have hr2 := hr.below b2
  have B2 := B1.trans (b2.mono B1.size)
  clear hg b2 B1 hr
  go_wp2_with fail
  refine (CS.out _ hr2).mono ?_
  rintro e w3 ⟨hp, b3⟩
  obtain ⟨ap, cp, rfl, rp⟩ := hp.reads
  have hr3 := hr2.below b3
  have rg3 := rg.below b3
  have B3 := B2.trans (b3.mono B2.size)
  clear hp b3 B2 hr2 rg
  go_wp2_with fail
  refine (equalLists_self _ _ ts _ _ _ rg3 rp bk).mono ?_
  rintro e w4 ⟨rfl, b4⟩
  have hr4 := hr3.below b4
  have rg4 := rg3.below b4
  have B4 := B3.trans (b4.mono B3.size)
  clear b4 B3 hr3 rg3 rp
  by_cases h0 : ts.length = 0
  · have ets : ts = [] := List.eq_nil_of_length_eq_zero h0
    subst ets
    clear h0 HTS CR CI blen bk2
    rw [show ([] : List (List Int)).length = 0 from rfl]
    go_wp2_with fail
    refine (CS.out _ hr4).mono ?_
    rintro e w5 ⟨hp, b5⟩
    obtain ⟨ap, cp, rfl, rp⟩ := hp.reads
    have rg5 := rg4.below b5
    have B5 := B4.trans (b5.mono B4.size)
    rw [show ([] : List (List Int)).length = 0 from rfl]
    go_wp2_with fail
    refine (equalLists_self ag ap [] cg cp _ rg5 rp bk).mono ?_
    rintro e w6 ⟨rfl, b6⟩
    have B6 := B5.trans (b6.mono B5.size)
    go_wp2
    go_ret
    exact ⟨rfl, B6⟩
  · have h00 : ((ts.length : Int) == 0) = false := by simp; intro e; rw [e] at h0; exact h0 rfl
    have hvk : VCK ways bits l = true := by
      cases h : VCK ways bits l with
      | true => rfl
      | false => exact (h0 (by rw [HTS.out, CKs_false (by rw [h]; simp)]; rfl)).elim
    have h' := VCK_iff.1 hvk
    obtain ⟨hL, hG⟩ := CKs_get hvk
    rw [← HTS.out] at hL hG
    obtain ⟨W, rfl⟩ : ∃ W : Nat, ways = W := ⟨ways.toNat, by omega⟩
    obtain ⟨B, rfl⟩ : ∃ B : Nat, bits = B := ⟨bits.toNat, by omega⟩
    rw [Int.toNat_natCast] at hL hG
    have HG : Hid (∀ i, i < W → tr ts i = crow B i l) := hG
    have HL := Lib.hid hL
    have eL : ((ts.length : Int) == (W : Int)) = true := by simp [hL]
    have hW4 : W ≤ 4 := by omega
    have hB16 : 1 ≤ B ∧ B ≤ 16 := by omega
    have eB : ((B : Int) != (B : Int)) = false := by simp
    have el : ((l.length : Int) != (l.length : Int)) = false := by simp
    clear hvk h' hG hL h0
    go_wp2_with fail
    go_loop [7] (fun iv => ∃ i : Nat, i ≤ ts.length ∧ iv = .int .i64 (i : Int)) (fun iv => ts.length - (intOf iv).toNat)
    case atStart => exact ⟨0, by omega, rfl⟩
    case round =>
      obtain ⟨i, hi, rfl⟩ := hrel
      by_cases hlt : i < ts.length
      · have hi1 : (i : Int) < (ts.length : Int) := by omega
        obtain ⟨b, off, A, C, rfl, hbb, hci, hri, hle⟩ := rg4.get hlt
        have hcr := HG.out i (by rw [← HL.out]; exact hlt)
        have ct := fun wx (h : Reads wx A (crow B i l)) => total_any A (crow B i l) C wx h (by rw [crow_len]; omega) (fun x hx => by
          obtain ⟨k, hk, e⟩ := List.getElem_of_mem hx
          rw [crow_len] at hk
          have h1 := crow_le (i := i) hk l
          have h2 : (crow B i l).getD k 0 = x := by rw [← e]; simp [List.getD, List.getElem?_eq_getElem (show k < (crow B i l).length by rw [crow_len]; exact hk)]
          omega)
        rw [summ_sum, crow_sum hB16.1, crow_len] at ct
        rw [hcr, crow_len] at hci
        rw [hcr] at hri
        have CT := Lib.hid ct
        clear ct hcr hle
        go_wp2_with fail
        refine (CT.out _ hri).mono ?_
        rintro e w' ⟨rfl, rfl⟩
        go_wp2
        go_round
        case rel => exact ⟨i + 1, by omega, by go_num⟩
        case measure => simp [intOf]; omega
      · obtain rfl : i = ts.length := by omega
        go_wp2_with fail
        refine (turned_any al l cl _ hr4 (by omega)).mono ?_
        rintro e w5 ⟨v5, rfl, ho5, b5⟩
        obtain ⟨a5, c5, e5, hr5, _, _, _⟩ := ho5.form
        rw [List.length_reverse] at e5
        subst e5
        have rg5 := rg4.below b5
        have B5 := B4.trans (b5.mono B4.size)
        clear b5 B4 rg4 hr4 ho5
        go_wp2_with fail
        refine (CR.out _ _ _ hr5).mono ?_
        rintro e w6 ⟨hh, b6⟩
        obtain ⟨ah, ch, rfl, rh⟩ := hh.reads
        have rg6 := rg5.below b6
        have B6 := B5.trans (b6.mono B5.size)
        clear hh b6 B5 rg5 hr5
        go_wp2_with fail
        refine (equalLists_self _ _ ts _ _ _ rh rg6 bk).mono ?_
        rintro e w7 ⟨rfl, b7⟩
        have B7 := B6.trans (b7.mono B6.size)
        go_wp2
        go_ret
        exact ⟨rfl, B7⟩
end Go.Proofs.Ytjkcahmbocjacaa
