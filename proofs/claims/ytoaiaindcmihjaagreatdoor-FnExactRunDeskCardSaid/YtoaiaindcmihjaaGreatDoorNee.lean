/-
  laws.toStringS; the exact law of RunDesk, from a STAND-IN of impl's contract (practice).
-/
import Derived.Test.YtoaiaindcmihjaaGreatDoorMvc
import Derived.Test.YtoaiaindcmihjaaGreatDoorMvd
import Derived.Test.YtoaiaindcmihjaaGreatDoorMvh
namespace Go.Proofs.YtoaiaindcmihjaaGreatDoor
open Go.RowKit

/-- What toStringS has copied. -/
def copX (ls : List (List UInt8)) (k : Nat) : List (List UInt8) := ls.take k ++ List.replicate (ls.length - k) []
theorem copX_len (ls : List (List UInt8)) (k : Nat) (h : k ≤ ls.length) : (copX ls k).length = ls.length := by simp [copX]; omega
theorem copX_all (ls : List (List UInt8)) : copX ls ls.length = ls := by simp [copX]
theorem copX_succ {ls : List (List UInt8)} {k : Nat} (h : k < ls.length) : (copX ls k).set k (ls.getD k []) = copX ls (k + 1) := by
  have e : (ls.take k).length = k := by simp; omega
  unfold copX
  rw [List.set_append_right _ _ (by omega), e, Nat.sub_self, show ls.length - k = (ls.length - (k + 1)) + 1 by omega, List.replicate_succ, List.set_cons_zero, List.take_succ_eq_append_getElem h, List.append_assoc]
  simp [List.getD, h]
theorem strs_zero (n : Nat) : strs (List.replicate n []) = (madeCells #[.string ⟨#[]⟩] n).toList := by
  rw [toList_madeCells_one]
  unfold strs
  rw [List.map_replicate]
theorem strs_set (l : List (List UInt8)) (k : Nat) (y : List UInt8) : strs (l.set k y) = (strs l).set k (.string (B8 y)) := by unfold strs; rw [List.map_set]
set_option maxHeartbeats 4000000 in
theorem toStringS_any (a : Option Addr) (ls : List (List UInt8)) (cap : Nat) (w : World) (hr : ReadsX w a ls) (hl : ls.length ≤ 1048586) :
    Calls Tryz.prog 26 #[.slice a ls.length cap] w fun e w' => e = .returned (.slice (some ⟨w.heap.size, 0, none⟩) ls.length ls.length) ∧ OwnX w' w.heap.size (.slice (some ⟨w.heap.size, 0, none⟩) ls.length ls.length) ls ∧ Below w.heap.size w w' := by
  obtain ⟨i0, hi, hz0, hz1, hz2⟩ := info_parts infoStr
  go_enter Tryz.func26, Tryz.ntmps26
  go_wp2_with (refine wpList_make_full _ rfl _ _ 33 rfl w.heap.size 9 i0 (.string ⟨#[]⟩) 1 Tryz.underlying33 hi hz0 hz1 .i64 .i64 _ _ ls.length rfl rfl rfl rfl ?c1 ?c2 ?c3 ?_)
  case c1 => rw [hz2]; omega
  case c2 => unfold maxLen; omega
  case c3 => exact Nat.le_refl _
  intro w1 hown hgrow
  have hb1 : Below w.heap.size w w1 := (Below.refl _ _).grown hgrow (Nat.le_refl _) (fun k h => by cases h)
  have hown1 : w1.ownsRow w.heap.size 9 1 (.slice (some ⟨w.heap.size, 0, none⟩) ls.length ls.length) ls.length (strs (copX ls 0)) := by
    have e : copX ls 0 = List.replicate ls.length [] := by simp [copX]
    rw [e, strs_zero]; exact hown
  obtain ⟨M, hM⟩ : ∃ M, M = ls.length := ⟨_, rfl⟩
  have HM := Lib.hid hM
  rw [← hM] at hl hown1 ⊢
  clear hown hgrow hi hz0 hz1 hz2 hM
  go_wp2
  go_loopw [4] (fun iv wr => ∃ k : Nat, k ≤ M ∧ iv = .int .i64 k ∧ wr.ownsRow w.heap.size 9 1 (.slice (some ⟨w.heap.size, 0, none⟩) M M) M (strs (copX ls k)) ∧ Below w.heap.size w wr) (fun iv _ => M - (intOf iv).toNat)
  case atStart => exact ⟨0, Nat.zero_le _, rfl, hown1, hb1⟩
  case round =>
    clear hown1 hb1
    obtain ⟨k, hk, rfl, hown, hb⟩ := hrel
    have hsz := (World.ownsRow.lt hown w.heap.size rfl).2
    by_cases hlt : k < M
    · have hk1 : (k : Int) < (M : Int) := by omega
      have hkl : k < ls.length := by have := HM.out; omega
      obtain ⟨b, off, rfl, hbb, hcell⟩ := hr.get hkl
      have hcs := copX_succ hkl
      obtain ⟨s, hs⟩ : ∃ s, s = ls.getD k [] := ⟨_, rfl⟩
      rw [← hs] at hcell hcs
      have hc1 : wr.cell? ⟨b, off + k, none⟩ = some (.string (B8 s)) := (hb.cell (by exact hbb)).trans hcell
      obtain ⟨y, hc2⟩ : ∃ y, wr.cell? ⟨w.heap.size, k, none⟩ = some (.string y) := ⟨_, by
        rw [World.ownsRow.cellAt hown k (by omega)]
        exact strs_get (by rw [copX_len _ _ (by have := HM.out; omega)]; exact hkl)⟩
      have hf2 := World.ownsRow.frozenAt hown k
      obtain ⟨hst1, hst2⟩ := World.ownsRow.stored hown k (.string (B8 s))
      have hb2 := hb.setCell (p := ⟨w.heap.size, k, none⟩) (Nat.le_refl _) (.string (B8 s))
      rw [← strs_set, hcs] at hst1
      obtain ⟨S, hS⟩ : ∃ S, S = B8 s := ⟨_, rfl⟩
      rw [← hS] at hc1 hst1 hb2
      clear hst2 hcell hcs hs hS hkl hown hb
      go_wp2
      go_roundw
      case rel => exact ⟨k + 1, by omega, by go_num, hst1, hb2⟩
      case measure => simp [intOf]; omega
    · obtain rfl : k = M := by omega
      have e : copX ls k = ls := by rw [HM.out]; exact copX_all ls
      rw [e] at hown
      have ho : OwnX wr w.heap.size (.slice (some ⟨w.heap.size, 0, none⟩) k k) ls := by unfold OwnX; rw [← HM.out]; exact hown
      clear hown e
      go_wp2
      go_ret
      rw [← HM.out]
      exact ⟨rfl, ho, hb⟩
theorem OwnX.readsAt {wx : World} {b : Nat} {ax : Option Addr} {nx cx : Nat} {ls : List (List UInt8)} (h : OwnX wx b (.slice ax nx cx) ls) : ReadsX wx ax ls := by
  obtain ⟨a', c', e, h1, _⟩ := h.form
  injection e with e1 _ _
  rw [e1]; exact h1
set_option maxHeartbeats 4000000 in
theorem lawExactRunDesk (a : Option Addr) (ls : List (List UInt8)) (cap : Nat) (w : World) (hg : GD w) (hr : ReadsX w a ls) (hl : ls.length ≤ 9223372036854775807) (hs : ∀ s ∈ ls, s.length ≤ 9223372036854775807) :
    Calls Tryz.prog 7 #[.slice a ls.length cap] w fun e w' => e = .returned (.bool true) ∧ Below w.heap.size w w' := by
  have csz := szStringS_any a ls cap w hr hl hs
  have HG := Lib.hid hg
  clear hg
  by_cases hbig : 1048576 < bulkX ls
  · rw [if_pos hbig] at csz
    have CSZ := Lib.hid csz
    clear csz hbig
    go_enter Tryz.func7, Tryz.ntmps7
    go_wp2_with fail
    refine CSZ.out.mono ?_
    rintro e w1 ⟨rfl, rfl⟩
    go_wp2
    go_ret
    exact ⟨rfl, Below.refl _ _⟩
  rw [if_neg hbig] at csz
  have hll : ls.length ≤ 1048576 := by have := bulkX_len ls; omega
  have hss : ∀ s ∈ ls, s.length ≤ 1048576 := fun s h => by have := bulkX_row h; omega
  have h0 : ¬ (1048576 - (bulkX ls : Int)) < 0 := by omega
  obtain ⟨Z, hZ⟩ : ∃ Z : Int, Z = 1048576 - (bulkX ls : Int) := ⟨_, rfl⟩
  rw [← hZ] at csz h0
  have CSZ := Lib.hid csz
  have HSS := Lib.hid hss
  clear csz hbig hZ hss hs
  obtain ⟨R, hR⟩ : ∃ R, R = RDk ls := ⟨_, rfl⟩
  have cs := fun ax cx wx h => specRunDesk_any ax ls cx wx h (by omega) HSS.out
  have ci := fun ax cx wx hgx h (hx : ls.length ≤ cx) => implRunDesk_any ax ls cx wx hgx h (by omega) hx HSS.out
  rw [← hR] at cs ci
  have hlR := B8_list R
  obtain ⟨S, hS⟩ : ∃ S, S = B8 R := ⟨_, rfl⟩
  rw [← hS] at cs ci hlR
  have CS := Lib.hid cs
  have CI := Lib.hid ci
  have CT := Lib.hid (fun wx (h : ReadsX wx a ls) => toStringS_any a ls cap wx h (by omega))
  have CE := Lib.hid (fun a1 a2 c1 c2 wx (h1 : ReadsX wx a1 ls) (h2 : ReadsX wx a2 ls) => eqStringS_self a1 a2 ls c1 c2 wx h1 h2 (by omega))
  have hRR : (R != R) = false := by simp
  clear hR hS cs ci
  go_enter Tryz.func7, Tryz.ntmps7
  go_wp2_with fail
  refine CSZ.out.mono ?_
  rintro e w' ⟨rfl, rfl⟩
  go_wp2_with fail
  refine (CT.out _ hr).mono ?_
  rintro e w1 ⟨rfl, o1, b1⟩
  have B1 := b1
  go_wp2_with fail
  refine (CS.out _ _ _ o1.readsAt).mono ?_
  rintro e w2 ⟨rfl, b2⟩
  have B2 := B1.trans (b2.mono B1.size)
  clear o1 b2
  go_wp2_with fail
  refine (CT.out _ (hr.below B2)).mono ?_
  rintro e w3 ⟨rfl, o3, b3⟩
  have B3 := B2.trans (b3.mono B2.size)
  go_wp2_with fail
  refine (CI.out _ _ _ (GD.below HG.out B3) o3.readsAt (Nat.le_refl _)).mono ?_
  rintro e w4 ⟨rfl, b4⟩
  have B4 := B3.trans (b4.mono B3.size)
  have o4 := OwnX.below b4 o3
  clear b4 o3
  go_wp2_with fail
  refine (CT.out _ (hr.below B4)).mono ?_
  rintro e w5 ⟨rfl, o5, b5⟩
  have B5 := B4.trans (b5.mono B4.size)
  have o6 := OwnX.below b5 o4
  go_wp2_with fail
  refine (CE.out _ _ _ _ _ o6.readsAt o5.readsAt).mono ?_
  rintro e w6 ⟨rfl, n6, rfl⟩
  go_wp2
  go_ret
  exact ⟨rfl, below_drewN B5 n6⟩
theorem lawExactRunDeskX (a : Option Addr) (ls : List (List UInt8)) (cap : Nat) (w : World) (hg : GD w) (hr : ReadsX w a ls) (hs : XLen ls) :
    Calls Tryz.prog 7 #[.slice a ls.length cap] w fun e w' => e = .returned (.bool true) ∧ Below w.heap.size w w' := lawExactRunDesk a ls cap w hg hr hs.1 hs.2
end Go.Proofs.YtoaiaindcmihjaaGreatDoor
