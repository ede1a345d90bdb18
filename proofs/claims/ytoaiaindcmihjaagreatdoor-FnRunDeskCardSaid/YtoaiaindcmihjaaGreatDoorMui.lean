
import Derived.Test.YtoaiaindcmihjaaGreatDoorMuh
import Derived.Test.YtoaiaindcmihjaaGreatDoorMuc
import Derived.Test.YtoaiaindcmihjaaGreatDoorMud
import Derived.Shelf.Strings.Builder1
/-
  impl.answerTo. (Written by genok6.py.)
-/
namespace Go.Proofs.YtoaiaindcmihjaaGreatDoor
open Go.RowKit

theorem eq_nil (w : World) : (binOp .eql 25 .nilFunc .nilFunc).run Tryz.prog w = .ok (.bool true) w := by kernel_rfl
theorem pcs_room (b : List UInt8) : (pcs 44 b).length ≤ b.length + 1 := by unfold pcs; rw [List.length_append, List.length_singleton]; have := cut_len 44 b; omega
set_option maxHeartbeats 4000000 in
set_option maxRecDepth 100000 in
theorem answerTo_miss (s : List UInt8) (w : World) (hs : s.length ≤ 1048576) (h32 : (32 : UInt8) ∉ s) (hG : GD w) :
    Calls Tryz.prog 48 #[.string (B8 s)] w fun e w' => e = .returned (.string (B8 wWhat)) ∧ Below w.heap.size w w' := by
  have cC := cut_any s w hs hG.2
  rw [cutL_miss h32] at cC
  dsimp only at cC
  have cW := fun wx => answererOf_any s wx
  obtain ⟨S, hS⟩ : ∃ S, S = B8 s := ⟨_, rfl⟩
  rw [← hS] at cC cW ⊢
  have CC := Lib.hid cC
  have CW := Lib.hid cW
  clear cC cW hS hG h32 hs
  go_enter Tryz.func48, Tryz.ntmps48
  go_wp2_with fail
  refine CC.out.mono ?_
  rintro e w1 ⟨rfl, b1⟩
  have C2 := Lib.hid (CW.out w1)
  clear CC CW
  go_wp2_with fail
  refine C2.out.mono ?_
  rintro e w' ⟨v, rfl, rfl⟩
  go_wp2
  go_ret
  exact ⟨rfl, b1⟩
set_option maxHeartbeats 4000000 in
set_option maxRecDepth 100000 in
theorem answerTo_no (a b : List UInt8) (w : World) (hs : (a ++ 32 :: b).length ≤ 1048576) (ha : (32 : UInt8) ∉ a) (hw : isW a = false) (hG : GD w) :
    Calls Tryz.prog 48 #[.string (B8 (a ++ 32 :: b))] w fun e w' => e = .returned (.string (B8 wWhat)) ∧ Below w.heap.size w w' := by
  have hqf := eq_nil
  have cC := cut_any (a ++ 32 :: b) w hs hG.2
  rw [cutL_hit b ha] at cC
  dsimp only at cC
  have cW := fun wx => answererOf_no a wx hw
  obtain ⟨S, hS⟩ : ∃ S, S = B8 (a ++ 32 :: b) := ⟨_, rfl⟩
  obtain ⟨Sa, hSa⟩ : ∃ S, S = B8 a := ⟨_, rfl⟩
  obtain ⟨Sb, hSb⟩ : ∃ S, S = B8 b := ⟨_, rfl⟩
  rw [← hS] at cC ⊢
  rw [← hSa] at cC cW
  rw [← hSb] at cC
  have CC := Lib.hid cC
  have CW := Lib.hid cW
  clear cC cW hS hSa hSb hG ha hw hs
  go_enter Tryz.func48, Tryz.ntmps48
  go_wp2_with fail
  refine CC.out.mono ?_
  rintro e w1 ⟨rfl, b1⟩
  have C2 := Lib.hid (CW.out w1)
  clear CC CW
  go_wp2_with fail
  refine C2.out.mono ?_
  rintro e w' ⟨rfl, rfl⟩
  go_wp2
  go_ret
  exact ⟨rfl, b1⟩
theorem eq_Linear (w : World) : (binOp .eql 25 (.func (.func 94) #[] #[]) .nilFunc).run Tryz.prog w = .ok (.bool false) w := by kernel_rfl
set_option maxHeartbeats 8000000 in
set_option maxRecDepth 100000 in
theorem answerTo_Linear (b : List UInt8) (w : World) (hs : (wLinear ++ 32 :: b).length ≤ 1048576) (hG : GD w) :
    Calls Tryz.prog 48 #[.string (B8 (wLinear ++ 32 :: b))] w fun e w' => e = .returned (.string (B8 (ANS (wLinear ++ 32 :: b)))) ∧ Below w.heap.size w w' := by
  have ha : (32 : UInt8) ∉ wLinear := by decide
  have hqf := eq_Linear
  have hlb : b.length ≤ 1048576 := by rw [List.length_append, List.length_cons] at hs; omega
  have cC := cut_any (wLinear ++ 32 :: b) w hs hG.2
  rw [cutL_hit b ha] at cC
  dsimp only at cC
  have cW := fun wx => answererOf_Linear wx
  have cH := fun wx => has_any32 b wx
  have cS := fun wx h => split44_any b wx hlb h
  have hroom := pcs_room b
  have cN := fun ax cx wx h hg => readNumbers_any ax (pcs 44 b) cx wx h (by omega) (fun p hp => by have := pcs_lens hp; omega) hg
  have cA : ∀ ax l cx wx, Reads wx ax l → (∀ x ∈ l, In64 x) → l.length ≤ 1048586 → l.length ≤ cx → GN wx → Calls Tryz.prog 94 #[.slice ax l.length cx] wx fun e w' => e = .returned (.string (B8 (an3 wLinear l))) ∧ Below wx.heap.size wx w' := fun ax l cx wx hr hi hl hc hg => ansLinear_any ax l cx wx hr hi hl hc hg
  by_cases h32 : (32 : UInt8) ∈ b
  · rw [ANS_more ha h32]
    rw [decide_eq_true h32] at cH
    obtain ⟨S, hS⟩ : ∃ S, S = B8 (wLinear ++ 32 :: b) := ⟨_, rfl⟩
    obtain ⟨Sa, hSa⟩ : ∃ S, S = B8 wLinear := ⟨_, rfl⟩
    obtain ⟨Sb, hSb⟩ : ∃ S, S = B8 b := ⟨_, rfl⟩
    rw [← hS] at cC ⊢
    rw [← hSa] at cC cW
    rw [← hSb] at cC cH
    have CC := Lib.hid cC
    have CW := Lib.hid cW
    have CH := Lib.hid cH
    clear cC cW cH cS cN cA hS hSa hSb hG ha hs h32 hlb hroom
    go_enter Tryz.func48, Tryz.ntmps48
    go_wp2_with fail
    refine CC.out.mono ?_
    rintro e w1 ⟨rfl, b1⟩
    have C2 := Lib.hid (CW.out w1)
    have C3 := Lib.hid (CH.out w1)
    clear CC CW CH
    go_wp2_with fail
    refine C2.out.mono ?_
    rintro e w' ⟨rfl, rfl⟩
    go_wp2_with fail
    refine C3.out.mono ?_
    rintro e w' ⟨rfl, rfl⟩
    go_wp2
    go_ret
    exact ⟨rfl, b1⟩
  rw [ANS_two ha h32]
  have hAN := an2_an3 (a := wLinear) (b := b) rfl
  rw [decide_eq_false h32] at cH
  have hin := fun N => @rds_in64 (pcs 44 b) N
  have hrl := fun N => @rds_len (pcs 44 b) N
  obtain ⟨S, hS⟩ : ∃ S, S = B8 (wLinear ++ 32 :: b) := ⟨_, rfl⟩
  obtain ⟨Sa, hSa⟩ : ∃ S, S = B8 wLinear := ⟨_, rfl⟩
  obtain ⟨Sb, hSb⟩ : ∃ S, S = B8 b := ⟨_, rfl⟩
  obtain ⟨Fs, hFs⟩ : ∃ F, F = pcs 44 b := ⟨_, rfl⟩
  obtain ⟨R, hR⟩ : ∃ R, R = an2 wLinear (rls b) := ⟨_, rfl⟩
  rw [← hS] at cC ⊢
  rw [← hSa] at cC cW
  rw [← hSb] at cC cH cS
  rw [← hFs] at cS cN hAN hin hrl hroom
  rw [← hR] at hAN ⊢
  have CC := Lib.hid cC
  have CW := Lib.hid cW
  have CH := Lib.hid cH
  have CS := Lib.hid cS
  have HG := Lib.hid hG
  clear cC cW cH cS hS hSa hSb hFs hR hG ha hs h32
  cases hN : rds Fs with
  | none =>
    rw [hN] at hAN cN
    simp only [Option.isSome_none, Option.getD_none] at hAN cN
    subst hAN
    have CN := Lib.hid cN
    clear cN cA hin hrl hN hroom hlb
    go_enter Tryz.func48, Tryz.ntmps48
    go_wp2_with fail
    refine CC.out.mono ?_
    rintro e w1 ⟨rfl, b1⟩
    have C2 := Lib.hid (CW.out w1)
    have C3 := Lib.hid (CH.out w1)
    have C4 := Lib.hid (CS.out w1 (GD.below HG.out b1).2)
    clear CC CW CH CS
    go_wp2_with fail
    refine C2.out.mono ?_
    rintro e w' ⟨rfl, rfl⟩
    go_wp2_with fail
    refine C3.out.mono ?_
    rintro e w' ⟨rfl, rfl⟩
    go_wp2_with fail
    refine C4.out.mono ?_
    rintro e w2 ⟨a2, c2, rfl, -, r2, b2⟩
    have B2 := b1.trans (b2.mono b1.size)
    have C5 := Lib.hid (CN.out a2 c2 w2 r2 (GD.below HG.out B2).1)
    clear C2 C3 C4 CN r2 b1 b2
    go_wp2_with fail
    refine C5.out.mono ?_
    rintro e w3 ⟨v3, rfl, -, b3⟩
    have B3 := B2.trans (b3.mono B2.size)
    go_wp2
    go_ret
    exact ⟨rfl, B3⟩
  | some N =>
    rw [hN] at hAN cN
    simp only [Option.isSome_some, Option.getD_some] at hAN cN
    have hi := hin N hN
    have hlN := hrl N hN
    have hlN2 : N.length ≤ 1048586 := by omega
    have CN := Lib.hid cN
    have CA := Lib.hid (fun ax cx wx h1 h2 h3 => cA ax N cx wx h1 hi hlN2 h2 h3)
    obtain ⟨X, hX⟩ : ∃ X, X = an3 wLinear N := ⟨_, rfl⟩
    rw [← hX] at hAN CA
    have hta := B8_list X
    obtain ⟨SX, hSX⟩ : ∃ S, S = B8 X := ⟨_, rfl⟩
    rw [← hSX] at hta CA
    have HSX := Lib.hid hSX
    clear cN cA hin hrl hN hroom hlb hi hlN hX hSX
    by_cases hX0 : X = []
    · rw [if_pos hX0] at hAN
      subst hAN
      have hq : (X == ([] : List UInt8)) = true := by rw [hX0]; rfl
      clear hX0 HSX
      go_enter Tryz.func48, Tryz.ntmps48
      go_wp2_with fail
      refine CC.out.mono ?_
      rintro e w1 ⟨rfl, b1⟩
      have C2 := Lib.hid (CW.out w1)
      have C3 := Lib.hid (CH.out w1)
      have C4 := Lib.hid (CS.out w1 (GD.below HG.out b1).2)
      clear CC CW CH CS
      go_wp2_with fail
      refine C2.out.mono ?_
      rintro e w' ⟨rfl, rfl⟩
      go_wp2_with fail
      refine C3.out.mono ?_
      rintro e w' ⟨rfl, rfl⟩
      go_wp2_with fail
      refine C4.out.mono ?_
      rintro e w2 ⟨a2, c2, rfl, -, r2, b2⟩
      have B2 := b1.trans (b2.mono b1.size)
      have C5 := Lib.hid (CN.out a2 c2 w2 r2 (GD.below HG.out B2).1)
      clear C2 C3 C4 CN r2 b1 b2
      go_wp2_with fail
      refine C5.out.mono ?_
      rintro e w3 ⟨v3, rfl, o3, b3⟩
      have B3 := B2.trans (b3.mono B2.size)
      obtain ⟨a3, c3, rfl, r3, hc3, _, _⟩ := o3.form
      have C6 := Lib.hid (CA.out a3 c3 w3 r3 hc3 (GD.below HG.out B3).1)
      clear C5 CA r3 o3 b3 B2 hc3 HG
      go_wp2_with fail
      refine C6.out.mono ?_
      rintro e w4 ⟨rfl, b4⟩
      have B4 := B3.trans (b4.mono B3.size)
      clear C6 B3 b4
      go_wp2
      go_ret
      exact ⟨rfl, B4⟩
    · rw [if_neg hX0] at hAN
      have hq : (X == ([] : List UInt8)) = false := beq_false_of_ne hX0
      have HAN := Lib.hid hAN
      clear hX0 hAN
      go_enter Tryz.func48, Tryz.ntmps48
      go_wp2_with fail
      refine CC.out.mono ?_
      rintro e w1 ⟨rfl, b1⟩
      have C2 := Lib.hid (CW.out w1)
      have C3 := Lib.hid (CH.out w1)
      have C4 := Lib.hid (CS.out w1 (GD.below HG.out b1).2)
      clear CC CW CH CS
      go_wp2_with fail
      refine C2.out.mono ?_
      rintro e w' ⟨rfl, rfl⟩
      go_wp2_with fail
      refine C3.out.mono ?_
      rintro e w' ⟨rfl, rfl⟩
      go_wp2_with fail
      refine C4.out.mono ?_
      rintro e w2 ⟨a2, c2, rfl, -, r2, b2⟩
      have B2 := b1.trans (b2.mono b1.size)
      have C5 := Lib.hid (CN.out a2 c2 w2 r2 (GD.below HG.out B2).1)
      clear C2 C3 C4 CN r2 b1 b2
      go_wp2_with fail
      refine C5.out.mono ?_
      rintro e w3 ⟨v3, rfl, o3, b3⟩
      have B3 := B2.trans (b3.mono B2.size)
      obtain ⟨a3, c3, rfl, r3, hc3, _, _⟩ := o3.form
      have C6 := Lib.hid (CA.out a3 c3 w3 r3 hc3 (GD.below HG.out B3).1)
      clear C5 CA r3 o3 b3 B2 hc3 HG
      go_wp2_with fail
      refine C6.out.mono ?_
      rintro e w4 ⟨rfl, b4⟩
      have B4 := B3.trans (b4.mono B3.size)
      clear C6 B3 b4
      go_wp2
      go_ret
      exact ⟨(by rw [HSX.out, HAN.out]; rfl), B4⟩
theorem eq_Fair (w : World) : (binOp .eql 25 (.func (.func 97) #[] #[]) .nilFunc).run Tryz.prog w = .ok (.bool false) w := by kernel_rfl
set_option maxHeartbeats 8000000 in
set_option maxRecDepth 100000 in
theorem answerTo_Fair (b : List UInt8) (w : World) (hs : (wFair ++ 32 :: b).length ≤ 1048576) (hG : GD w) :
    Calls Tryz.prog 48 #[.string (B8 (wFair ++ 32 :: b))] w fun e w' => e = .returned (.string (B8 (ANS (wFair ++ 32 :: b)))) ∧ Below w.heap.size w w' := by
  have ha : (32 : UInt8) ∉ wFair := by decide
  have hqf := eq_Fair
  have hlb : b.length ≤ 1048576 := by rw [List.length_append, List.length_cons] at hs; omega
  have cC := cut_any (wFair ++ 32 :: b) w hs hG.2
  rw [cutL_hit b ha] at cC
  dsimp only at cC
  have cW := fun wx => answererOf_Fair wx
  have cH := fun wx => has_any32 b wx
  have cS := fun wx h => split44_any b wx hlb h
  have hroom := pcs_room b
  have cN := fun ax cx wx h hg => readNumbers_any ax (pcs 44 b) cx wx h (by omega) (fun p hp => by have := pcs_lens hp; omega) hg
  have cA : ∀ ax l cx wx, Reads wx ax l → (∀ x ∈ l, In64 x) → l.length ≤ 1048586 → l.length ≤ cx → GN wx → Calls Tryz.prog 97 #[.slice ax l.length cx] wx fun e w' => e = .returned (.string (B8 (an3 wFair l))) ∧ Below wx.heap.size wx w' := fun ax l cx wx hr hi hl hc hg => ansFair_any ax l cx wx hr hi hl hc hg
  by_cases h32 : (32 : UInt8) ∈ b
  · rw [ANS_more ha h32]
    rw [decide_eq_true h32] at cH
    obtain ⟨S, hS⟩ : ∃ S, S = B8 (wFair ++ 32 :: b) := ⟨_, rfl⟩
    obtain ⟨Sa, hSa⟩ : ∃ S, S = B8 wFair := ⟨_, rfl⟩
    obtain ⟨Sb, hSb⟩ : ∃ S, S = B8 b := ⟨_, rfl⟩
    rw [← hS] at cC ⊢
    rw [← hSa] at cC cW
    rw [← hSb] at cC cH
    have CC := Lib.hid cC
    have CW := Lib.hid cW
    have CH := Lib.hid cH
    clear cC cW cH cS cN cA hS hSa hSb hG ha hs h32 hlb hroom
    go_enter Tryz.func48, Tryz.ntmps48
    go_wp2_with fail
    refine CC.out.mono ?_
    rintro e w1 ⟨rfl, b1⟩
    have C2 := Lib.hid (CW.out w1)
    have C3 := Lib.hid (CH.out w1)
    clear CC CW CH
    go_wp2_with fail
    refine C2.out.mono ?_
    rintro e w' ⟨rfl, rfl⟩
    go_wp2_with fail
    refine C3.out.mono ?_
    rintro e w' ⟨rfl, rfl⟩
    go_wp2
    go_ret
    exact ⟨rfl, b1⟩
  rw [ANS_two ha h32]
  have hAN := an2_an3 (a := wFair) (b := b) rfl
  rw [decide_eq_false h32] at cH
  have hin := fun N => @rds_in64 (pcs 44 b) N
  have hrl := fun N => @rds_len (pcs 44 b) N
  obtain ⟨S, hS⟩ : ∃ S, S = B8 (wFair ++ 32 :: b) := ⟨_, rfl⟩
  obtain ⟨Sa, hSa⟩ : ∃ S, S = B8 wFair := ⟨_, rfl⟩
  obtain ⟨Sb, hSb⟩ : ∃ S, S = B8 b := ⟨_, rfl⟩
  obtain ⟨Fs, hFs⟩ : ∃ F, F = pcs 44 b := ⟨_, rfl⟩
  obtain ⟨R, hR⟩ : ∃ R, R = an2 wFair (rls b) := ⟨_, rfl⟩
  rw [← hS] at cC ⊢
  rw [← hSa] at cC cW
  rw [← hSb] at cC cH cS
  rw [← hFs] at cS cN hAN hin hrl hroom
  rw [← hR] at hAN ⊢
  have CC := Lib.hid cC
  have CW := Lib.hid cW
  have CH := Lib.hid cH
  have CS := Lib.hid cS
  have HG := Lib.hid hG
  clear cC cW cH cS hS hSa hSb hFs hR hG ha hs h32
  cases hN : rds Fs with
  | none =>
    rw [hN] at hAN cN
    simp only [Option.isSome_none, Option.getD_none] at hAN cN
    subst hAN
    have CN := Lib.hid cN
    clear cN cA hin hrl hN hroom hlb
    go_enter Tryz.func48, Tryz.ntmps48
    go_wp2_with fail
    refine CC.out.mono ?_
    rintro e w1 ⟨rfl, b1⟩
    have C2 := Lib.hid (CW.out w1)
    have C3 := Lib.hid (CH.out w1)
    have C4 := Lib.hid (CS.out w1 (GD.below HG.out b1).2)
    clear CC CW CH CS
    go_wp2_with fail
    refine C2.out.mono ?_
    rintro e w' ⟨rfl, rfl⟩
    go_wp2_with fail
    refine C3.out.mono ?_
    rintro e w' ⟨rfl, rfl⟩
    go_wp2_with fail
    refine C4.out.mono ?_
    rintro e w2 ⟨a2, c2, rfl, -, r2, b2⟩
    have B2 := b1.trans (b2.mono b1.size)
    have C5 := Lib.hid (CN.out a2 c2 w2 r2 (GD.below HG.out B2).1)
    clear C2 C3 C4 CN r2 b1 b2
    go_wp2_with fail
    refine C5.out.mono ?_
    rintro e w3 ⟨v3, rfl, -, b3⟩
    have B3 := B2.trans (b3.mono B2.size)
    go_wp2
    go_ret
    exact ⟨rfl, B3⟩
  | some N =>
    rw [hN] at hAN cN
    simp only [Option.isSome_some, Option.getD_some] at hAN cN
    have hi := hin N hN
    have hlN := hrl N hN
    have hlN2 : N.length ≤ 1048586 := by omega
    have CN := Lib.hid cN
    have CA := Lib.hid (fun ax cx wx h1 h2 h3 => cA ax N cx wx h1 hi hlN2 h2 h3)
    obtain ⟨X, hX⟩ : ∃ X, X = an3 wFair N := ⟨_, rfl⟩
    rw [← hX] at hAN CA
    have hta := B8_list X
    obtain ⟨SX, hSX⟩ : ∃ S, S = B8 X := ⟨_, rfl⟩
    rw [← hSX] at hta CA
    have HSX := Lib.hid hSX
    clear cN cA hin hrl hN hroom hlb hi hlN hX hSX
    by_cases hX0 : X = []
    · rw [if_pos hX0] at hAN
      subst hAN
      have hq : (X == ([] : List UInt8)) = true := by rw [hX0]; rfl
      clear hX0 HSX
      go_enter Tryz.func48, Tryz.ntmps48
      go_wp2_with fail
      refine CC.out.mono ?_
      rintro e w1 ⟨rfl, b1⟩
      have C2 := Lib.hid (CW.out w1)
      have C3 := Lib.hid (CH.out w1)
      have C4 := Lib.hid (CS.out w1 (GD.below HG.out b1).2)
      clear CC CW CH CS
      go_wp2_with fail
      refine C2.out.mono ?_
      rintro e w' ⟨rfl, rfl⟩
      go_wp2_with fail
      refine C3.out.mono ?_
      rintro e w' ⟨rfl, rfl⟩
      go_wp2_with fail
      refine C4.out.mono ?_
      rintro e w2 ⟨a2, c2, rfl, -, r2, b2⟩
      have B2 := b1.trans (b2.mono b1.size)
      have C5 := Lib.hid (CN.out a2 c2 w2 r2 (GD.below HG.out B2).1)
      clear C2 C3 C4 CN r2 b1 b2
      go_wp2_with fail
      refine C5.out.mono ?_
      rintro e w3 ⟨v3, rfl, o3, b3⟩
      have B3 := B2.trans (b3.mono B2.size)
      obtain ⟨a3, c3, rfl, r3, hc3, _, _⟩ := o3.form
      have C6 := Lib.hid (CA.out a3 c3 w3 r3 hc3 (GD.below HG.out B3).1)
      clear C5 CA r3 o3 b3 B2 hc3 HG
      go_wp2_with fail
      refine C6.out.mono ?_
      rintro e w4 ⟨rfl, b4⟩
      have B4 := B3.trans (b4.mono B3.size)
      clear C6 B3 b4
      go_wp2
      go_ret
      exact ⟨rfl, B4⟩
    · rw [if_neg hX0] at hAN
      have hq : (X == ([] : List UInt8)) = false := beq_false_of_ne hX0
      have HAN := Lib.hid hAN
      clear hX0 hAN
      go_enter Tryz.func48, Tryz.ntmps48
      go_wp2_with fail
      refine CC.out.mono ?_
      rintro e w1 ⟨rfl, b1⟩
      have C2 := Lib.hid (CW.out w1)
      have C3 := Lib.hid (CH.out w1)
      have C4 := Lib.hid (CS.out w1 (GD.below HG.out b1).2)
      clear CC CW CH CS
      go_wp2_with fail
      refine C2.out.mono ?_
      rintro e w' ⟨rfl, rfl⟩
      go_wp2_with fail
      refine C3.out.mono ?_
      rintro e w' ⟨rfl, rfl⟩
      go_wp2_with fail
      refine C4.out.mono ?_
      rintro e w2 ⟨a2, c2, rfl, -, r2, b2⟩
      have B2 := b1.trans (b2.mono b1.size)
      have C5 := Lib.hid (CN.out a2 c2 w2 r2 (GD.below HG.out B2).1)
      clear C2 C3 C4 CN r2 b1 b2
      go_wp2_with fail
      refine C5.out.mono ?_
      rintro e w3 ⟨v3, rfl, o3, b3⟩
      have B3 := B2.trans (b3.mono B2.size)
      obtain ⟨a3, c3, rfl, r3, hc3, _, _⟩ := o3.form
      have C6 := Lib.hid (CA.out a3 c3 w3 r3 hc3 (GD.below HG.out B3).1)
      clear C5 CA r3 o3 b3 B2 hc3 HG
      go_wp2_with fail
      refine C6.out.mono ?_
      rintro e w4 ⟨rfl, b4⟩
      have B4 := B3.trans (b4.mono B3.size)
      clear C6 B3 b4
      go_wp2
      go_ret
      exact ⟨(by rw [HSX.out, HAN.out]; rfl), B4⟩
theorem eq_Shares (w : World) : (binOp .eql 25 (.func (.func 99) #[] #[]) .nilFunc).run Tryz.prog w = .ok (.bool false) w := by kernel_rfl
set_option maxHeartbeats 8000000 in
set_option maxRecDepth 100000 in
theorem answerTo_Shares (b : List UInt8) (w : World) (hs : (wShares ++ 32 :: b).length ≤ 1048576) (hG : GD w) :
    Calls Tryz.prog 48 #[.string (B8 (wShares ++ 32 :: b))] w fun e w' => e = .returned (.string (B8 (ANS (wShares ++ 32 :: b)))) ∧ Below w.heap.size w w' := by
  have ha : (32 : UInt8) ∉ wShares := by decide
  have hqf := eq_Shares
  have hlb : b.length ≤ 1048576 := by rw [List.length_append, List.length_cons] at hs; omega
  have cC := cut_any (wShares ++ 32 :: b) w hs hG.2
  rw [cutL_hit b ha] at cC
  dsimp only at cC
  have cW := fun wx => answererOf_Shares wx
  have cH := fun wx => has_any32 b wx
  have cS := fun wx h => split44_any b wx hlb h
  have hroom := pcs_room b
  have cN := fun ax cx wx h hg => readNumbers_any ax (pcs 44 b) cx wx h (by omega) (fun p hp => by have := pcs_lens hp; omega) hg
  have cA : ∀ ax l cx wx, Reads wx ax l → (∀ x ∈ l, In64 x) → l.length ≤ 1048586 → l.length ≤ cx → GN wx → Calls Tryz.prog 99 #[.slice ax l.length cx] wx fun e w' => e = .returned (.string (B8 (an3 wShares l))) ∧ Below wx.heap.size wx w' := fun ax l cx wx hr hi hl hc hg => ansShares_any ax l cx wx hr hi hl hc hg
  by_cases h32 : (32 : UInt8) ∈ b
  · rw [ANS_more ha h32]
    rw [decide_eq_true h32] at cH
    obtain ⟨S, hS⟩ : ∃ S, S = B8 (wShares ++ 32 :: b) := ⟨_, rfl⟩
    obtain ⟨Sa, hSa⟩ : ∃ S, S = B8 wShares := ⟨_, rfl⟩
    obtain ⟨Sb, hSb⟩ : ∃ S, S = B8 b := ⟨_, rfl⟩
    rw [← hS] at cC ⊢
    rw [← hSa] at cC cW
    rw [← hSb] at cC cH
    have CC := Lib.hid cC
    have CW := Lib.hid cW
    have CH := Lib.hid cH
    clear cC cW cH cS cN cA hS hSa hSb hG ha hs h32 hlb hroom
    go_enter Tryz.func48, Tryz.ntmps48
    go_wp2_with fail
    refine CC.out.mono ?_
    rintro e w1 ⟨rfl, b1⟩
    have C2 := Lib.hid (CW.out w1)
    have C3 := Lib.hid (CH.out w1)
    clear CC CW CH
    go_wp2_with fail
    refine C2.out.mono ?_
    rintro e w' ⟨rfl, rfl⟩
    go_wp2_with fail
    refine C3.out.mono ?_
    rintro e w' ⟨rfl, rfl⟩
    go_wp2
    go_ret
    exact ⟨rfl, b1⟩
  rw [ANS_two ha h32]
  have hAN := an2_an3 (a := wShares) (b := b) rfl
  rw [decide_eq_false h32] at cH
  have hin := fun N => @rds_in64 (pcs 44 b) N
  have hrl := fun N => @rds_len (pcs 44 b) N
  obtain ⟨S, hS⟩ : ∃ S, S = B8 (wShares ++ 32 :: b) := ⟨_, rfl⟩
  obtain ⟨Sa, hSa⟩ : ∃ S, S = B8 wShares := ⟨_, rfl⟩
  obtain ⟨Sb, hSb⟩ : ∃ S, S = B8 b := ⟨_, rfl⟩
  obtain ⟨Fs, hFs⟩ : ∃ F, F = pcs 44 b := ⟨_, rfl⟩
  obtain ⟨R, hR⟩ : ∃ R, R = an2 wShares (rls b) := ⟨_, rfl⟩
  rw [← hS] at cC ⊢
  rw [← hSa] at cC cW
  rw [← hSb] at cC cH cS
  rw [← hFs] at cS cN hAN hin hrl hroom
  rw [← hR] at hAN ⊢
  have CC := Lib.hid cC
  have CW := Lib.hid cW
  have CH := Lib.hid cH
  have CS := Lib.hid cS
  have HG := Lib.hid hG
  clear cC cW cH cS hS hSa hSb hFs hR hG ha hs h32
  cases hN : rds Fs with
  | none =>
    rw [hN] at hAN cN
    simp only [Option.isSome_none, Option.getD_none] at hAN cN
    subst hAN
    have CN := Lib.hid cN
    clear cN cA hin hrl hN hroom hlb
    go_enter Tryz.func48, Tryz.ntmps48
    go_wp2_with fail
    refine CC.out.mono ?_
    rintro e w1 ⟨rfl, b1⟩
    have C2 := Lib.hid (CW.out w1)
    have C3 := Lib.hid (CH.out w1)
    have C4 := Lib.hid (CS.out w1 (GD.below HG.out b1).2)
    clear CC CW CH CS
    go_wp2_with fail
    refine C2.out.mono ?_
    rintro e w' ⟨rfl, rfl⟩
    go_wp2_with fail
    refine C3.out.mono ?_
    rintro e w' ⟨rfl, rfl⟩
    go_wp2_with fail
    refine C4.out.mono ?_
    rintro e w2 ⟨a2, c2, rfl, -, r2, b2⟩
    have B2 := b1.trans (b2.mono b1.size)
    have C5 := Lib.hid (CN.out a2 c2 w2 r2 (GD.below HG.out B2).1)
    clear C2 C3 C4 CN r2 b1 b2
    go_wp2_with fail
    refine C5.out.mono ?_
    rintro e w3 ⟨v3, rfl, -, b3⟩
    have B3 := B2.trans (b3.mono B2.size)
    go_wp2
    go_ret
    exact ⟨rfl, B3⟩
  | some N =>
    rw [hN] at hAN cN
    simp only [Option.isSome_some, Option.getD_some] at hAN cN
    have hi := hin N hN
    have hlN := hrl N hN
    have hlN2 : N.length ≤ 1048586 := by omega
    have CN := Lib.hid cN
    have CA := Lib.hid (fun ax cx wx h1 h2 h3 => cA ax N cx wx h1 hi hlN2 h2 h3)
    obtain ⟨X, hX⟩ : ∃ X, X = an3 wShares N := ⟨_, rfl⟩
    rw [← hX] at hAN CA
    have hta := B8_list X
    obtain ⟨SX, hSX⟩ : ∃ S, S = B8 X := ⟨_, rfl⟩
    rw [← hSX] at hta CA
    have HSX := Lib.hid hSX
    clear cN cA hin hrl hN hroom hlb hi hlN hX hSX
    by_cases hX0 : X = []
    · rw [if_pos hX0] at hAN
      subst hAN
      have hq : (X == ([] : List UInt8)) = true := by rw [hX0]; rfl
      clear hX0 HSX
      go_enter Tryz.func48, Tryz.ntmps48
      go_wp2_with fail
      refine CC.out.mono ?_
      rintro e w1 ⟨rfl, b1⟩
      have C2 := Lib.hid (CW.out w1)
      have C3 := Lib.hid (CH.out w1)
      have C4 := Lib.hid (CS.out w1 (GD.below HG.out b1).2)
      clear CC CW CH CS
      go_wp2_with fail
      refine C2.out.mono ?_
      rintro e w' ⟨rfl, rfl⟩
      go_wp2_with fail
      refine C3.out.mono ?_
      rintro e w' ⟨rfl, rfl⟩
      go_wp2_with fail
      refine C4.out.mono ?_
      rintro e w2 ⟨a2, c2, rfl, -, r2, b2⟩
      have B2 := b1.trans (b2.mono b1.size)
      have C5 := Lib.hid (CN.out a2 c2 w2 r2 (GD.below HG.out B2).1)
      clear C2 C3 C4 CN r2 b1 b2
      go_wp2_with fail
      refine C5.out.mono ?_
      rintro e w3 ⟨v3, rfl, o3, b3⟩
      have B3 := B2.trans (b3.mono B2.size)
      obtain ⟨a3, c3, rfl, r3, hc3, _, _⟩ := o3.form
      have C6 := Lib.hid (CA.out a3 c3 w3 r3 hc3 (GD.below HG.out B3).1)
      clear C5 CA r3 o3 b3 B2 hc3 HG
      go_wp2_with fail
      refine C6.out.mono ?_
      rintro e w4 ⟨rfl, b4⟩
      have B4 := B3.trans (b4.mono B3.size)
      clear C6 B3 b4
      go_wp2
      go_ret
      exact ⟨rfl, B4⟩
    · rw [if_neg hX0] at hAN
      have hq : (X == ([] : List UInt8)) = false := beq_false_of_ne hX0
      have HAN := Lib.hid hAN
      clear hX0 hAN
      go_enter Tryz.func48, Tryz.ntmps48
      go_wp2_with fail
      refine CC.out.mono ?_
      rintro e w1 ⟨rfl, b1⟩
      have C2 := Lib.hid (CW.out w1)
      have C3 := Lib.hid (CH.out w1)
      have C4 := Lib.hid (CS.out w1 (GD.below HG.out b1).2)
      clear CC CW CH CS
      go_wp2_with fail
      refine C2.out.mono ?_
      rintro e w' ⟨rfl, rfl⟩
      go_wp2_with fail
      refine C3.out.mono ?_
      rintro e w' ⟨rfl, rfl⟩
      go_wp2_with fail
      refine C4.out.mono ?_
      rintro e w2 ⟨a2, c2, rfl, -, r2, b2⟩
      have B2 := b1.trans (b2.mono b1.size)
      have C5 := Lib.hid (CN.out a2 c2 w2 r2 (GD.below HG.out B2).1)
      clear C2 C3 C4 CN r2 b1 b2
      go_wp2_with fail
      refine C5.out.mono ?_
      rintro e w3 ⟨v3, rfl, o3, b3⟩
      have B3 := B2.trans (b3.mono B2.size)
      obtain ⟨a3, c3, rfl, r3, hc3, _, _⟩ := o3.form
      have C6 := Lib.hid (CA.out a3 c3 w3 r3 hc3 (GD.below HG.out B3).1)
      clear C5 CA r3 o3 b3 B2 hc3 HG
      go_wp2_with fail
      refine C6.out.mono ?_
      rintro e w4 ⟨rfl, b4⟩
      have B4 := B3.trans (b4.mono B3.size)
      clear C6 B3 b4
      go_wp2
      go_ret
      exact ⟨(by rw [HSX.out, HAN.out]; rfl), B4⟩
theorem eq_Apart (w : World) : (binOp .eql 25 (.func (.func 101) #[] #[]) .nilFunc).run Tryz.prog w = .ok (.bool false) w := by kernel_rfl
set_option maxHeartbeats 8000000 in
set_option maxRecDepth 100000 in
theorem answerTo_Apart (b : List UInt8) (w : World) (hs : (wApart ++ 32 :: b).length ≤ 1048576) (hG : GD w) :
    Calls Tryz.prog 48 #[.string (B8 (wApart ++ 32 :: b))] w fun e w' => e = .returned (.string (B8 (ANS (wApart ++ 32 :: b)))) ∧ Below w.heap.size w w' := by
  have ha : (32 : UInt8) ∉ wApart := by decide
  have hqf := eq_Apart
  have hlb : b.length ≤ 1048576 := by rw [List.length_append, List.length_cons] at hs; omega
  have cC := cut_any (wApart ++ 32 :: b) w hs hG.2
  rw [cutL_hit b ha] at cC
  dsimp only at cC
  have cW := fun wx => answererOf_Apart wx
  have cH := fun wx => has_any32 b wx
  have cS := fun wx h => split44_any b wx hlb h
  have hroom := pcs_room b
  have cN := fun ax cx wx h hg => readNumbers_any ax (pcs 44 b) cx wx h (by omega) (fun p hp => by have := pcs_lens hp; omega) hg
  have cA : ∀ ax l cx wx, Reads wx ax l → (∀ x ∈ l, In64 x) → l.length ≤ 1048586 → l.length ≤ cx → GN wx → Calls Tryz.prog 101 #[.slice ax l.length cx] wx fun e w' => e = .returned (.string (B8 (an3 wApart l))) ∧ Below wx.heap.size wx w' := fun ax l cx wx hr hi hl hc hg => apartText_any ax l cx wx hr hi hl hc hg
  by_cases h32 : (32 : UInt8) ∈ b
  · rw [ANS_more ha h32]
    rw [decide_eq_true h32] at cH
    obtain ⟨S, hS⟩ : ∃ S, S = B8 (wApart ++ 32 :: b) := ⟨_, rfl⟩
    obtain ⟨Sa, hSa⟩ : ∃ S, S = B8 wApart := ⟨_, rfl⟩
    obtain ⟨Sb, hSb⟩ : ∃ S, S = B8 b := ⟨_, rfl⟩
    rw [← hS] at cC ⊢
    rw [← hSa] at cC cW
    rw [← hSb] at cC cH
    have CC := Lib.hid cC
    have CW := Lib.hid cW
    have CH := Lib.hid cH
    clear cC cW cH cS cN cA hS hSa hSb hG ha hs h32 hlb hroom
    go_enter Tryz.func48, Tryz.ntmps48
    go_wp2_with fail
    refine CC.out.mono ?_
    rintro e w1 ⟨rfl, b1⟩
    have C2 := Lib.hid (CW.out w1)
    have C3 := Lib.hid (CH.out w1)
    clear CC CW CH
    go_wp2_with fail
    refine C2.out.mono ?_
    rintro e w' ⟨rfl, rfl⟩
    go_wp2_with fail
    refine C3.out.mono ?_
    rintro e w' ⟨rfl, rfl⟩
    go_wp2
    go_ret
    exact ⟨rfl, b1⟩
  rw [ANS_two ha h32]
  have hAN := an2_an3 (a := wApart) (b := b) rfl
  rw [decide_eq_false h32] at cH
  have hin := fun N => @rds_in64 (pcs 44 b) N
  have hrl := fun N => @rds_len (pcs 44 b) N
  obtain ⟨S, hS⟩ : ∃ S, S = B8 (wApart ++ 32 :: b) := ⟨_, rfl⟩
  obtain ⟨Sa, hSa⟩ : ∃ S, S = B8 wApart := ⟨_, rfl⟩
  obtain ⟨Sb, hSb⟩ : ∃ S, S = B8 b := ⟨_, rfl⟩
  obtain ⟨Fs, hFs⟩ : ∃ F, F = pcs 44 b := ⟨_, rfl⟩
  obtain ⟨R, hR⟩ : ∃ R, R = an2 wApart (rls b) := ⟨_, rfl⟩
  rw [← hS] at cC ⊢
  rw [← hSa] at cC cW
  rw [← hSb] at cC cH cS
  rw [← hFs] at cS cN hAN hin hrl hroom
  rw [← hR] at hAN ⊢
  have CC := Lib.hid cC
  have CW := Lib.hid cW
  have CH := Lib.hid cH
  have CS := Lib.hid cS
  have HG := Lib.hid hG
  clear cC cW cH cS hS hSa hSb hFs hR hG ha hs h32
  cases hN : rds Fs with
  | none =>
    rw [hN] at hAN cN
    simp only [Option.isSome_none, Option.getD_none] at hAN cN
    subst hAN
    have CN := Lib.hid cN
    clear cN cA hin hrl hN hroom hlb
    go_enter Tryz.func48, Tryz.ntmps48
    go_wp2_with fail
    refine CC.out.mono ?_
    rintro e w1 ⟨rfl, b1⟩
    have C2 := Lib.hid (CW.out w1)
    have C3 := Lib.hid (CH.out w1)
    have C4 := Lib.hid (CS.out w1 (GD.below HG.out b1).2)
    clear CC CW CH CS
    go_wp2_with fail
    refine C2.out.mono ?_
    rintro e w' ⟨rfl, rfl⟩
    go_wp2_with fail
    refine C3.out.mono ?_
    rintro e w' ⟨rfl, rfl⟩
    go_wp2_with fail
    refine C4.out.mono ?_
    rintro e w2 ⟨a2, c2, rfl, -, r2, b2⟩
    have B2 := b1.trans (b2.mono b1.size)
    have C5 := Lib.hid (CN.out a2 c2 w2 r2 (GD.below HG.out B2).1)
    clear C2 C3 C4 CN r2 b1 b2
    go_wp2_with fail
    refine C5.out.mono ?_
    rintro e w3 ⟨v3, rfl, -, b3⟩
    have B3 := B2.trans (b3.mono B2.size)
    go_wp2
    go_ret
    exact ⟨rfl, B3⟩
  | some N =>
    rw [hN] at hAN cN
    simp only [Option.isSome_some, Option.getD_some] at hAN cN
    have hi := hin N hN
    have hlN := hrl N hN
    have hlN2 : N.length ≤ 1048586 := by omega
    have CN := Lib.hid cN
    have CA := Lib.hid (fun ax cx wx h1 h2 h3 => cA ax N cx wx h1 hi hlN2 h2 h3)
    obtain ⟨X, hX⟩ : ∃ X, X = an3 wApart N := ⟨_, rfl⟩
    rw [← hX] at hAN CA
    have hta := B8_list X
    obtain ⟨SX, hSX⟩ : ∃ S, S = B8 X := ⟨_, rfl⟩
    rw [← hSX] at hta CA
    have HSX := Lib.hid hSX
    clear cN cA hin hrl hN hroom hlb hi hlN hX hSX
    by_cases hX0 : X = []
    · rw [if_pos hX0] at hAN
      subst hAN
      have hq : (X == ([] : List UInt8)) = true := by rw [hX0]; rfl
      clear hX0 HSX
      go_enter Tryz.func48, Tryz.ntmps48
      go_wp2_with fail
      refine CC.out.mono ?_
      rintro e w1 ⟨rfl, b1⟩
      have C2 := Lib.hid (CW.out w1)
      have C3 := Lib.hid (CH.out w1)
      have C4 := Lib.hid (CS.out w1 (GD.below HG.out b1).2)
      clear CC CW CH CS
      go_wp2_with fail
      refine C2.out.mono ?_
      rintro e w' ⟨rfl, rfl⟩
      go_wp2_with fail
      refine C3.out.mono ?_
      rintro e w' ⟨rfl, rfl⟩
      go_wp2_with fail
      refine C4.out.mono ?_
      rintro e w2 ⟨a2, c2, rfl, -, r2, b2⟩
      have B2 := b1.trans (b2.mono b1.size)
      have C5 := Lib.hid (CN.out a2 c2 w2 r2 (GD.below HG.out B2).1)
      clear C2 C3 C4 CN r2 b1 b2
      go_wp2_with fail
      refine C5.out.mono ?_
      rintro e w3 ⟨v3, rfl, o3, b3⟩
      have B3 := B2.trans (b3.mono B2.size)
      obtain ⟨a3, c3, rfl, r3, hc3, _, _⟩ := o3.form
      have C6 := Lib.hid (CA.out a3 c3 w3 r3 hc3 (GD.below HG.out B3).1)
      clear C5 CA r3 o3 b3 B2 hc3 HG
      go_wp2_with fail
      refine C6.out.mono ?_
      rintro e w4 ⟨rfl, b4⟩
      have B4 := B3.trans (b4.mono B3.size)
      clear C6 B3 b4
      go_wp2
      go_ret
      exact ⟨rfl, B4⟩
    · rw [if_neg hX0] at hAN
      have hq : (X == ([] : List UInt8)) = false := beq_false_of_ne hX0
      have HAN := Lib.hid hAN
      clear hX0 hAN
      go_enter Tryz.func48, Tryz.ntmps48
      go_wp2_with fail
      refine CC.out.mono ?_
      rintro e w1 ⟨rfl, b1⟩
      have C2 := Lib.hid (CW.out w1)
      have C3 := Lib.hid (CH.out w1)
      have C4 := Lib.hid (CS.out w1 (GD.below HG.out b1).2)
      clear CC CW CH CS
      go_wp2_with fail
      refine C2.out.mono ?_
      rintro e w' ⟨rfl, rfl⟩
      go_wp2_with fail
      refine C3.out.mono ?_
      rintro e w' ⟨rfl, rfl⟩
      go_wp2_with fail
      refine C4.out.mono ?_
      rintro e w2 ⟨a2, c2, rfl, -, r2, b2⟩
      have B2 := b1.trans (b2.mono b1.size)
      have C5 := Lib.hid (CN.out a2 c2 w2 r2 (GD.below HG.out B2).1)
      clear C2 C3 C4 CN r2 b1 b2
      go_wp2_with fail
      refine C5.out.mono ?_
      rintro e w3 ⟨v3, rfl, o3, b3⟩
      have B3 := B2.trans (b3.mono B2.size)
      obtain ⟨a3, c3, rfl, r3, hc3, _, _⟩ := o3.form
      have C6 := Lib.hid (CA.out a3 c3 w3 r3 hc3 (GD.below HG.out B3).1)
      clear C5 CA r3 o3 b3 B2 hc3 HG
      go_wp2_with fail
      refine C6.out.mono ?_
      rintro e w4 ⟨rfl, b4⟩
      have B4 := B3.trans (b4.mono B3.size)
      clear C6 B3 b4
      go_wp2
      go_ret
      exact ⟨(by rw [HSX.out, HAN.out]; rfl), B4⟩
theorem eq_Tree (w : World) : (binOp .eql 25 (.func (.func 9) #[] #[]) .nilFunc).run Tryz.prog w = .ok (.bool false) w := by kernel_rfl
set_option maxHeartbeats 8000000 in
set_option maxRecDepth 100000 in
theorem answerTo_Tree (b : List UInt8) (w : World) (hs : (wTree ++ 32 :: b).length ≤ 1048576) (hG : GD w) :
    Calls Tryz.prog 48 #[.string (B8 (wTree ++ 32 :: b))] w fun e w' => e = .returned (.string (B8 (ANS (wTree ++ 32 :: b)))) ∧ Below w.heap.size w w' := by
  have ha : (32 : UInt8) ∉ wTree := by decide
  have hqf := eq_Tree
  have hlb : b.length ≤ 1048576 := by rw [List.length_append, List.length_cons] at hs; omega
  have cC := cut_any (wTree ++ 32 :: b) w hs hG.2
  rw [cutL_hit b ha] at cC
  dsimp only at cC
  have cW := fun wx => answererOf_Tree wx
  have cH := fun wx => has_any32 b wx
  have cS := fun wx h => split44_any b wx hlb h
  have hroom := pcs_room b
  have cN := fun ax cx wx h hg => readNumbers_any ax (pcs 44 b) cx wx h (by omega) (fun p hp => by have := pcs_lens hp; omega) hg
  have cA : ∀ ax l cx wx, Reads wx ax l → (∀ x ∈ l, In64 x) → l.length ≤ 1048586 → l.length ≤ cx → GN wx → Calls Tryz.prog 9 #[.slice ax l.length cx] wx fun e w' => e = .returned (.string (B8 (an3 wTree l))) ∧ Below wx.heap.size wx w' := fun ax l cx wx hr hi hl hc hg => implTreeText_e ax l cx wx hr hi hl hc
  by_cases h32 : (32 : UInt8) ∈ b
  · rw [ANS_more ha h32]
    rw [decide_eq_true h32] at cH
    obtain ⟨S, hS⟩ : ∃ S, S = B8 (wTree ++ 32 :: b) := ⟨_, rfl⟩
    obtain ⟨Sa, hSa⟩ : ∃ S, S = B8 wTree := ⟨_, rfl⟩
    obtain ⟨Sb, hSb⟩ : ∃ S, S = B8 b := ⟨_, rfl⟩
    rw [← hS] at cC ⊢
    rw [← hSa] at cC cW
    rw [← hSb] at cC cH
    have CC := Lib.hid cC
    have CW := Lib.hid cW
    have CH := Lib.hid cH
    clear cC cW cH cS cN cA hS hSa hSb hG ha hs h32 hlb hroom
    go_enter Tryz.func48, Tryz.ntmps48
    go_wp2_with fail
    refine CC.out.mono ?_
    rintro e w1 ⟨rfl, b1⟩
    have C2 := Lib.hid (CW.out w1)
    have C3 := Lib.hid (CH.out w1)
    clear CC CW CH
    go_wp2_with fail
    refine C2.out.mono ?_
    rintro e w' ⟨rfl, rfl⟩
    go_wp2_with fail
    refine C3.out.mono ?_
    rintro e w' ⟨rfl, rfl⟩
    go_wp2
    go_ret
    exact ⟨rfl, b1⟩
  rw [ANS_two ha h32]
  have hAN := an2_an3 (a := wTree) (b := b) rfl
  rw [decide_eq_false h32] at cH
  have hin := fun N => @rds_in64 (pcs 44 b) N
  have hrl := fun N => @rds_len (pcs 44 b) N
  obtain ⟨S, hS⟩ : ∃ S, S = B8 (wTree ++ 32 :: b) := ⟨_, rfl⟩
  obtain ⟨Sa, hSa⟩ : ∃ S, S = B8 wTree := ⟨_, rfl⟩
  obtain ⟨Sb, hSb⟩ : ∃ S, S = B8 b := ⟨_, rfl⟩
  obtain ⟨Fs, hFs⟩ : ∃ F, F = pcs 44 b := ⟨_, rfl⟩
  obtain ⟨R, hR⟩ : ∃ R, R = an2 wTree (rls b) := ⟨_, rfl⟩
  rw [← hS] at cC ⊢
  rw [← hSa] at cC cW
  rw [← hSb] at cC cH cS
  rw [← hFs] at cS cN hAN hin hrl hroom
  rw [← hR] at hAN ⊢
  have CC := Lib.hid cC
  have CW := Lib.hid cW
  have CH := Lib.hid cH
  have CS := Lib.hid cS
  have HG := Lib.hid hG
  clear cC cW cH cS hS hSa hSb hFs hR hG ha hs h32
  cases hN : rds Fs with
  | none =>
    rw [hN] at hAN cN
    simp only [Option.isSome_none, Option.getD_none] at hAN cN
    subst hAN
    have CN := Lib.hid cN
    clear cN cA hin hrl hN hroom hlb
    go_enter Tryz.func48, Tryz.ntmps48
    go_wp2_with fail
    refine CC.out.mono ?_
    rintro e w1 ⟨rfl, b1⟩
    have C2 := Lib.hid (CW.out w1)
    have C3 := Lib.hid (CH.out w1)
    have C4 := Lib.hid (CS.out w1 (GD.below HG.out b1).2)
    clear CC CW CH CS
    go_wp2_with fail
    refine C2.out.mono ?_
    rintro e w' ⟨rfl, rfl⟩
    go_wp2_with fail
    refine C3.out.mono ?_
    rintro e w' ⟨rfl, rfl⟩
    go_wp2_with fail
    refine C4.out.mono ?_
    rintro e w2 ⟨a2, c2, rfl, -, r2, b2⟩
    have B2 := b1.trans (b2.mono b1.size)
    have C5 := Lib.hid (CN.out a2 c2 w2 r2 (GD.below HG.out B2).1)
    clear C2 C3 C4 CN r2 b1 b2
    go_wp2_with fail
    refine C5.out.mono ?_
    rintro e w3 ⟨v3, rfl, -, b3⟩
    have B3 := B2.trans (b3.mono B2.size)
    go_wp2
    go_ret
    exact ⟨rfl, B3⟩
  | some N =>
    rw [hN] at hAN cN
    simp only [Option.isSome_some, Option.getD_some] at hAN cN
    have hi := hin N hN
    have hlN := hrl N hN
    have hlN2 : N.length ≤ 1048586 := by omega
    have CN := Lib.hid cN
    have CA := Lib.hid (fun ax cx wx h1 h2 h3 => cA ax N cx wx h1 hi hlN2 h2 h3)
    obtain ⟨X, hX⟩ : ∃ X, X = an3 wTree N := ⟨_, rfl⟩
    rw [← hX] at hAN CA
    have hta := B8_list X
    obtain ⟨SX, hSX⟩ : ∃ S, S = B8 X := ⟨_, rfl⟩
    rw [← hSX] at hta CA
    have HSX := Lib.hid hSX
    clear cN cA hin hrl hN hroom hlb hi hlN hX hSX
    by_cases hX0 : X = []
    · rw [if_pos hX0] at hAN
      subst hAN
      have hq : (X == ([] : List UInt8)) = true := by rw [hX0]; rfl
      clear hX0 HSX
      go_enter Tryz.func48, Tryz.ntmps48
      go_wp2_with fail
      refine CC.out.mono ?_
      rintro e w1 ⟨rfl, b1⟩
      have C2 := Lib.hid (CW.out w1)
      have C3 := Lib.hid (CH.out w1)
      have C4 := Lib.hid (CS.out w1 (GD.below HG.out b1).2)
      clear CC CW CH CS
      go_wp2_with fail
      refine C2.out.mono ?_
      rintro e w' ⟨rfl, rfl⟩
      go_wp2_with fail
      refine C3.out.mono ?_
      rintro e w' ⟨rfl, rfl⟩
      go_wp2_with fail
      refine C4.out.mono ?_
      rintro e w2 ⟨a2, c2, rfl, -, r2, b2⟩
      have B2 := b1.trans (b2.mono b1.size)
      have C5 := Lib.hid (CN.out a2 c2 w2 r2 (GD.below HG.out B2).1)
      clear C2 C3 C4 CN r2 b1 b2
      go_wp2_with fail
      refine C5.out.mono ?_
      rintro e w3 ⟨v3, rfl, o3, b3⟩
      have B3 := B2.trans (b3.mono B2.size)
      obtain ⟨a3, c3, rfl, r3, hc3, _, _⟩ := o3.form
      have C6 := Lib.hid (CA.out a3 c3 w3 r3 hc3 (GD.below HG.out B3).1)
      clear C5 CA r3 o3 b3 B2 hc3 HG
      go_wp2_with fail
      refine C6.out.mono ?_
      rintro e w4 ⟨rfl, b4⟩
      have B4 := B3.trans (b4.mono B3.size)
      clear C6 B3 b4
      go_wp2
      go_ret
      exact ⟨rfl, B4⟩
    · rw [if_neg hX0] at hAN
      have hq : (X == ([] : List UInt8)) = false := beq_false_of_ne hX0
      have HAN := Lib.hid hAN
      clear hX0 hAN
      go_enter Tryz.func48, Tryz.ntmps48
      go_wp2_with fail
      refine CC.out.mono ?_
      rintro e w1 ⟨rfl, b1⟩
      have C2 := Lib.hid (CW.out w1)
      have C3 := Lib.hid (CH.out w1)
      have C4 := Lib.hid (CS.out w1 (GD.below HG.out b1).2)
      clear CC CW CH CS
      go_wp2_with fail
      refine C2.out.mono ?_
      rintro e w' ⟨rfl, rfl⟩
      go_wp2_with fail
      refine C3.out.mono ?_
      rintro e w' ⟨rfl, rfl⟩
      go_wp2_with fail
      refine C4.out.mono ?_
      rintro e w2 ⟨a2, c2, rfl, -, r2, b2⟩
      have B2 := b1.trans (b2.mono b1.size)
      have C5 := Lib.hid (CN.out a2 c2 w2 r2 (GD.below HG.out B2).1)
      clear C2 C3 C4 CN r2 b1 b2
      go_wp2_with fail
      refine C5.out.mono ?_
      rintro e w3 ⟨v3, rfl, o3, b3⟩
      have B3 := B2.trans (b3.mono B2.size)
      obtain ⟨a3, c3, rfl, r3, hc3, _, _⟩ := o3.form
      have C6 := Lib.hid (CA.out a3 c3 w3 r3 hc3 (GD.below HG.out B3).1)
      clear C5 CA r3 o3 b3 B2 hc3 HG
      go_wp2_with fail
      refine C6.out.mono ?_
      rintro e w4 ⟨rfl, b4⟩
      have B4 := B3.trans (b4.mono B3.size)
      clear C6 B3 b4
      go_wp2
      go_ret
      exact ⟨(by rw [HSX.out, HAN.out]; rfl), B4⟩
/-- The answer to a line. -/
theorem answerTo_any (s : List UInt8) (w : World) (hs : s.length ≤ 1048576) (hG : GD w) :
    Calls Tryz.prog 48 #[.string (B8 s)] w fun e w' => e = .returned (.string (B8 (ANS s))) ∧ Below w.heap.size w w' := by
  by_cases h : (32 : UInt8) ∈ s
  · obtain ⟨a, b, rfl, ha⟩ := first_at h
    cases hw : isW a with
    | false =>
      have e : ANS (a ++ 32 :: b) = wWhat := by
        by_cases h2 : (32 : UInt8) ∈ b
        · exact ANS_more ha h2
        · rw [ANS_two ha h2, an2_no hw]
      rw [e]
      exact answerTo_no a b w hs ha hw hG
    | true =>
      unfold isW at hw
      simp only [Bool.or_eq_true, decide_eq_true_eq] at hw
      rcases hw with (((hw | hw) | hw) | hw) | hw <;> subst hw
      · exact answerTo_Linear b w hs hG
      · exact answerTo_Fair b w hs hG
      · exact answerTo_Shares b w hs hG
      · exact answerTo_Apart b w hs hG
      · exact answerTo_Tree b w hs hG
  · rw [ANS_miss h]
    exact answerTo_miss s w hs h hG
end Go.Proofs.YtoaiaindcmihjaaGreatDoor
/-
  impl.RunDesk.
-/
namespace Go.Proofs.YtoaiaindcmihjaaGreatDoor
open Go.RowKit

/-- A builder of the call's own that holds a text. -/
def BX (B b : Nat) (T : List UInt8) (w : World) : Prop := Go.Lib.IsBuilder 68 5 B b (Go.Lib.byteCells T) w
theorem BX.below {B b : Nat} {T : List UInt8} {w w' : World} (h : BX B b T w) (hb : Below w.heap.size w w') : BX B b T w' := by
  have one : ∀ {p : Value}, Go.Lib.BuilderAt 68 5 B b p (Go.Lib.byteCells T) w → Go.Lib.BuilderAt 68 5 B b p (Go.Lib.byteCells T) w' := by
    intro p h
    have hlt := h.lt
    obtain ⟨h1, v, h2, h3, h4⟩ := h
    refine ⟨h1, v, (hb.block b hlt).trans h2, ?_, h4⟩
    exact World.ownsRow.kept h3 (row := none) ⟨hb.os, hb.tape, hb.output, hb.size, fun i hi _ => hb.block i hi⟩ (by cases hv : v.ownBlock with | none => exact .inl rfl | some q => exact .inr (fun e => by cases e))
  exact h.imp one one
theorem ws_any (B b : Nat) (T y : List UInt8) (w : World) (h : BX B b T w) (hl : T.length + y.length ≤ 1000000) (hBw : B ≤ w.heap.size) :
    Calls Tryz.prog 47 #[.pointer (some ⟨b, 0, none⟩), .string (B8 y)] w fun e w' => (∃ v, e = .returned v) ∧ BX B b (T ++ y) w' ∧ Below B w w' := by
  refine (Any.Builder_WriteString { Tryz.joinA with } Tryz.joinX B b (Go.Lib.byteCells T) (B8 y) w h (by rw [Go.Lib.byteCells_length, B8_size]; omega) hBw).mono ?_
  rintro e w' ⟨rfl, h1, h2⟩
  refine ⟨⟨_, rfl⟩, .inr ?_, h2⟩
  rw [Go.Lib.byteCells_append]
  exact h1
theorem bs_any (B b : Nat) (T : List UInt8) (w : World) (h : BX B b T w) (hBw : B ≤ w.heap.size) :
    Calls Tryz.prog 49 #[.pointer (some ⟨b, 0, none⟩)] w fun e w' => e = .returned (.string (B8 T)) ∧ Below B w w' :=
  Any.Builder_String_any { Tryz.joinA with } Tryz.joinX B b T w h hBw
theorem fresh_BX (w : World) : BX w.heap.size w.heap.size [] (w.alloc (.cells #[.pointer none, .slice none 0 0] 68)) := Go.Lib.fresh_isBuilder _ _ w
set_option maxHeartbeats 8000000 in
set_option maxRecDepth 100000 in
theorem implRunDesk_any (a : Option Addr) (ls : List (List UInt8)) (cap : Nat) (w : World) (hG : GD w) (hr : ReadsX w a ls) (hl : ls.length ≤ 1048586) (_hcap : ls.length ≤ cap) (hs : ∀ s ∈ ls, s.length ≤ 1048576) : Calls Tryz.prog 19 #[.slice a ls.length cap] w fun e w' => e = .returned (.string (B8 (RDk ls))) ∧ Below w.heap.size w w' := by
  obtain ⟨M, hM⟩ : ∃ M, M = ls.length := ⟨_, rfl⟩
  obtain ⟨R, hR⟩ : ∃ R, R = RDk ls := ⟨_, rfl⟩
  have HM := Lib.hid hM
  have HR := Lib.hid hR
  have HS := Lib.hid hs
  have HG := Lib.hid hG
  rw [← hR]
  rw [← hM] at hl ⊢
  clear hM hR hs hG _hcap
  by_cases h20 : M ≤ 20
  rotate_left
  · have hRn : R = [] := by rw [HR.out]; unfold RDk; rw [if_neg (by rw [← HM.out]; exact h20)]
    subst hRn
    have h1 : (M : Int) > 20 := by omega
    go_enter Tryz.func19, Tryz.ntmps19
    go_wp2
    go_ret
    exact ⟨rfl, Below.refl _ _⟩
  have h1 : ¬ (M : Int) > 20 := by omega
  have hR2 : R = rdk ls := by rw [HR.out]; exact RDk_rdk (by rw [← HM.out]; exact h20)
  have HR2 := Lib.hid hR2
  have bx0 := fresh_BX w
  have Bw := (Below.refl w.heap.size w).alloc (Nat.le_refl _) (.cells #[.pointer none, .slice none 0 0] 68)
  clear hR2 HR
  go_enter Tryz.func19, Tryz.ntmps19
  go_wp2
  go_loopw [11] (fun iv wr => ∃ (i : Nat) (T : List UInt8), i ≤ M ∧ iv = .int .i64 (i : Int) ∧ BX w.heap.size w.heap.size T wr ∧ Hid (T = rdk (ls.take i)) ∧ T.length ≤ 1001 * i ∧ Below w.heap.size w wr) (fun iv _ => M - (intOf iv).toNat)
  case atStart => exact ⟨0, [], by omega, rfl, bx0, rfl, by simp, Bw⟩
  case round =>
    clear Bw bx0
    rename World => wo
    obtain ⟨i, T, hi, rfl, hX, hT, hTl, hB⟩ := hrel
    have hz := hB.size
    by_cases hlt : i < M
    · have hi1 : (i : Int) < (M : Int) := by omega
      have hil : i < ls.length := by have := HM.out; omega
      obtain ⟨b, off, rfl, hb, hc⟩ := (hr.below hB).get hil
      have hsl := HS.out (ls.getD i []) (by simp [List.getD, hil])
      have hst := rdk_take hil
      obtain ⟨s, hs⟩ : ∃ s, s = ls.getD i [] := ⟨_, rfl⟩
      rw [← hs] at hc hsl hst
      have ca := answerTo_any s wo hsl (GD.below HG.out hB)
      have hal := ANS_len s
      obtain ⟨A, hA⟩ : ∃ A, A = ANS s := ⟨_, rfl⟩
      rw [← hA] at ca hal hst
      rw [← hT.out] at hst
      obtain ⟨S, hS⟩ : ∃ S, S = B8 s := ⟨_, rfl⟩
      rw [← hS] at ca hc
      have CA := Lib.hid ca
      have HST : Hid (T ++ (A ++ [10]) = rdk (ls.take (i + 1))) := by rw [← List.append_assoc]; exact hst.symm
      have HLL : (T ++ (A ++ [10])).length ≤ 1001 * (i + 1) := by simp only [List.length_append, List.length_singleton]; omega
      have hlA : T.length + (A ++ [10]).length ≤ 1000000 := by simp only [List.length_append, List.length_singleton]; omega
      have cw := fun wx h h2 => ws_any w.heap.size w.heap.size T (A ++ [10]) wx h hlA h2
      rw [← B8_app] at cw
      have CW := Lib.hid cw
      clear hst hs hA hS ca hsl hil cw hlA hT
      go_wp2_with fail
      refine CA.out.mono ?_
      rintro e w2 ⟨rfl, b2⟩
      have hB2 := hB.trans (b2.mono hB.size)
      have hX2 := hX.below b2
      have C2 := Lib.hid (CW.out w2 hX2 hB2.size)
      clear b2 hB hX CA hc CW hX2 hb
      go_wp2_with fail
      refine C2.out.mono ?_
      rintro e w3 ⟨⟨v3, rfl⟩, hX3, b3⟩
      have hB3 := hB2.trans b3
      clear C2 b3 hB2
      go_wp2
      go_roundw
      case rel => exact ⟨i + 1, T ++ (A ++ [10]), by omega, by go_num, hX3, HST, HLL, hB3⟩
      case measure => simp [intOf]; omega
    · obtain rfl : i = M := by omega
      have hf : T = R := by rw [hT.out, HR2.out, HM.out, List.take_length]
      subst hf
      have C3 := Lib.hid (bs_any w.heap.size w.heap.size T wo hX hB.size)
      clear hT HR2 hX
      go_wp2_with fail
      refine C3.out.mono ?_
      rintro e w3 ⟨rfl, b3⟩
      have hB3 := hB.trans b3
      go_wp2
      go_ret
      exact ⟨rfl, hB3⟩
end Go.Proofs.YtoaiaindcmihjaaGreatDoor
