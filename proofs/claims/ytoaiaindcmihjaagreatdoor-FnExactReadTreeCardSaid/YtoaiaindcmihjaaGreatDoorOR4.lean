/-
  impl.namesIn, impl.ReadTree.
-/
import Derived.Test.YtoaiaindcmihjaaGreatDoorOR3
import Derived.Test.YtoaiaindcmihjaaGreatDoorOB1
namespace Go.Proofs.YtoaiaindcmihjaaGreatDoor
open Go.RowKit

/-- The names of a text by its fields. -/
theorem RT_Fld (s : List UInt8) : RT s = match rds (Fld s) with | some N => if TXT (srt N) = s then some (srt N) else none | none => none :=
  RT_fields (fun l hv h => by rw [← h]; exact Fld_TXT hv) (fun h => by rw [h]; exact Fld_nil)
theorem RT_400 {s : List UInt8} (h : 400 < s.length) : RT s = none := by
  unfold RT; rw [if_neg (by omega)]
/-- How namesIn ends: the names, or the error of its own type. -/
def NIn (w w' : World) (e : Ending) (s : List UInt8) : Prop :=
  (∃ v R, e = .returned (.tuple #[v, .nilIface]) ∧ RT s = some R ∧ Own w' w.heap.size v R) ∨ (RT s = none ∧ ∃ S, e = .returned (.tuple #[.slice none 0 0, .iface 56 (.string S)]))
set_option maxHeartbeats 8000000 in
set_option maxRecDepth 100000 in
theorem namesIn_any (s : List UInt8) (w : World) (hG : GN w) : Calls Tryz.prog 35 #[.string (B8 s)] w fun e w' => NIn w w' e s ∧ Below w.heap.size w w' := by
  have hsz := B8_size s
  have hl := B8_list s
  have cf := fun h => fields_any s w h
  have hRT := RT_Fld s
  have hF := Fld_len s
  have hFc := Fld_count s
  obtain ⟨F, hFF⟩ : ∃ F, F = Fld s := ⟨_, rfl⟩
  rw [← hFF] at cf hRT hF hFc
  obtain ⟨S, hS⟩ : ∃ S, S = B8 s := ⟨_, rfl⟩
  rw [← hS] at hsz hl cf ⊢
  obtain ⟨M, hM⟩ : ∃ M, M = s.length := ⟨_, rfl⟩
  rw [← hM] at hsz cf hF hFc
  have HM := Lib.hid hM
  have HRT := Lib.hid hRT
  have HF := Lib.hid hF
  have HFC := Lib.hid hFc
  have HG := Lib.hid hG
  clear hFF hS hM hRT hF hG
  by_cases h400 : M ≤ 400
  rotate_left
  · have h1 : (M : Int) > 400 := by omega
    have hN : RT s = none := RT_400 (by rw [← HM.out]; omega)
    have HN := Lib.hid hN
    clear cf hN
    go_enter Tryz.func35, Tryz.ntmps35
    go_wp2
    go_ret2
    exact ⟨.inr ⟨HN.out, _, rfl⟩, Below.refl _ _⟩
  have h1 : ¬ (M : Int) > 400 := by omega
  have CF := Lib.hid (cf h400)
  clear cf
  go_enter Tryz.func35, Tryz.ntmps35
  go_wp2_with fail
  refine CF.out.mono ?_
  rintro en w1 ⟨⟨a, rfl, rx⟩, b1⟩
  have G1 := HG.out.below b1
  have cn := readNumbers_any a F F.length w1 rx (by omega) (fun p hp => by have := HF.out p hp; omega) G1
  have CN := Lib.hid cn
  have hz1 := b1.size
  obtain ⟨K, hK⟩ : ∃ K, K = F.length := ⟨_, rfl⟩
  rw [← hK] at CN
  rw [← hK]
  clear cn CF rx hFc hK
  go_wp2_with fail
  refine CN.out.mono ?_
  rintro en w2 ⟨v, rfl, o2, b2⟩
  have B2 := b1.trans (b2.mono b1.size)
  clear CN
  cases hN : rds F with
  | none =>
    have hR := HRT.out
    rw [hN] at hR o2
    have HR := Lib.hid hR
    simp only [Option.getD_none] at o2
    have cs := sortI_any v [] w1.heap.size w2 o2 (by simp)
    have CS := Lib.hid cs
    obtain ⟨sa, sc, rfl, _, _, _, _⟩ := o2.form
    rw [show (none : Option (List Int)).isSome = false from rfl]
    clear cs hN hR
    go_wp2_with fail
    refine CS.out.mono ?_
    rintro en w3 ⟨rfl, o3, g3⟩
    have B3 := Below.grownB B2 o2 g3 B2.size hz1
    clear g3 o2 o3 CS
    go_wp2
    go_ret2
    exact ⟨.inr ⟨HR.out, _, rfl⟩, B3⟩
  | some N =>
    have hR := HRT.out
    rw [hN] at hR o2
    simp only at hR
    simp only [Option.getD_some] at o2
    have hNl := rds_len hN
    have hNi := rds_in64 hN
    have hM2 : N.length ≤ 1000 := by rw [hNl]; have := HFC.out; omega
    have HR := Lib.hid hR
    have HNI := Lib.hid (show ∀ x ∈ srt N, In64 x from fun x hx => hNi x (srt_mem.1 hx))
    have hsl := srt_len N
    have cs := sortI_any v N w1.heap.size w2 o2 (by omega)
    have CS := Lib.hid cs
    obtain ⟨sa, sc, rfl, _, hlc, _, _⟩ := o2.form
    rw [show (some N : Option (List Int)).isSome = true from rfl]
    obtain ⟨L, hL⟩ : ∃ L, L = srt N := ⟨_, rfl⟩
    rw [← hL] at hsl HR HNI CS
    have ct := fun wx (h : Reads wx sa L) => implTreeText_e sa L sc wx h HNI.out (by omega) (by omega)
    rw [hsl] at ct
    obtain ⟨T, hT⟩ : ∃ T, T = TXT L := ⟨_, rfl⟩
    rw [← hT] at ct HR
    have hTl := B8_list T
    obtain ⟨ST, hST⟩ : ∃ ST, ST = B8 T := ⟨_, rfl⟩
    rw [← hST] at ct hTl
    have CT := Lib.hid ct
    have HSL := Lib.hid hsl
    clear cs hN hR hNi hNl ct hT hST hL hsl
    go_wp2_with fail
    refine CS.out.mono ?_
    rintro en w3 ⟨rfl, o3, g3⟩
    have B3 := Below.grownB B2 o2 g3 B2.size hz1
    have hz3 := B3.size
    have o3' : Own w3 w1.heap.size (.slice sa L.length sc) L := by rw [HSL.out]; exact o3
    have r3 := o3'.reads
    clear g3 o2 CS o3'
    by_cases hTs : T = s
    · have hR1 : RT s = some L := by rw [HR.out, if_pos hTs]
      have HR1 := Lib.hid hR1
      have hb : (T == s) = true := by rw [hTs]; simp
      have hb2 : (T != s) = false := by rw [hTs]; simp
      clear hTs hR1
      go_wp2_with fail
      refine (CT.out _ r3).mono ?_
      rintro en w4 ⟨rfl, b4⟩
      have B4 := B3.trans (b4.mono B3.size)
      have o4 := (o3.below b4).mono (base' := w.heap.size) hz1
      go_wp2
      go_ret2
      exact ⟨.inl ⟨_, L, rfl, HR1.out, o4⟩, B4⟩
    · have hR1 : RT s = none := by rw [HR.out, if_neg hTs]
      have HR1 := Lib.hid hR1
      have hb : (T == s) = false := by simpa using hTs
      have hb2 : (T != s) = true := by simpa using hTs
      clear hTs hR1
      go_wp2_with fail
      refine (CT.out _ r3).mono ?_
      rintro en w4 ⟨rfl, b4⟩
      have B4 := B3.trans (b4.mono B3.size)
      go_wp2
      go_ret2
      exact ⟨.inr ⟨HR1.out, _, rfl⟩, B4⟩
/-- What ReadTree asks of the world. -/
abbrev GW (w : World) : Prop := GE w ∧ GN w
set_option maxHeartbeats 4000000 in
set_option maxRecDepth 100000 in
theorem implReadTree_e (s : List UInt8) (w : World) (hG : GW w) (_hs : s.length ≤ 9223372036854775807) : Calls Tryz.prog 11 #[.string (B8 s)] w fun e w' => ∃ v, e = .returned (.tuple #[v, .bool (RT s).isSome]) ∧ Own w' w.heap.size v ((RT s).getD []) ∧ Below w.heap.size w w' := by
  have cn := namesIn_any s w hG.2
  obtain ⟨S, hS⟩ : ∃ S, S = B8 s := ⟨_, rfl⟩
  rw [← hS] at cn ⊢
  obtain ⟨R, hR⟩ : ∃ R, R = RT s := ⟨_, rfl⟩
  rw [← hR]
  have HR := Lib.hid hR
  have CN := Lib.hid cn
  have HG := Lib.hid hG
  clear hS hR cn hG
  go_enter Tryz.func11, Tryz.ntmps11
  go_wp2_with fail
  refine CN.out.mono ?_
  rintro en w1 ⟨h, b1⟩
  have hz1 := b1.size
  have E1 := GE.below HG.out.1 b1
  clear CN
  have b2 := b1.alloc hz1 (.cells #[.string ⟨#[]⟩] 56)
  have bb := (Below.refl w1.heap.size w1).alloc (Nat.le_refl _) (.cells #[.string ⟨#[]⟩] 56)
  have hh : (w1.alloc (.cells #[.string ⟨#[]⟩] 56)).heap[w1.heap.size]? = some (.cells #[.string ⟨#[]⟩] 56 (0, 0)) := heap_alloc_new w1 _
  obtain ⟨w2, e2⟩ : ∃ w2, w2 = w1.alloc (.cells #[.string ⟨#[]⟩] 56) := ⟨_, rfl⟩
  rw [← e2] at hh b2 bb
  have hc2 : w2.cell? ⟨w1.heap.size, 0, none⟩ = some (.string ⟨#[]⟩) := by rw [cell_of_row w2 _ 0 _ _ _ hh]; rfl
  have hf2 : w2.frozen? ⟨w1.heap.size, 0, none⟩ = false := frozen_of_row w2 _ 0 _ _ hh
  have E2 := Lib.hid e2
  have G2 := GE.below E1 bb
  have hz2 := b2.size
  rcases h with ⟨v, L, rfl, hRT, o1⟩ | ⟨hRT, X, rfl⟩
  · obtain rfl : R = some L := by rw [HR.out, hRT]
    have o2 := o1.below bb
    have cA := as_nil (.iface 58 (.pointer (some ⟨w1.heap.size, 0, none⟩))) w2
    have CA := Lib.hid cA
    clear e2 hh o1 cA hRT
    go_wp2_with fail
    rw [← E2.out]
    refine CA.out.mono ?_
    rintro en w3 ⟨rfl, rfl⟩
    go_wp2
    go_ret2
    exact ⟨_, rfl, o2, b2⟩
  · obtain rfl : R = none := by rw [HR.out, hRT]
    have cA := as_hitB (B := w1.heap.size) X ⟨w1.heap.size, 0, none⟩ _ w2 G2 hc2 hf2 (Nat.le_refl _) bb.size
    have CA := Lib.hid cA
    clear e2 hh cA hRT
    go_wp2_with fail
    rw [← E2.out]
    refine CA.out.mono ?_
    rintro en w3 ⟨rfl, b3⟩
    have B3 := b1.trans ((bb.trans b3).mono hz1)
    go_wp2
    go_ret2
    exact ⟨_, rfl, Own.nil _ _, B3⟩
end Go.Proofs.YtoaiaindcmihjaaGreatDoor
