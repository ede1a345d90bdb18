
import Derived.Test.YtoaiaindcmihjaaGreatDoorMtc
import Derived.Test.YtoaiaindcmihjaaGreatDoorMtd
import Derived.Test.YtoaiaindcmihjaaGreatDoorMtb
import Derived.Lib.FieldsP
import Derived.Lib.AtoiAll
import Derived.Lib.ItoaNum
import Derived.Shelf.Strconv.ErrVarAll
import Derived.Shelf.Strconv.Itoa3
import Derived.Lib.LaidTab
import Derived.Lib.AppendIntMem
import Derived.WalkSmall
import Derived.Test.YtoaiaindcmihjaaGreatDoorMta
/-
  The law of TreeText, from what impl's functions give.
-/
namespace Go.Proofs.YtoaiaindcmihjaaGreatDoor
open Go.RowKit

def TreeTextGives : Prop := ∀ (a : Option Addr) (l : List Int) (cap : Nat) (w : World), Reads w a l → (∀ x ∈ l, In64 x) → l.length ≤ 1048586 → l.length ≤ cap →
    Calls Tryz.prog 9 #[.slice a l.length cap] w fun e w' => e = .returned (.string (B8 (TXT l))) ∧ Below w.heap.size w w'
def ReadTreeGives (G : World → Prop) : Prop := ∀ (s : List UInt8) (w : World), G w → s.length ≤ 9223372036854775807 → Calls Tryz.prog 11 #[.string (B8 s)] w fun e w' => ∃ v, e = .returned (.tuple #[v, .bool (RT s).isSome]) ∧ Own w' w.heap.size v ((RT s).getD []) ∧ Below w.heap.size w w'
set_option maxHeartbeats 16000000 in
set_option maxRecDepth 100000 in
theorem lawFnTreeText_of {G : World → Prop} (HT : TreeTextGives) (HI : ReadTreeGives G) (a : Option Addr) (n cap : Nat) (w : World) (HG : ∀ wx, Below w.heap.size w wx → G wx) (hB : Bytes w w.heap.size a n) (hn : n ≤ 9223372036854775807) (hc : n ≤ cap) :
    Calls Tryz.prog 3 #[.slice a n cap] w fun e w' => e = .returned (.bool true) ∧ Below w.heap.size w w' := by
  by_cases hbig : 1048576 < n
  · go_enter Tryz.func3, Tryz.ntmps3
    go_wp2
    go_ret
    exact ⟨rfl, Below.refl _ _⟩
  go_enter Tryz.func3, Tryz.ntmps3
  go_wp2_with fail
  refine (drawTreeText_any a n cap w hB hn hc).mono ?_
  rintro e w1 ⟨v1, l, rfl, o1, hl, hel, B1⟩
  obtain ⟨a1, c1, rfl, r1, hlc, _, _⟩ := o1.form
  have hi64 : ∀ x ∈ l, In64 x := fun x hx => by have := hel x hx; unfold In64; omega
  have hi64r : ∀ x ∈ l.reverse, In64 x := fun x hx => hi64 x (List.mem_reverse.1 hx)
  clear hB hn hc o1
  have ct := fun wx h => HT a1 l c1 wx h hi64 (by omega) hlc
  have ct2 := fun ax cx wx h (hx : l.length ≤ cx) => HT ax l.reverse cx wx h hi64r (by rw [List.length_reverse]; omega) (by rw [List.length_reverse]; exact hx)
  rw [← TXT_perm (List.reverse_perm l).symm] at ct2
  simp only [List.length_reverse] at ct2
  have cs := fun wx h => specTreeText_any a1 l c1 wx h (by omega) hlc
  have hne : TXT l ≠ [] ↔ VNm l = true := TXT_ne
  have hrt := fun (h : VNm l = true) => RT_TXT h
  have htl := TXT_len l
  have cr := fun wx (hb : Below w.heap.size w wx) => HI (TXT l) wx (HG wx hb) (by omega)
  obtain ⟨T, hT⟩ : ∃ T, T = TXT l := ⟨_, rfl⟩
  rw [← hT] at ct ct2 cs hne hrt cr htl
  have hl3 := B8_list T
  obtain ⟨S, hS⟩ : ∃ S, S = B8 T := ⟨_, rfl⟩
  rw [← hS] at ct ct2 cs hl3 cr
  have CT := Lib.hid ct
  have CT2 := Lib.hid ct2
  have CS := Lib.hid cs
  have HNE := Lib.hid hne
  have HRT := Lib.hid hrt
  have CR := Lib.hid cr
  have hTT : (T == T) = true := by simp
  have hTT2 : (T != T) = false := by simp
  clear ct ct2 cs hne hrt cr hT hS HT HI HG hel hi64 hi64r
  go_wp2_with fail
  refine (CT.out _ r1).mono ?_
  rintro e w2 ⟨rfl, b2⟩
  have r2 := r1.below b2
  have B2 := B1.trans (b2.mono B1.size)
  clear b2 B1 r1
  go_wp2_with fail
  refine (CS.out _ r2).mono ?_
  rintro e w3 ⟨rfl, b3⟩
  have r3 := r2.below b3
  have B3 := B2.trans (b3.mono B2.size)
  clear b3 B2 r2
  by_cases h0 : T = []
  · have hb : (T == ([] : List UInt8)) = true := by rw [h0]; rfl
    clear h0 htl HNE HRT CR
    go_wp2_with fail
    refine (CS.out _ r3).mono ?_
    rintro e w4 ⟨rfl, b4⟩
    have B4 := B3.trans (b4.mono B3.size)
    go_wp2
    go_ret
    exact ⟨rfl, B4⟩
  · have hb : (T == ([] : List UInt8)) = false := by simpa using h0
    have hv := HNE.out.1 h0
    have hr := HRT.out hv
    have cr2 := CR.out
    rw [hr] at cr2
    simp only [Option.isSome_some, Option.getD_some] at cr2
    have hsl := srt_len l
    have hso := fun wx (h : Reads wx a1 l) => sorted_any a1 l c1 wx h (by omega)
    obtain ⟨R, hR⟩ : ∃ R, R = srt l := ⟨_, rfl⟩
    rw [← hR] at cr2 hsl hso
    have CR2 := Lib.hid cr2
    have CSO := Lib.hid hso
    have CE := Lib.hid (fun a1 a2 c1 c2 wx (h1 : Reads wx a1 R) (h2 : Reads wx a2 R) => equalInts_any a1 a2 R R c1 c2 wx h1 h2 (by omega) (by omega))
    have HSL := Lib.hid hsl
    clear h0 hv hr cr2 hso hR CR HRT HNE htl CS CT hsl
    go_wp2_with fail
    refine (CR2.out _ B3).mono ?_
    rintro e w4 ⟨v4, rfl, o4, b4⟩
    obtain ⟨a4, c4, rfl, r4, _, _, _⟩ := o4.form
    have r3b := r3.below b4
    have B4 := B3.trans (b4.mono B3.size)
    clear b4 B3 r3 o4
    go_wp2_with fail
    refine (turned_any a1 l c1 _ r3b (by omega)).mono ?_
    rintro e w5 ⟨v5, rfl, o5, b5⟩
    obtain ⟨a5, c5, rfl, r5, hc5, _, _⟩ := o5.form
    rw [List.length_reverse] at hc5
    have r3c := r3b.below b5
    have r4c := r4.below b5
    have B5 := B4.trans (b5.mono B4.size)
    clear b5 B4 r3b r4 o5
    go_wp2_with fail
    refine (CT2.out a5 c5 _ r5 hc5).mono ?_
    rintro e w6 ⟨rfl, b6⟩
    have r3d := r3c.below b6
    have r4d := r4c.below b6
    have B6 := B5.trans (b6.mono B5.size)
    clear b6 B5 r3c r4c r5
    go_wp2_with fail
    refine (CSO.out _ r3d).mono ?_
    rintro e w7 ⟨v7, rfl, o7, b7⟩
    obtain ⟨a7, c7, rfl, r7, _, _, _⟩ := o7.form
    have r4e := r4d.below b7
    have B7 := B6.trans (b7.mono B6.size)
    have cE := CE.out a4 a7 c4 c7 w7 r4e r7
    rw [eqL_self] at cE
    clear b7 B6 r3d r4d o7
    go_wp2_with fail
    refine cE.mono ?_
    rintro e w8 ⟨rfl, q8, rfl⟩
    go_wp2
    go_ret
    exact ⟨rfl, Go.below_drewN B7 q8⟩
end Go.Proofs.YtoaiaindcmihjaaGreatDoor
/-
  The reader's of; mutate; DrawReadTree.
-/
namespace Go.Proofs.YtoaiaindcmihjaaGreatDoor
open Go.RowKit

/-- The cells from an address on hold texts. -/
def SCells (w : World) (b off : Nat) (l : List (List UInt8)) : Prop := ∀ i, i < l.length → w.cell? ⟨b, off + i, none⟩ = some (.string (B8 (l.getD i [])))
theorem SCells.lit (w : World) (l : List (List UInt8)) : SCells (w.alloc (.cells (l.map fun s => Value.string (B8 s)).toArray 9)) w.heap.size 0 l := by
  intro i hi
  rw [cell_of_row _ _ _ _ _ _ (heap_alloc_new _ _)]
  simp [List.getD, hi]
set_option maxHeartbeats 1000000 in
theorem of_any (g p : Nat) (gl : Nat) (cap : Nat) (l : List (List UInt8)) (w : World) (hR : Rdr w g p) (hp : p ≤ 1000000) (hc : SCells w gl 0 l) (hgl : g < gl) (h0 : 0 < l.length) (hl : l.length ≤ 1000000) (n : Nat) (hn : l.length = n) :
    Calls Tryz.prog 43 #[.pointer (some ⟨g, 0, none⟩), .slice (some ⟨gl, 0, none⟩) n cap] w fun e w' => ∃ y, e = .returned (.string (B8 y)) ∧ y ∈ l ∧ Rdr w' g (p + 1) ∧ w.grownBy w' (some g) := by
  subst hn
  go_enter Tryz.func43, Tryz.ntmps43
  go_wp2_with fail
  refine (pick_any g p _ _ hR hp (by omega)).mono ?_
  rintro e w' ⟨y, rfl, hy, hR', hg⟩
  obtain ⟨y0, y1⟩ := hy.pos (by omega)
  obtain ⟨i, rfl⟩ := Int.eq_ofNat_of_zero_le y0
  have hil : i < l.length := by omega
  have hcell : w'.cell? ⟨gl, i, none⟩ = some (.string (B8 (l.getD i []))) := by
    have := hc i hil
    rw [Nat.zero_add] at this
    exact hg.cell this (by simp; omega)
  obtain ⟨x, hx⟩ : ∃ x, l.getD i [] = x := ⟨_, rfl⟩
  rw [hx] at hcell
  have hm : x ∈ l := by rw [← hx, List.getD_eq_getElem?_getD, List.getElem?_eq_getElem hil]; exact List.getElem_mem hil
  clear hx
  go_wp2
  go_ret
  exact ⟨x, rfl, hm, hR', hg⟩
theorem of_lit (g p : Nat) (w : World) (l : List (List UInt8)) (n : Nat) (hR : Rdr w g p) (hp : p ≤ 1000000) (h0 : 0 < l.length) (hl : l.length ≤ 1000000) (hn : l.length = n) :
    Calls Tryz.prog 43 #[.pointer (some ⟨g, 0, none⟩), .slice (some ⟨w.heap.size, 0, none⟩) n n] (w.alloc (.cells (l.map fun s => Value.string (B8 s)).toArray 9)) fun e w' => ∃ y, e = .returned (.string (B8 y)) ∧ y ∈ l ∧ Rdr w' g (p + 1) ∧ w.grownBy w' (some g) := by
  have hlt := hR.lt
  refine (of_any g p w.heap.size n l _ (hR.below ((Below.refl _ _).alloc (Nat.le_refl _) _)) hp (SCells.lit w l) hlt h0 hl n hn).mono ?_
  rintro e w' ⟨y, rfl, hy, hR', hg⟩
  exact ⟨y, rfl, hy, hR', grownBy_trans (World.grownBy_alloc w _ _) hg⟩
theorem B8_take (s : List UInt8) (k : Nat) : (B8 s).extract 0 k = B8 (s.take k) := by
  rw [ByteArray.extract_mk]; simp
set_option maxHeartbeats 8000000 in
set_option maxRecDepth 100000 in
theorem mutate_any (g p : Nat) (s : List UInt8) (w : World) (hR : Rdr w g p) (hp : p ≤ 800000) (hs : s.length ≤ 2000) :
    Calls Tryz.prog 38 #[.pointer (some ⟨g, 0, none⟩), .string (B8 s)] w fun e w' => ∃ (t : List UInt8) (q : Nat), e = .returned (.string (B8 t)) ∧ t.length ≤ s.length + 1 ∧ Rdr w' g q ∧ q ≤ p + 3 ∧ w.grownBy w' (some g) := by
  have hsz := B8_size s
  have htk := B8_take s
  have hdr := B8_drop s
  have hap := fun t => B8_app s t
  obtain ⟨S, hS⟩ : ∃ S, S = B8 s := ⟨_, rfl⟩
  rw [← hS] at hsz htk hdr hap ⊢
  obtain ⟨N, hN⟩ : ∃ N, N = s.length := ⟨_, rfl⟩
  rw [← hN] at hsz hdr hs ⊢
  have HN := Lib.hid hN
  have HS := Lib.hid hS
  have HTK := Lib.hid htk
  have HDR := Lib.hid hdr
  have HAP := Lib.hid hap
  clear hN hS htk hdr hap
  go_enter Tryz.func38, Tryz.ntmps38
  go_wp2_with fail
  refine (pick_any g p _ _ hR (by omega) (by omega)).mono ?_
  rintro e w1 ⟨kk, rfl, hk, R1, g1⟩
  have hk' := hk.1 (by omega)
  obtain ⟨k, rfl⟩ : ∃ k : Nat, kk = k := ⟨kk.toNat, by omega⟩
  clear hk hR
  go_wp2_with fail
  refine (pick_any g (p + 1) _ _ R1 (by omega) (by omega)).mono ?_
  rintro e w2 ⟨z, rfl, hz, R2, g2⟩
  have hz' := hz.1 (by omega)
  have G2 := grownBy_trans g1 g2
  clear hz g1 g2 R1
  have hz5 : z = 0 ∨ z = 1 ∨ z = 2 ∨ z = 3 ∨ z = 4 := by omega
  rcases hz5 with rfl | rfl | rfl | rfl | rfl
  · by_cases hkN : k < N
    · have kN : (k : Int) < (N : Int) := by omega
      have e1 : IntKind.i64.wrap ((k : Int) + 1) = ((k + 1 : Nat) : Int) := by rw [IntWalk.i64_in _ (by omega)]; omega
      have k1 : (k : Int) + 1 ≤ (N : Int) := by omega
      have k2 : (k : Int) ≤ (N : Int) := by omega
      have k0 : (0 : Int) ≤ (k : Int) + 1 := by omega
      have lim1 : ¬ 9223372036854775807 < k + 1 := by omega
      have lim2 : ¬ 9223372036854775807 < k + 1 + (N - (k + 1)) := by omega
      have ht := HTK.out k
      have hd := HDR.out (k + 1)
      have hT : (s.take k).length = k := by rw [List.length_take]; have := HN.out; omega
      have hD : (s.drop (k + 1)).length = N - (k + 1) := by rw [List.length_drop]; have := HN.out; omega
      have ha : ∀ y : List UInt8, B8 (s.take k) ++ B8 y = B8 (s.take k ++ y) := fun y => B8_app _ _
      obtain ⟨T, hTT⟩ : ∃ T, T = s.take k := ⟨_, rfl⟩
      obtain ⟨D, hDD⟩ : ∃ D, D = s.drop (k + 1) := ⟨_, rfl⟩
      rw [← hTT] at ht hT ha
      rw [← hDD] at hd hD
      have hof : Calls Tryz.prog 43 #[.pointer (some ⟨g, 0, none⟩), .slice (some ⟨w2.heap.size, 0, none⟩) 7 7] (w2.alloc (.cells #[.string ⟨#[48]⟩, .string ⟨#[49]⟩, .string ⟨#[55]⟩, .string ⟨#[44]⟩, .string ⟨#[40]⟩, .string ⟨#[46]⟩, .string ⟨#[32]⟩] 9)).drew fun e w' => ∃ y, e = .returned (.string (B8 y)) ∧ y.length = 1 ∧ Hid (Rdr w' g (p + 2 + 1)) ∧ Hid (w2.grownBy w' (some g)) := by
        refine (of_lit g (p + 2) w2.drew [[48], [49], [55], [44], [40], [46], [32]] 7 (R2.of_block fun _ _ => rfl) (by omega) (by simp) (by simp) rfl).mono ?_
        rintro e w' ⟨y, rfl, hy, hR', hg⟩
        exact ⟨y, rfl, by simp at hy; rcases hy with h | h | h | h | h | h | h <;> rw [h] <;> rfl, hR', ⟨hg.os, hg.tape, hg.output, hg.size, hg.block⟩⟩
      have HOF := Lib.hid hof
      have HA := Lib.hid ha
      clear hof hTT hDD ha HTK HDR HAP R2
      go_wp2_with fail
      go_region_law (go_simp; go_at_call 43; refine HOF.out.mono ?_; rintro e w3 ⟨y, rfl, hy1, R3, g3⟩; try dsimp only)
      all_goals
        have G3 := grownBy_trans G2 g3.out
        go_wp2
        go_ret
        exact ⟨T ++ y ++ D, p + 2 + 1, by rw [← B8_app, ← B8_app]; rfl, by simp only [List.length_append]; omega, R3.out, by omega, G3⟩
    · have kN : ¬ (k : Int) < (N : Int) := by omega
      go_wp2
      go_ret
      exact ⟨s, p + 2, by rw [HS.out]; rfl, by have := HN.out; omega, R2, by omega, G2⟩
  · by_cases hkN : k < N
    · have kN : (k : Int) < (N : Int) := by omega
      have e1 : IntKind.i64.wrap ((k : Int) + 1) = ((k + 1 : Nat) : Int) := by rw [IntWalk.i64_in _ (by omega)]; omega
      have k1 : (k : Int) + 1 ≤ (N : Int) := by omega
      have k2 : (k : Int) ≤ (N : Int) := by omega
      have k0 : (0 : Int) ≤ (k : Int) + 1 := by omega
      have lim1 : ¬ 9223372036854775807 < k + 1 := by omega
      have lim2 : ¬ 9223372036854775807 < k + 1 + (N - (k + 1)) := by omega
      have ht := HTK.out k
      have hd := HDR.out (k + 1)
      have hT : (s.take k).length = k := by rw [List.length_take]; have := HN.out; omega
      have hD : (s.drop (k + 1)).length = N - (k + 1) := by rw [List.length_drop]; have := HN.out; omega
      have ha : ∀ y : List UInt8, B8 (s.take k) ++ B8 y = B8 (s.take k ++ y) := fun y => B8_app _ _
      obtain ⟨T, hTT⟩ : ∃ T, T = s.take k := ⟨_, rfl⟩
      obtain ⟨D, hDD⟩ : ∃ D, D = s.drop (k + 1) := ⟨_, rfl⟩
      rw [← hTT] at ht hT ha
      rw [← hDD] at hd hD
      have hof : Calls Tryz.prog 43 #[.pointer (some ⟨g, 0, none⟩), .slice (some ⟨w2.heap.size, 0, none⟩) 7 7] (w2.alloc (.cells #[.string ⟨#[48]⟩, .string ⟨#[49]⟩, .string ⟨#[55]⟩, .string ⟨#[44]⟩, .string ⟨#[40]⟩, .string ⟨#[46]⟩, .string ⟨#[32]⟩] 9)).drew fun e w' => ∃ y, e = .returned (.string (B8 y)) ∧ y.length = 1 ∧ Hid (Rdr w' g (p + 2 + 1)) ∧ Hid (w2.grownBy w' (some g)) := by
        refine (of_lit g (p + 2) w2.drew [[48], [49], [55], [44], [40], [46], [32]] 7 (R2.of_block fun _ _ => rfl) (by omega) (by simp) (by simp) rfl).mono ?_
        rintro e w' ⟨y, rfl, hy, hR', hg⟩
        exact ⟨y, rfl, by simp at hy; rcases hy with h | h | h | h | h | h | h <;> rw [h] <;> rfl, hR', ⟨hg.os, hg.tape, hg.output, hg.size, hg.block⟩⟩
      have HOF := Lib.hid hof
      have HA := Lib.hid ha
      clear hof hTT hDD ha HTK HDR HAP R2
      go_wp2_with fail
      go_region_law (go_simp; go_at_call 43; refine HOF.out.mono ?_; rintro e w3 ⟨y, rfl, hy1, R3, g3⟩; try dsimp only)
      all_goals
        have G3 := grownBy_trans G2 g3.out
        go_wp2
        go_ret
        exact ⟨T ++ y ++ D, p + 2 + 1, by rw [← B8_app, ← B8_app]; rfl, by simp only [List.length_append]; omega, R3.out, by omega, G3⟩
    · have kN : ¬ (k : Int) < (N : Int) := by omega
      go_wp2
      go_ret
      exact ⟨s, p + 2, by rw [HS.out]; rfl, by have := HN.out; omega, R2, by omega, G2⟩
  · have ht := HTK.out k
    have k2 : (k : Int) ≤ (N : Int) := by omega
    have hT : (s.take k).length ≤ N := by rw [List.length_take]; have := HN.out; omega
    go_wp2
    go_ret
    exact ⟨s.take k, p + 2, rfl, by omega, R2, by omega, G2⟩
  · have hof : Calls Tryz.prog 43 #[.pointer (some ⟨g, 0, none⟩), .slice (some ⟨w2.heap.size, 0, none⟩) 4 4] (w2.alloc (.cells #[.string ⟨#[48]⟩, .string ⟨#[44]⟩, .string ⟨#[32]⟩, .string ⟨#[41]⟩] 9)) fun e w' => ∃ y, e = .returned (.string (B8 y)) ∧ y.length = 1 ∧ Rdr w' g (p + 2 + 1) ∧ w2.grownBy w' (some g) := by
      refine (of_lit g (p + 2) w2 [[48], [44], [32], [41]] 4 R2 (by omega) (by simp) (by simp) rfl).mono ?_
      rintro e w' ⟨y, rfl, hy, hR', hg⟩
      exact ⟨y, rfl, by simp at hy; rcases hy with h | h | h | h <;> rw [h] <;> rfl, hR', hg⟩
    have HOF := Lib.hid hof
    clear hof HTK HDR R2
    go_wp2_with fail
    refine HOF.out.mono ?_
    rintro e w3 ⟨y, rfl, hy1, R3, g3⟩
    have G3 := grownBy_trans G2 g3
    go_wp2
    go_ret
    exact ⟨s ++ y, p + 2 + 1, by rw [← HAP.out]; rfl, by have := HN.out; rw [List.length_append]; omega, R3, by omega, G3⟩
  · go_wp2
    go_ret
    exact ⟨s, p + 2, by rw [HS.out]; rfl, by have := HN.out; omega, R2, by omega, G2⟩
end Go.Proofs.YtoaiaindcmihjaaGreatDoor
/-
  spec.DrawReadTree.
-/
namespace Go.Proofs.YtoaiaindcmihjaaGreatDoor
open Go.RowKit

set_option maxHeartbeats 4000000 in
theorem drawReadTree_any (a : Option Addr) (n cap : Nat) (w : World) (hB : Bytes w w.heap.size a n) (hn : n ≤ 9223372036854775807) (hc : n ≤ cap) :
    Calls Tryz.prog 15 #[.slice a n cap] w fun e w' => ∃ (s : List UInt8), e = .returned (.string (B8 s)) ∧ s.length ≤ 1000 ∧ Below w.heap.size w w' := by
  go_enter Tryz.func15, Tryz.ntmps15
  go_wp2_with fail
  refine (newReader_any a n cap w hB hn hc).mono ?_
  rintro e w1 ⟨rfl, R1, B1, s1⟩
  clear hB hn hc
  go_wp2_with fail
  refine (someNames_any w.heap.size 0 w1 R1 (by omega)).mono ?_
  rintro e w2 ⟨v, l, q, rfl, o2, hl, hx, R2, hq, g2⟩
  have B2 := B1.grown g2 B1.size (fun k hk => by cases hk; exact Nat.le_refl _)
  obtain ⟨a2, c2, rfl, r2, hlc, _, _⟩ := o2.form
  have ct := specTreeText_any a2 l c2 w2 r2 (by omega) hlc
  have htl := TXT_len l
  obtain ⟨T, hT⟩ : ∃ T, T = TXT l := ⟨_, rfl⟩
  rw [← hT] at ct htl
  clear R1 g2 o2 hT hx
  go_wp2_with fail
  refine ct.mono ?_
  rintro e w3 ⟨rfl, b3⟩
  have R3 := R2.below b3
  have B3 := B2.trans (b3.mono B2.size)
  clear ct b3 B2 R2 r2
  go_wp2_with fail
  refine (pick_any w.heap.size q 3 _ R3 (by omega) (by omega)).mono ?_
  rintro e w4 ⟨z, rfl, hz, R4, g4⟩
  have B4 := B3.grown g4 B3.size (fun k hk => by cases hk; exact Nat.le_refl _)
  clear hz g4 R3 B3
  by_cases h0 : z = 0
  · have hd : (z == 0) = true := by simp [h0]
    clear h0
    go_wp2_with fail
    refine (mutate_any w.heap.size (q + 1) T w4 R4 (by omega) (by omega)).mono ?_
    rintro e w5 ⟨t, q5, rfl, ht, R5, hq5, g5⟩
    have B5 := B4.grown g5 B4.size (fun k hk => by cases hk; exact Nat.le_refl _)
    go_wp2
    go_ret
    exact ⟨t, rfl, by omega, B5⟩
  · have hd : (z == 0) = false := by simpa using h0
    clear h0
    go_wp2
    go_ret
    exact ⟨T, rfl, by omega, B4⟩
end Go.Proofs.YtoaiaindcmihjaaGreatDoor
/-
  The law of ReadTree, from what impl's functions give.
-/
namespace Go.Proofs.YtoaiaindcmihjaaGreatDoor
open Go.RowKit

set_option maxHeartbeats 16000000 in
set_option maxRecDepth 100000 in
theorem lawFnReadTree_of {G : World → Prop} (HT : TreeTextGives) (HI : ReadTreeGives G) (a : Option Addr) (n cap : Nat) (w : World) (HG : ∀ wx, Below w.heap.size w wx → G wx) (hB : Bytes w w.heap.size a n) (hn : n ≤ 9223372036854775807) (hc : n ≤ cap) :
    Calls Tryz.prog 4 #[.slice a n cap] w fun e w' => e = .returned (.bool true) ∧ Below w.heap.size w w' := by
  by_cases hbig : 1048576 < n
  · go_enter Tryz.func4, Tryz.ntmps4
    go_wp2
    go_ret
    exact ⟨rfl, Below.refl _ _⟩
  go_enter Tryz.func4, Tryz.ntmps4
  go_wp2_with fail
  refine (drawReadTree_any a n cap w hB hn hc).mono ?_
  rintro e w1 ⟨s, rfl, hs, B1⟩
  clear hB hn hc
  have cr := fun wx (hb : Below w.heap.size w wx) => HI s wx (HG wx hb) (by omega)
  have cs := fun wx => specReadTree_any s wx
  have hsl := B8_list s
  cases hv : RT s with
  | none =>
    rw [hv] at cr cs
    simp only [Option.isSome_none, Option.getD_none] at cr cs
    obtain ⟨S, hS⟩ : ∃ S, S = B8 s := ⟨_, rfl⟩
    rw [← hS] at cr cs ⊢
    have CR := Lib.hid cr
    have CS := Lib.hid cs
    clear cr cs hv hS hsl HT HI HG
    go_wp2_with fail
    refine (CR.out _ B1).mono ?_
    rintro e w2 ⟨v2, rfl, o2, b2⟩
    obtain ⟨a2, c2, rfl, r2, _, _, _⟩ := o2.form
    have B2 := B1.trans (b2.mono B1.size)
    rw [show ([] : List Int).length = 0 from rfl]
    clear b2 B1 o2
    go_wp2_with fail
    refine (CS.out _).mono ?_
    rintro e w3 ⟨v3, rfl, o3, b3⟩
    obtain ⟨a3, c3, rfl, r3, _, _, _⟩ := o3.form
    have r2b := r2.below b3
    have B3 := B2.trans (b3.mono B2.size)
    have cE := fun wx (h : Reads wx a2 []) (h2 : Reads wx a3 []) => equalInts_any a2 a3 [] [] c2 c3 wx h h2 (by simp) (by simp)
    simp only [eqL_self] at cE
    have CE := Lib.hid cE
    rw [show ([] : List Int).length = 0 from rfl]
    clear b3 B2 o3 r2 cE
    go_wp2_with fail
    refine (CE.out _ r2b r3).mono ?_
    rintro e w4 ⟨rfl, q4, rfl⟩
    have r2c := r2b.below (Go.below_drewN (Below.refl _ _) q4)
    have r3c := r3.below (Go.below_drewN (Below.refl _ _) q4)
    have B4 := Go.below_drewN B3 q4
    clear r2b r3 B3
    revert r2c r3c B4
    generalize w3.drewN q4 = w4
    intro r2c r3c B4
    go_wp2_with fail
    refine (CE.out _ r2c r3c).mono ?_
    rintro e w5 ⟨rfl, q5, rfl⟩
    go_wp2
    go_ret
    exact ⟨rfl, Go.below_drewN B4 q5⟩
  | some R =>
    obtain ⟨hR1, hR2, hR3⟩ := RT_iff.1 hv
    have hasc := RT_asc hv
    have hl12 := (VNm_iff.1 hR1).1
    have hrng := (VNm_iff.1 hR1).2.1
    have hi64 : ∀ x ∈ R, In64 x := fun x hx => by have := hrng x hx; unfold In64; omega
    rw [hv] at cr cs
    simp only [Option.isSome_some, Option.getD_some] at cr cs
    have ct := fun ax cx wx h (hx : R.length ≤ cx) => HT ax R cx wx h hi64 (by omega) hx
    rw [hR3] at ct
    obtain ⟨S, hS⟩ : ∃ S, S = B8 s := ⟨_, rfl⟩
    rw [← hS] at cr cs ct hsl ⊢
    have CR := Lib.hid cr
    have CS := Lib.hid cs
    have CT := Lib.hid ct
    have HAS := Lib.hid hasc
    have CE := Lib.hid (fun a1 a2 c1 c2 wx (h1 : Reads wx a1 R) (h2 : Reads wx a2 R) => equalInts_any a1 a2 R R c1 c2 wx h1 h2 (by omega) (by omega))
    have hss : (s == s) = true := by simp
    clear cr cs ct hv hS HT HI HG hR1 hR2 hR3 hasc hrng hi64
    go_wp2_with fail
    refine (CR.out _ B1).mono ?_
    rintro e w2 ⟨v2, rfl, o2, b2⟩
    obtain ⟨a2, c2, rfl, r2, hc2, _, _⟩ := o2.form
    have B2 := B1.trans (b2.mono B1.size)
    clear b2 B1 o2
    go_wp2_with fail
    refine (CS.out _).mono ?_
    rintro e w3 ⟨v3, rfl, o3, b3⟩
    obtain ⟨a3, c3, rfl, r3, _, _, _⟩ := o3.form
    have r2b := r2.below b3
    have B3 := B2.trans (b3.mono B2.size)
    have cE := CE.out a2 a3 c2 c3 w3 r2b r3
    rw [eqL_self] at cE
    clear b3 B2 o3 r2
    go_wp2_with fail
    refine cE.mono ?_
    rintro e w4 ⟨rfl, q4, rfl⟩
    have r2c := r2b.below (Go.below_drewN (Below.refl _ _) q4)
    have B4 := Go.below_drewN B3 q4
    clear cE r2b r3 B3
    revert r2c B4
    generalize w3.drewN q4 = w4
    intro r2c B4
    go_wp2_with fail
    refine (CT.out a2 c2 _ r2c hc2).mono ?_
    rintro e w5 ⟨rfl, b5⟩
    have r2d := r2c.below b5
    have B5 := B4.trans (b5.mono B4.size)
    have ca := ascends_yes a2 R c2 w5 r2d (by omega) HAS.out
    clear b5 r2c B4
    go_wp2_with fail
    refine ca.mono ?_
    rintro e w6 ⟨rfl, q6, rfl⟩
    go_wp2
    go_ret
    exact ⟨rfl, Go.below_drewN B5 q6⟩
end Go.Proofs.YtoaiaindcmihjaaGreatDoor
/-
  The desk: texts cut at a byte, numbers read and written.
-/
namespace Go.Proofs.YtoaiaindcmihjaaGreatDoor

def cst (c : UInt8) (p : List (List UInt8) × List UInt8) (x : UInt8) : List (List UInt8) × List UInt8 := if x = c then (p.1 ++ [p.2], []) else (p.1, p.2 ++ [x])
/-- What is cut off, and what stands behind the last cut. -/
def cut (c : UInt8) (s : List UInt8) : List (List UInt8) × List UInt8 := s.foldl (cst c) ([], [])
/-- The pieces of a text between the bytes of a kind. -/
def pcs (c : UInt8) (s : List UInt8) : List (List UInt8) := (cut c s).1 ++ [(cut c s).2]
theorem cut_snoc (c : UInt8) (s : List UInt8) (x : UInt8) : cut c (s ++ [x]) = cst c (cut c s) x := by simp [cut]
theorem snocU {α : Type} {P : List α → Prop} (h0 : P []) (h1 : ∀ s x, P s → P (s ++ [x])) : ∀ s, P s := by
  have h : ∀ s : List α, P s.reverse := by
    intro s
    induction s with
    | nil => simpa using h0
    | cons x s ih => rw [List.reverse_cons]; exact h1 _ _ ih
  intro s
  have := h s.reverse
  rwa [List.reverse_reverse] at this
theorem takeU {s : List UInt8} {i : Nat} (h : i < s.length) : s.take (i + 1) = s.take i ++ [s.getD i 0] := by
  rw [List.take_succ_eq_append_getElem h]; simp [List.getD, h]
/-- Where the last piece begins. -/
theorem cut_from (c : UInt8) (s : List UInt8) : ∃ f, f ≤ s.length ∧ (cut c s).2 = s.drop f := by
  revert s; refine snocU ⟨0, by simp, by simp [cut]⟩ fun s x ih => ?_
  · obtain ⟨f, h1, h2⟩ := ih
    rw [cut_snoc]
    unfold cst
    by_cases e : x = c
    · rw [if_pos e]; exact ⟨s.length + 1, by simp, by simp⟩
    · rw [if_neg e]
      refine ⟨f, by simp; omega, ?_⟩
      show (cut c s).2 ++ [x] = _
      rw [h2, List.drop_append_of_le_length h1]
theorem cut_len (c : UInt8) (s : List UInt8) : (cut c s).1.length ≤ s.length := by
  revert s; refine snocU (by simp [cut]) fun s x ih => ?_
  · rw [cut_snoc]
    unfold cst
    by_cases e : x = c
    · rw [if_pos e]; simp; omega
    · rw [if_neg e]; simp; omega
/-- One byte more of a number. -/
def rst (n : Int) (c : UInt8) : Int := if n < 0 ∨ n > 1000 ∨ isD c = false then -1 else 10 * n + ((c.toNat : Int) - 48)
def rnm0 (p : List UInt8) : Int := p.foldl rst 0
theorem rnm0_snoc (p : List UInt8) (c : UInt8) : rnm0 (p ++ [c]) = rst (rnm0 p) c := by simp [rnm0]
theorem rnm0_le (p : List UInt8) : -1 ≤ rnm0 p ∧ rnm0 p ≤ 10009 := by
  revert p; refine snocU (by simp [rnm0]) fun p c ih => ?_
  · rw [rnm0_snoc]
    unfold rst
    split
    · omega
    · rename_i h
      have hd : isD c = true := by
        cases e : isD c with
        | true => rfl
        | false => exact absurd (.inr (.inr e)) h
      unfold isD at hd
      have := of_decide_eq_true hd
      omega
/-- The number of a text in decimal, -1 if it is none. -/
def rnm (p : List UInt8) : Int := if p = [] ∨ rnm0 p < 0 ∨ dec (rnm0 p).toNat ≠ p then -1 else rnm0 p
/-- The numbers of a text. -/
def rls (s : List UInt8) : List Int := (pcs 44 s).map rnm
/-- A number of a list, - for those below 0. -/
def num1 (x : Int) : List UInt8 := if x < 0 then [45] else dec x.toNat
/-- Numbers with a comma between two of them. -/
def ltx : List Int → List UInt8
  | [] => []
  | [x] => num1 x
  | x :: y :: l => num1 x ++ [44] ++ ltx (y :: l)
theorem ltx_snoc (l : List Int) (x : Int) : ltx (l ++ [x]) = (if l = [] then [] else ltx l ++ [44]) ++ num1 x := by
  induction l with
  | nil => simp [ltx]
  | cons y l ih =>
    cases l with
    | nil => simp [ltx]
    | cons z l =>
      rw [List.cons_append, List.cons_append, ltx, ← List.cons_append, ih]
      simp [ltx]
end Go.Proofs.YtoaiaindcmihjaaGreatDoor
/-
  Texts cut into the runs of digits: what strings.FieldsFunc gives of a text, and of the text of a tree.
-/
namespace Go.Proofs.YtoaiaindcmihjaaGreatDoor

/-- No digit. -/
def isN (r : Nat) : Bool := decide (r < 48) || decide (57 < r)
theorem isN_isD (x : UInt8) : isN x.toNat = !isD x := by
  unfold isN isD
  by_cases h : 48 ≤ x.toNat ∧ x.toNat ≤ 57
  · rw [decide_eq_true h, decide_eq_false (by omega), decide_eq_false (by omega)]; rfl
  · rw [decide_eq_false h]
    by_cases h1 : x.toNat < 48
    · rw [decide_eq_true h1]; rfl
    · rw [decide_eq_false h1, decide_eq_true (by omega)]; rfl
/-- The runs of digits; the first one may have begun. -/
def frun : List UInt8 → Option (List UInt8) → List (List UInt8)
  | [], st => st.toList
  | x :: t, st => if isD x = true then frun t (some (st.getD [] ++ [x])) else st.toList ++ frun t none
theorem frun_nod {s : List UInt8} (h : nod s) (p : List UInt8) : frun s (some p) = p :: frun s none := by
  cases s with
  | nil => rfl
  | cons c t => rw [frun, frun, h c t rfl]; simp
theorem frun_app : ∀ (p s : List UInt8) (q : List UInt8), (∀ c ∈ p, isD c = true) → frun (p ++ s) (some q) = frun s (some (q ++ p)) := by
  intro p
  induction p with
  | nil => intro s q _; simp
  | cons c p ih =>
    intro s q h
    rw [List.cons_append, frun, if_pos (h c (by simp)), ih _ _ (fun x hx => h x (List.mem_cons_of_mem _ hx))]
    simp
theorem dec_isD : ∀ (n : Nat), ∀ c ∈ dec n, isD c = true := by
  intro n
  induction n using Nat.strongRecOn with
  | ind n ih =>
    intro c hc
    by_cases h : n < 10
    · rw [dec_lt h, List.mem_singleton] at hc
      rw [hc]; exact isD_dgt h
    · rw [dec_ge h, List.mem_append, List.mem_singleton] at hc
      rcases hc with hc | hc
      · exact ih (n / 10) (by omega) c hc
      · rw [hc]; exact isD_dgt (by omega)
theorem frun_dec (n : Nat) {s : List UInt8} (h : nod s) : frun (dec n ++ s) none = dec n :: frun s none := by
  obtain ⟨m, t, h1, h2⟩ := dec_head n
  have hd := dec_isD n
  rw [h2] at hd ⊢
  rw [List.cons_append, frun, if_pos (hd _ (by simp)), frun_app t s _ (fun c hc => hd c (by simp [hc])), frun_nod h]
  simp
theorem frun_sep {c : UInt8} (h : isD c = false) (s : List UInt8) : frun (c :: s) none = frun s none := by
  rw [frun, h]; simp
/-- The runs of digits of the text of a tree are its names. -/
theorem frun_ttr {l : List Int} (hn : l.Nodup) (hr : ∀ x ∈ l, 0 ≤ x ∧ x ≤ 63) : ∀ f d e s, f + d = 6 → e < 2 ^ d → nod s → frun (ttr l f d e ++ s) none = (lvs l f d e).map (fun x => dec x.toNat) ++ frun s none := by
  have one : ∀ f d e s, (tfl l d e).length ≤ 1 → nod s → frun (ttr l f d e ++ s) none = (tfl l d e).map (fun x => dec x.toNat) ++ frun s none := by
    intro f d e s h hs
    rcases tfl_cases l d e with h0 | ⟨x, h1⟩ | h2
    · rw [ttr_none h0, h0, List.singleton_append, frun_sep (by decide)]; rfl
    · rw [ttr_one h1, h1, frun_dec _ hs]; rfl
    · omega
  intro f
  induction f with
  | zero =>
    intro d e s hf he hs
    obtain rfl : d = 6 := by omega
    exact one 0 6 e s (tfl_six hn hr e) hs
  | succ f ih =>
    intro d e s hf he hs
    have hp : 2 ^ (d + 1) = 2 * 2 ^ d := by rw [Nat.pow_succ]; omega
    by_cases h : (tfl l d e).length ≤ 1
    · rw [lvs, if_pos h]; exact one (f + 1) d e s h hs
    · rw [lvs, if_neg h, ttr_more (by omega)]
      have e1 : [40] ++ ttr l f (d + 1) e ++ [32] ++ ttr l f (d + 1) (e + 2 ^ d) ++ [41] ++ s = 40 :: (ttr l f (d + 1) e ++ 32 :: (ttr l f (d + 1) (e + 2 ^ d) ++ 41 :: s)) := by simp
      rw [e1, frun_sep (by decide), ih (d + 1) e _ (by omega) (by omega) (nod_cons (by decide)), frun_sep (by decide), ih (d + 1) (e + 2 ^ d) _ (by omega) (by omega) (nod_cons (by decide)), frun_sep (by decide)]
      simp
theorem ttr_ascii (l : List Int) : ∀ f d e, ∀ c ∈ ttr l f d e, c.toNat < 128 := by
  have dg : ∀ n, ∀ c ∈ dec n, c.toNat < 128 := fun n c hc => by
    have := dec_isD n c hc
    unfold isD at this
    have := of_decide_eq_true this
    omega
  intro f
  induction f with
  | zero =>
    intro d e c hc
    rcases tfl_cases l d e with h0 | ⟨x, h1⟩ | h2
    · rw [ttr_none h0, List.mem_singleton] at hc; rw [hc]; decide
    · rw [ttr_one h1] at hc; exact dg _ c hc
    · cases hx : tfl l d e with
      | nil => rw [hx] at h2; simp at h2
      | cons x t =>
        rw [ttr, hx] at hc
        exact dg _ c hc
  | succ f ih =>
    intro d e c hc
    rcases tfl_cases l d e with h0 | ⟨x, h1⟩ | h2
    · rw [ttr_none h0, List.mem_singleton] at hc; rw [hc]; decide
    · rw [ttr_one h1] at hc; exact dg _ c hc
    · rw [ttr_more h2] at hc
      simp only [List.mem_append, List.mem_singleton] at hc
      rcases hc with (((hc | hc) | hc) | hc) | hc
      · rw [hc]; decide
      · exact ih _ _ c hc
      · rw [hc]; decide
      · exact ih _ _ c hc
      · rw [hc]; decide
/-- The fields, by the pass over the runes, of a text in ASCII. -/
theorem spans_ascii (s : List UInt8) (ha : ∀ c ∈ s, c.toNat < 128) : ∀ (f pos : Nat) (st : Option Nat) (acc : List (Nat × Nat)), s.length ≤ pos + f → pos ≤ s.length → (∀ a, st = some a → a ≤ pos) →
    (Go.Lib.closeSpans (B8 s) (Go.Lib.spansFromP isN (B8 s) f pos st acc)).map (fun p => (s.drop p.1).take (p.2 - p.1)) = acc.map (fun p => (s.drop p.1).take (p.2 - p.1)) ++ frun (s.drop pos) (st.map fun a => (s.drop a).take (pos - a)) := by
  have hsz : (B8 s).size = s.length := by show s.toArray.size = _; simp
  intro f
  induction f with
  | zero =>
    intro pos st acc h hp hst
    obtain rfl : pos = s.length := by omega
    rw [List.drop_length]
    cases st with
    | none => simp [Go.Lib.spansFromP, Go.Lib.closeSpans, frun]
    | some a => simp [Go.Lib.spansFromP, Go.Lib.closeSpans, frun, hsz]
  | succ f ih =>
    intro pos st acc h hp hst
    by_cases hlt : pos < s.length
    · have hx : s.drop pos = s[pos] :: s.drop (pos + 1) := (List.drop_eq_getElem_cons hlt)
      have hdc : Utf8.decode (B8 s) pos = (s[pos].toNat, 1) := by
        rw [← Go.Lib.decodeL_drop]
        show Go.Lib.decodeL (s.drop pos) = _
        rw [hx]
        rw [Go.Lib.decodeL_N]
        exact Go.Lib.decodeN_ascii _ _ _ _ _ (ha _ (List.getElem_mem hlt))
      simp only [Go.Lib.spansFromP]
      rw [if_pos (by rw [hsz]; exact hlt), hdc, isN_isD, hx, frun]
      have grow : ∀ a, a ≤ pos → (s.drop a).take (pos + 1 - a) = (s.drop a).take (pos - a) ++ [s[pos]] := fun a h => by
        rw [show pos + 1 - a = pos - a + 1 by omega, List.take_add_one]
        congr 1
        rw [List.getElem?_drop, show a + (pos - a) = pos by omega]
        simp [hlt]
      cases hd : isD s[pos] with
      | true =>
        simp only [Bool.not_true, Bool.false_eq_true, if_false, if_true]
        cases st with
        | none =>
          rw [ih (pos + 1) (some pos) acc (by omega) (by omega) (fun a h => by cases h; omega)]
          have := grow pos (Nat.le_refl _)
          simp only [Option.map_some, Option.map_none, Option.getD_none]
          rw [this]; simp
        | some a =>
          rw [ih (pos + 1) (some a) acc (by omega) (by omega) (fun b h => by cases h; have := hst a rfl; omega)]
          simp only [Option.map_some, Option.getD_some]
          rw [grow a (hst a rfl)]
      | false =>
        simp only [Bool.not_false, if_true, Bool.false_eq_true, if_false]
        cases st with
        | none =>
          rw [ih (pos + 1) none acc (by omega) (by omega) (fun a h => by cases h)]
          simp
        | some a =>
          rw [ih (pos + 1) none (acc ++ [(a, pos)]) (by omega) (by omega) (fun a h => by cases h)]
          simp
    · obtain rfl : pos = s.length := by omega
      rw [Go.Lib.spansFromP_end _ _ _ _ _ _ (by rw [hsz]; omega), List.drop_length]
      cases st with
      | none => simp [Go.Lib.closeSpans, frun]
      | some a => simp [Go.Lib.closeSpans, frun, hsz]
theorem fields_ascii (s : List UInt8) (ha : ∀ c ∈ s, c.toNat < 128) : Go.Lib.goFieldsP isN (B8 s) = (frun s none).map B8 := by
  have hsz : (B8 s).size = s.length := by show s.toArray.size = _; simp
  have h := spans_ascii s ha (B8 s).size 0 none [] (by rw [hsz]; omega) (by omega) (fun a h => by cases h)
  unfold Go.Lib.goFieldsP Go.Lib.spansOfP
  simp only [List.map_nil, List.nil_append, List.drop_zero, Option.map_none] at h
  rw [← h, List.map_map]
  refine List.map_congr_left fun p _ => ?_
  show (B8 s).extract p.1 p.2 = B8 ((s.drop p.1).take (p.2 - p.1))
  exact ByteArray.extract_mk s p.1 p.2
/-- The fields of the text of a tree. -/
theorem fields_TXT {l : List Int} (hv : VNm l = true) : Go.Lib.goFieldsP isN (B8 (TXT l)) = ((lvs l 6 0 0).map (fun x => dec x.toNat)).map B8 := by
  obtain ⟨h1, h2, h3⟩ := VNm_iff.1 hv
  have e : TXT l = ttr l 6 0 0 := by unfold TXT; rw [if_pos hv]
  rw [e, fields_ascii _ (ttr_ascii l 6 0 0)]
  have := frun_ttr h3 h2 6 0 0 [] rfl (by simp) nod_nil
  rw [List.append_nil] at this
  rw [this]
  simp [frun]
end Go.Proofs.YtoaiaindcmihjaaGreatDoor
/-
  Numbers that are read as strconv reads them, and written back.
-/
namespace Go.Proofs.YtoaiaindcmihjaaGreatDoor

theorem dec_eq (n : Nat) : Go.Lib.decDigits n = dec n := by
  induction n using Nat.strongRecOn with
  | ind n ih =>
    by_cases h : n < 10
    · rw [Go.Lib.decDigits_one h, dec_lt h]; rfl
    · rw [Go.Lib.decDigits, dif_neg h, ih (n / 10) (by omega), dec_ge h]; rfl
theorem itoa_nat (n : Nat) : Go.Lib.itoa (n : Int) = dec n := by
  unfold Go.Lib.itoa
  rw [if_neg (by omega), Int.toNat_natCast, dec_eq]
theorem itoa_neg {v : Int} (h : v < 0) : Go.Lib.itoa v = 45 :: dec v.natAbs := by
  unfold Go.Lib.itoa
  rw [if_pos h, dec_eq]
theorem pu_app : ∀ (l r : List UInt8) (acc u : Nat), Go.Lib.parseUint10 acc l = .ok u → Go.Lib.parseUint10 acc (l ++ r) = Go.Lib.parseUint10 u r := by
  intro l
  induction l with
  | nil => intro r acc u h; simp only [Go.Lib.parseUint10] at h; injection h with h; rw [List.nil_append, h]
  | cons c l ih =>
    intro r acc u h
    simp only [Go.Lib.parseUint10, List.cons_append] at h ⊢
    split at h
    · rename_i h1
      split at h
      · cases h
      · rename_i h2
        split at h
        · cases h
        · rename_i h3
          rw [if_pos h1, if_neg h2, if_neg h3]
          exact ih r _ u h
    · cases h
theorem pu_dec : ∀ n : Nat, n < 1000000000000000 → Go.Lib.parseUint10 0 (dec n) = .ok n := by
  intro n
  induction n using Nat.strongRecOn with
  | ind n ih =>
    intro hn
    have one : ∀ (a m : Nat), a < 1000000000000000 → m < 10 → Go.Lib.parseUint10 a [dgt m] = .ok (10 * a + m) := fun a m ha hm => by
      have := dgt_toNat hm
      simp only [Go.Lib.parseUint10]
      rw [this, if_pos (by omega), if_neg (by omega), if_neg (by omega)]
      congr 1; omega
    by_cases h : n < 10
    · rw [dec_lt h, one 0 n (by omega) h]; congr 1; omega
    · rw [dec_ge h, pu_app _ _ _ _ (ih (n / 10) (by omega) (by omega)), one _ _ (by omega) (by omega)]
      congr 1; omega
/-- What is written is read. -/
theorem atoi_dec {n : Nat} (h : n < 1000000000000000) : Go.Lib.atoiAll (dec n) = .ok (n : Int) := by
  have hp := pu_dec n h
  obtain ⟨m, t, h1, h2⟩ := dec_head n
  have hd := dgt_toNat h1
  rw [h2] at hp ⊢
  unfold Go.Lib.atoiAll Go.Lib.parseMag
  simp only
  rw [if_neg (show ¬ ((dgt m).toNat = 43 ∨ (dgt m).toNat = 45) by omega), if_neg (by simp), hp]
  simp only
  rw [if_neg (by omega), if_neg (by omega), if_neg (by omega)]
/-- The number of a field, if it is written so. -/
def rnb (p : List UInt8) : Option Int := match Go.Lib.atoiAll p with
  | .ok v => if Go.Lib.itoa v = p then some v else none
  | _ => none
theorem rnb_some {p : List UInt8} {v : Int} (h : rnb p = some v) : Go.Lib.atoiAll p = .ok v ∧ Go.Lib.itoa v = p := by
  unfold rnb at h
  split at h
  · rename_i u e
    split at h
    · rename_i g; injection h with h; subst h; exact ⟨e, g⟩
    · cases h
  · cases h
theorem rnb_dec {n : Nat} (h : n < 1000000000000000) : rnb (dec n) = some (n : Int) := by
  unfold rnb
  rw [atoi_dec h]
  simp only
  rw [if_pos (itoa_nat n)]
/-- The numbers of the fields, if each one is one. -/
def rds : List (List UInt8) → Option (List Int)
  | [] => some []
  | p :: l => match rnb p, rds l with
    | some v, some r => some (v :: r)
    | _, _ => none
theorem rds_snoc (l : List (List UInt8)) (p : List UInt8) : rds (l ++ [p]) = match rds l, rnb p with
    | some r, some v => some (r ++ [v])
    | _, _ => none := by
  induction l with
  | nil => rw [List.nil_append, rds, rds]; cases rnb p <;> rfl
  | cons q l ih =>
    rw [List.cons_append, rds, ih, rds]
    cases rnb q <;> cases rds l <;> cases rnb p <;> rfl
theorem rds_len {l : List (List UInt8)} {r : List Int} : rds l = some r → r.length = l.length := by
  induction l generalizing r with
  | nil => intro h; rw [rds] at h; injection h with h; rw [← h]; rfl
  | cons q l ih =>
    intro h
    rw [rds] at h
    split at h
    · rename_i v s h1 h2; injection h with h; rw [← h]; simp [ih h2]
    · cases h
theorem rds_none {l r : List (List UInt8)} (h : rds l = none) : rds (l ++ r) = none := by
  induction l with
  | nil => rw [rds] at h; cases h
  | cons q l ih =>
    rw [rds] at h
    rw [List.cons_append, rds]
    split at h
    · cases h
    · rename_i h1
      cases e : rnb q with
      | none => rfl
      | some v =>
        cases e2 : rds l with
        | none => rw [ih e2]
        | some s => exact (h1 v s e e2).elim
theorem rds_decs {l : List Int} (hr : ∀ x ∈ l, 0 ≤ x ∧ x ≤ 63) : rds (l.map (fun x => dec x.toNat)) = some l := by
  induction l with
  | nil => rfl
  | cons x l ih =>
    have hx := hr x (by simp)
    rw [List.map_cons, rds, rnb_dec (by omega), ih (fun y hy => hr y (List.mem_cons_of_mem _ hy)), show ((x.toNat : Nat) : Int) = x by omega]
/-- The names of a text, by its fields F. -/
theorem RT_fields {s : List UInt8} {F : List (List UInt8)} (hF : ∀ l, VNm l = true → TXT l = s → F = (lvs l 6 0 0).map (fun x => dec x.toNat)) (h0 : s = [] → F = []) :
    RT s = match rds F with | some N => if TXT (srt N) = s then some (srt N) else none | none => none := by
  cases hR : RT s with
  | some R =>
    obtain ⟨h1, h2, h3⟩ := RT_iff.1 hR
    obtain ⟨_, hr, _⟩ := VNm_iff.1 h1
    have hp := lvs_perm R 6 0 0 (by simp)
    rw [tfl_zero] at hp
    rw [hF R h1 h3, rds_decs (fun x hx => hr x (hp.mem_iff.1 hx))]
    simp only
    have e : srt (lvs R 6 0 0) = R := by rw [srt_congr hp, srt_id h2]
    rw [e, if_pos h3]
  | none =>
    cases hN : rds F with
    | none => rfl
    | some N =>
      simp only
      by_cases h : TXT (srt N) = s
      · exfalso
        by_cases hs : s = []
        · rw [h0 hs, rds] at hN
          injection hN with hN
          rw [← hN, hs] at h
          have hv0 : VNm (srt []) = true := by rw [VNm_iff]; simp [srt]
          exact TXT_ne.2 hv0 h
        · have hv : VNm (srt N) = true := TXT_ne.1 (by rw [h]; exact hs)
          rw [RT_iff.2 ⟨hv, srt_sorted N, h⟩] at hR
          cases hR
      · rw [if_neg h]
end Go.Proofs.YtoaiaindcmihjaaGreatDoor
/-
  strconv.Atoi (what the kit's shelf lays, written out: wip/tools/laysay.py prints it).
-/
namespace Go.Proofs
open Go.RowKit
def Tryz.atoiA_ren : Go.Shelf.Ren := ⟨fun | 172 => 88 | 244 => 121 | 245 => 122 | 247 => 146 | 279 => 147 | 280 => 148 | 281 => 149 | 282 => 150 | 287 => 171 | 316 => 172 | 171 => 57 | 205 => 173 | 321 => 191 | 322 => 192 | 243 => 87 | 246 => 120 | 283 => 142 | 284 => 143 | 285 => 144 | 286 => 145 | 129 => 118 | 317 => 167 | 318 => 168 | 319 => 169 | 320 => 170 | 337 => 189 | 338 => 190 | n => n, fun | 9 => 9 | 3 => 3 | 75 => 53 | 76 => 69 | 4 => 4 | 5 => 5 | 167 => 174 | 37 => 22 | 0 => 0 | 85 => 175 | 2 => 2 | 168 => 177 | 53 => 152 | 175 => 191 | 46 => 114 | 210 => 194 | 127 => 105 | 145 => 209 | 143 => 207 | 21 => 21 | 171 => 170 | 173 => 172 | 212 => 189 | 51 => 150 | 20 => 20 | 213 => 190 | 232 => 220 | 233 => 221 | 80 => 50 | n => n, fun | 15 => 3 | 16 => 4 | 17 => 2 | 18 => 7 | 19 => 8 | n => n⟩
theorem Tryz.atoiA : Go.Proofs.LaysC.n172 Tryz.prog Tryz.atoiA_ren where
  mixed := by kernel_rfl
  f129 := Tryz.func118.trans (congrArg some (by kernel_rfl))
  f171 := Tryz.func57.trans (congrArg some (by kernel_rfl))
  f172 := Tryz.func88.trans (congrArg some (by kernel_rfl))
  f205 := Tryz.func173.trans (congrArg some (by kernel_rfl))
  f243 := Tryz.func87.trans (congrArg some (by kernel_rfl))
  f244 := Tryz.func121.trans (congrArg some (by kernel_rfl))
  f245 := Tryz.func122.trans (congrArg some (by kernel_rfl))
  f246 := Tryz.func120.trans (congrArg some (by kernel_rfl))
  f247 := Tryz.func146.trans (congrArg some (by kernel_rfl))
  f279 := Tryz.func147.trans (congrArg some (by kernel_rfl))
  f280 := Tryz.func148.trans (congrArg some (by kernel_rfl))
  f281 := Tryz.func149.trans (congrArg some (by kernel_rfl))
  f282 := Tryz.func150.trans (congrArg some (by kernel_rfl))
  f283 := Tryz.func142.trans (congrArg some (by kernel_rfl))
  f284 := Tryz.func143.trans (congrArg some (by kernel_rfl))
  f285 := Tryz.func144.trans (congrArg some (by kernel_rfl))
  f286 := Tryz.func145.trans (congrArg some (by kernel_rfl))
  f287 := Tryz.func171.trans (congrArg some (by kernel_rfl))
  f316 := Tryz.func172.trans (congrArg some (by kernel_rfl))
  f317 := Tryz.func167.trans (congrArg some (by kernel_rfl))
  f318 := Tryz.func168.trans (congrArg some (by kernel_rfl))
  f319 := Tryz.func169.trans (congrArg some (by kernel_rfl))
  f320 := Tryz.func170.trans (congrArg some (by kernel_rfl))
  f321 := Tryz.func191.trans (congrArg some (by kernel_rfl))
  f322 := Tryz.func192.trans (congrArg some (by kernel_rfl))
  f337 := Tryz.func189.trans (congrArg some (by kernel_rfl))
  f338 := Tryz.func190.trans (congrArg some (by kernel_rfl))
  t0 := Tryz.underlying0
  a0 := Tryz.isAgg0
  z0 := Tryz.sizeOf0
  v0 := Tryz.zeroValue0
  t2 := Tryz.underlying2
  a2 := Tryz.isAgg2
  z2 := Tryz.sizeOf2
  v2 := Tryz.zeroValue2
  t3 := Tryz.underlying3
  a3 := Tryz.isAgg3
  z3 := Tryz.sizeOf3
  v3 := Tryz.zeroValue3
  t4 := Tryz.underlying4
  a4 := Tryz.isAgg4
  z4 := Tryz.sizeOf4
  v4 := Tryz.zeroValue4
  t5 := Tryz.underlying5
  a5 := Tryz.isAgg5
  z5 := Tryz.sizeOf5
  v5 := Tryz.zeroValue5
  t9 := Tryz.underlying9
  a9 := Tryz.isAgg9
  z9 := Tryz.sizeOf9
  v9 := Tryz.zeroValue9
  t20 := Tryz.underlying20
  a20 := Tryz.isAgg20
  z20 := Tryz.sizeOf20
  v20 := Tryz.zeroValue20
  t21 := Tryz.underlying21
  a21 := Tryz.isAgg21
  z21 := Tryz.sizeOf21
  v21 := Tryz.zeroValue21
  t37 := Tryz.underlying22
  a37 := Tryz.isAgg22
  z37 := Tryz.sizeOf22
  v37 := Tryz.zeroValue22
  t46 := Tryz.underlying114
  a46 := Tryz.isAgg114
  z46 := Tryz.sizeOf114
  v46 := Tryz.zeroValue114
  t51 := Tryz.underlying150
  a51 := Tryz.isAgg150
  z51 := Tryz.sizeOf150
  v51 := Tryz.zeroValue150
  t53 := Tryz.underlying152
  a53 := Tryz.isAgg152
  z53 := Tryz.sizeOf152
  v53 := Tryz.zeroValue152
  t75 := Tryz.underlying53
  a75 := Tryz.isAgg53
  z75 := Tryz.sizeOf53
  v75 := Tryz.zeroValue53
  t76 := Tryz.underlying69
  a76 := Tryz.isAgg69
  z76 := Tryz.sizeOf69
  v76 := Tryz.zeroValue69
  t85 := Tryz.underlying175
  a85 := Tryz.isAgg175
  z85 := Tryz.sizeOf175
  v85 := Tryz.zeroValue175
  t127 := Tryz.underlying105
  a127 := Tryz.isAgg105
  z127 := Tryz.sizeOf105
  v127 := Tryz.zeroValue105
  t143 := Tryz.underlying207
  a143 := Tryz.isAgg207
  z143 := Tryz.sizeOf207
  v143 := Tryz.zeroValue207
  t145 := Tryz.underlying209
  a145 := Tryz.isAgg209
  z145 := Tryz.sizeOf209
  v145 := Tryz.zeroValue209
  t167 := Tryz.underlying174
  a167 := Tryz.isAgg174
  z167 := Tryz.sizeOf174
  v167 := Tryz.zeroValue174
  t168 := Tryz.underlying177
  a168 := Tryz.isAgg177
  z168 := Tryz.sizeOf177
  v168 := Tryz.zeroValue177
  t171 := Tryz.underlying170
  a171 := Tryz.isAgg170
  z171 := Tryz.sizeOf170
  v171 := Tryz.zeroValue170
  t173 := Tryz.underlying172
  a173 := Tryz.isAgg172
  z173 := Tryz.sizeOf172
  v173 := Tryz.zeroValue172
  t175 := Tryz.underlying191
  a175 := Tryz.isAgg191
  z175 := Tryz.sizeOf191
  v175 := Tryz.zeroValue191
  t210 := Tryz.underlying194
  a210 := Tryz.isAgg194
  z210 := Tryz.sizeOf194
  v210 := Tryz.zeroValue194
  t212 := Tryz.underlying189
  a212 := Tryz.isAgg189
  z212 := Tryz.sizeOf189
  v212 := Tryz.zeroValue189
  t213 := Tryz.underlying190
  a213 := Tryz.isAgg190
  z213 := Tryz.sizeOf190
  t232 := Tryz.underlying220
  a232 := Tryz.isAgg220
  z232 := Tryz.sizeOf220
  v232 := Tryz.zeroValue220
  t233 := Tryz.underlying221
  a233 := Tryz.isAgg221
  z233 := Tryz.sizeOf221
  v233 := Tryz.zeroValue221
  g15 := by kernel_rfl
  g16 := by kernel_rfl
  g17 := by kernel_rfl
  g18 := by kernel_rfl
  g19 := by kernel_rfl
  t80 := Tryz.underlying50
  a80 := Tryz.isAgg50
  z80 := Tryz.sizeOf50
  v80 := Tryz.zeroValue50
  i0 := by kernel_rfl
  i2 := by kernel_rfl
  i3 := by kernel_rfl
  i4 := by kernel_rfl
  i5 := by kernel_rfl
  i9 := by kernel_rfl
  i20 := by kernel_rfl
  i21 := by kernel_rfl
  i37 := by kernel_rfl
  i46 := by kernel_rfl
  i51 := by kernel_rfl
  i53 := by kernel_rfl
  i75 := by kernel_rfl
  i76 := by kernel_rfl
  i80 := by kernel_rfl
  i85 := by kernel_rfl
  i127 := by kernel_rfl
  i143 := by kernel_rfl
  i145 := by kernel_rfl
  i167 := by kernel_rfl
  i168 := by kernel_rfl
  i171 := by kernel_rfl
  i173 := by kernel_rfl
  i175 := by kernel_rfl
  i210 := by kernel_rfl
  i212 := by kernel_rfl
  i232 := by kernel_rfl
  i233 := by kernel_rfl
  m15 := by kernel_rfl
  m16 := by kernel_rfl
  m17 := by kernel_rfl
  m18 := by kernel_rfl
  m19 := by kernel_rfl
  c0 := by kernel_rfl
  c2 := by kernel_rfl
  c3 := by kernel_rfl
  c4 := by kernel_rfl
  c5 := by kernel_rfl
  c9 := by kernel_rfl
  c20 := by kernel_rfl
  c21 := by kernel_rfl
  c37 := by kernel_rfl
  c46 := by kernel_rfl
  c51 := by kernel_rfl
  c53 := by kernel_rfl
  c75 := by kernel_rfl
  c76 := by kernel_rfl
  c80 := by kernel_rfl
  c85 := by kernel_rfl
  c127 := by kernel_rfl
  c143 := by kernel_rfl
  c145 := by kernel_rfl
  c167 := by kernel_rfl
  c168 := by kernel_rfl
  c171 := by kernel_rfl
  c173 := by kernel_rfl
  c175 := by kernel_rfl
  c210 := by kernel_rfl
  c212 := by kernel_rfl
  c213 := by kernel_rfl
  c232 := by kernel_rfl
  c233 := by kernel_rfl
end Go.Proofs
/-
  strconv.Itoa (what the kit's shelf lays, written out: wip/tools/laysay.py prints it).
-/
namespace Go.Proofs
open Go.RowKit
def Tryz.itoaA_ren : Go.Shelf.Ren := ⟨fun | 171 => 57 | 243 => 87 | 246 => 120 | 283 => 142 | 284 => 143 | 285 => 144 | 286 => 145 | 129 => 118 | 317 => 167 | 318 => 168 | 319 => 169 | 320 => 170 | 337 => 189 | 338 => 190 | n => n, fun | 3 => 3 | 9 => 9 | 2 => 2 | 4 => 4 | 171 => 170 | 0 => 0 | 53 => 152 | 37 => 22 | 5 => 5 | 173 => 172 | 212 => 189 | 51 => 150 | 20 => 20 | 213 => 190 | 46 => 114 | 232 => 220 | 233 => 221 | n => n, fun | 17 => 2 | 18 => 7 | 19 => 8 | n => n⟩
theorem Tryz.itoaA : Go.Proofs.Lays.n171 Tryz.prog Tryz.itoaA_ren where
  mixed := by kernel_rfl
  f129 := Tryz.func118.trans (congrArg some (by kernel_rfl))
  f171 := Tryz.func57.trans (congrArg some (by kernel_rfl))
  f243 := Tryz.func87.trans (congrArg some (by kernel_rfl))
  f246 := Tryz.func120.trans (congrArg some (by kernel_rfl))
  f283 := Tryz.func142.trans (congrArg some (by kernel_rfl))
  f284 := Tryz.func143.trans (congrArg some (by kernel_rfl))
  f285 := Tryz.func144.trans (congrArg some (by kernel_rfl))
  f286 := Tryz.func145.trans (congrArg some (by kernel_rfl))
  f317 := Tryz.func167.trans (congrArg some (by kernel_rfl))
  f318 := Tryz.func168.trans (congrArg some (by kernel_rfl))
  f319 := Tryz.func169.trans (congrArg some (by kernel_rfl))
  f320 := Tryz.func170.trans (congrArg some (by kernel_rfl))
  f337 := Tryz.func189.trans (congrArg some (by kernel_rfl))
  f338 := Tryz.func190.trans (congrArg some (by kernel_rfl))
  t0 := Tryz.underlying0
  a0 := Tryz.isAgg0
  z0 := Tryz.sizeOf0
  v0 := Tryz.zeroValue0
  t2 := Tryz.underlying2
  a2 := Tryz.isAgg2
  z2 := Tryz.sizeOf2
  v2 := Tryz.zeroValue2
  t3 := Tryz.underlying3
  a3 := Tryz.isAgg3
  z3 := Tryz.sizeOf3
  v3 := Tryz.zeroValue3
  t4 := Tryz.underlying4
  a4 := Tryz.isAgg4
  z4 := Tryz.sizeOf4
  v4 := Tryz.zeroValue4
  t5 := Tryz.underlying5
  a5 := Tryz.isAgg5
  z5 := Tryz.sizeOf5
  v5 := Tryz.zeroValue5
  t9 := Tryz.underlying9
  a9 := Tryz.isAgg9
  z9 := Tryz.sizeOf9
  v9 := Tryz.zeroValue9
  t20 := Tryz.underlying20
  a20 := Tryz.isAgg20
  z20 := Tryz.sizeOf20
  v20 := Tryz.zeroValue20
  t37 := Tryz.underlying22
  a37 := Tryz.isAgg22
  z37 := Tryz.sizeOf22
  v37 := Tryz.zeroValue22
  t46 := Tryz.underlying114
  a46 := Tryz.isAgg114
  z46 := Tryz.sizeOf114
  v46 := Tryz.zeroValue114
  t51 := Tryz.underlying150
  a51 := Tryz.isAgg150
  z51 := Tryz.sizeOf150
  v51 := Tryz.zeroValue150
  t53 := Tryz.underlying152
  a53 := Tryz.isAgg152
  z53 := Tryz.sizeOf152
  v53 := Tryz.zeroValue152
  t171 := Tryz.underlying170
  a171 := Tryz.isAgg170
  z171 := Tryz.sizeOf170
  v171 := Tryz.zeroValue170
  t173 := Tryz.underlying172
  a173 := Tryz.isAgg172
  z173 := Tryz.sizeOf172
  v173 := Tryz.zeroValue172
  t212 := Tryz.underlying189
  a212 := Tryz.isAgg189
  z212 := Tryz.sizeOf189
  v212 := Tryz.zeroValue189
  t213 := Tryz.underlying190
  a213 := Tryz.isAgg190
  z213 := Tryz.sizeOf190
  t232 := Tryz.underlying220
  a232 := Tryz.isAgg220
  z232 := Tryz.sizeOf220
  v232 := Tryz.zeroValue220
  t233 := Tryz.underlying221
  a233 := Tryz.isAgg221
  z233 := Tryz.sizeOf221
  v233 := Tryz.zeroValue221
  g17 := by kernel_rfl
  g18 := by kernel_rfl
  g19 := by kernel_rfl
def Tryz.itoaM_ren : Go.Shelf.Ren := ⟨fun | 171 => 57 | 243 => 87 | 246 => 120 | 283 => 142 | 284 => 143 | 285 => 144 | 286 => 145 | 129 => 118 | 317 => 167 | 318 => 168 | 319 => 169 | 320 => 170 | 337 => 189 | 338 => 190 | n => n, fun | 3 => 3 | 9 => 9 | 2 => 2 | 4 => 4 | 171 => 170 | 0 => 0 | 53 => 152 | 37 => 22 | 5 => 5 | 173 => 172 | 212 => 189 | 51 => 150 | 20 => 20 | 213 => 190 | 46 => 114 | 232 => 220 | 233 => 221 | n => n, fun | 17 => 2 | 18 => 7 | 19 => 8 | n => n⟩
theorem Tryz.itoaM : Go.Proofs.LaysM.n171 Tryz.prog Tryz.itoaM_ren where
  mixed := by kernel_rfl
  f129 := Tryz.func118.trans (congrArg some (by kernel_rfl))
  f171 := Tryz.func57.trans (congrArg some (by kernel_rfl))
  f243 := Tryz.func87.trans (congrArg some (by kernel_rfl))
  f246 := Tryz.func120.trans (congrArg some (by kernel_rfl))
  f283 := Tryz.func142.trans (congrArg some (by kernel_rfl))
  f284 := Tryz.func143.trans (congrArg some (by kernel_rfl))
  f285 := Tryz.func144.trans (congrArg some (by kernel_rfl))
  f286 := Tryz.func145.trans (congrArg some (by kernel_rfl))
  f317 := Tryz.func167.trans (congrArg some (by kernel_rfl))
  f318 := Tryz.func168.trans (congrArg some (by kernel_rfl))
  f319 := Tryz.func169.trans (congrArg some (by kernel_rfl))
  f320 := Tryz.func170.trans (congrArg some (by kernel_rfl))
  f337 := Tryz.func189.trans (congrArg some (by kernel_rfl))
  f338 := Tryz.func190.trans (congrArg some (by kernel_rfl))
  t0 := Tryz.underlying0
  a0 := Tryz.isAgg0
  z0 := Tryz.sizeOf0
  v0 := Tryz.zeroValue0
  t2 := Tryz.underlying2
  a2 := Tryz.isAgg2
  z2 := Tryz.sizeOf2
  v2 := Tryz.zeroValue2
  t3 := Tryz.underlying3
  a3 := Tryz.isAgg3
  z3 := Tryz.sizeOf3
  v3 := Tryz.zeroValue3
  t4 := Tryz.underlying4
  a4 := Tryz.isAgg4
  z4 := Tryz.sizeOf4
  v4 := Tryz.zeroValue4
  t5 := Tryz.underlying5
  a5 := Tryz.isAgg5
  z5 := Tryz.sizeOf5
  v5 := Tryz.zeroValue5
  t9 := Tryz.underlying9
  a9 := Tryz.isAgg9
  z9 := Tryz.sizeOf9
  v9 := Tryz.zeroValue9
  t20 := Tryz.underlying20
  a20 := Tryz.isAgg20
  z20 := Tryz.sizeOf20
  v20 := Tryz.zeroValue20
  t37 := Tryz.underlying22
  a37 := Tryz.isAgg22
  z37 := Tryz.sizeOf22
  v37 := Tryz.zeroValue22
  t46 := Tryz.underlying114
  a46 := Tryz.isAgg114
  z46 := Tryz.sizeOf114
  v46 := Tryz.zeroValue114
  t51 := Tryz.underlying150
  a51 := Tryz.isAgg150
  z51 := Tryz.sizeOf150
  v51 := Tryz.zeroValue150
  t53 := Tryz.underlying152
  a53 := Tryz.isAgg152
  z53 := Tryz.sizeOf152
  v53 := Tryz.zeroValue152
  t171 := Tryz.underlying170
  a171 := Tryz.isAgg170
  z171 := Tryz.sizeOf170
  v171 := Tryz.zeroValue170
  t173 := Tryz.underlying172
  a173 := Tryz.isAgg172
  z173 := Tryz.sizeOf172
  v173 := Tryz.zeroValue172
  t212 := Tryz.underlying189
  a212 := Tryz.isAgg189
  z212 := Tryz.sizeOf189
  v212 := Tryz.zeroValue189
  t213 := Tryz.underlying190
  a213 := Tryz.isAgg190
  z213 := Tryz.sizeOf190
  t232 := Tryz.underlying220
  a232 := Tryz.isAgg220
  z232 := Tryz.sizeOf220
  v232 := Tryz.zeroValue220
  t233 := Tryz.underlying221
  a233 := Tryz.isAgg221
  z233 := Tryz.sizeOf221
  v233 := Tryz.zeroValue221
  g17 := by kernel_rfl
  g18 := by kernel_rfl
  g19 := by kernel_rfl
  i0 := by kernel_rfl
  i2 := by kernel_rfl
  i3 := by kernel_rfl
  i4 := by kernel_rfl
  i5 := by kernel_rfl
  i9 := by kernel_rfl
  i20 := by kernel_rfl
  i37 := by kernel_rfl
  i46 := by kernel_rfl
  i51 := by kernel_rfl
  i53 := by kernel_rfl
  i171 := by kernel_rfl
  i173 := by kernel_rfl
  i212 := by kernel_rfl
  i232 := by kernel_rfl
  i233 := by kernel_rfl
  m17 := by kernel_rfl
  m18 := by kernel_rfl
  m19 := by kernel_rfl
end Go.Proofs
namespace Go.Proofs.YtoaiaindcmihjaaGreatDoor
open Go.RowKit
theorem itoaS_any (i : Nat) (w : World) (hi : i < 100) : Calls Tryz.prog 57 #[.int .i64 (i : Int)] w fun e w' => e = .returned (.string (B8 (dec i))) ∧ w = w' := by
  have c := Any.strconv_Itoa_small Tryz.itoaA i hi w
  rw [dec_eq] at c
  exact c.mono (fun e w' h => ⟨h.1, h.2.symm⟩)
end Go.Proofs.YtoaiaindcmihjaaGreatDoor
/-
  Slices of texts; spec.splitAt, listText.
-/
namespace Go.Proofs.YtoaiaindcmihjaaGreatDoor
open Go.RowKit

/-- The texts' values. -/
def strs (l : List (List UInt8)) : List Value := l.map fun s => .string (B8 s)
theorem strs_get {l : List (List UInt8)} {i : Nat} (h : i < l.length) : (strs l)[i]? = some (.string (B8 (l.getD i []))) := by simp [strs, List.getD, h]
/-- The slice (its address, its length) reads as the texts. -/
def ReadsX (w : World) (a : Option Addr) (l : List (List UInt8)) : Prop := l = [] ∨ ∃ b off, a = some ⟨b, off, none⟩ ∧ b < w.heap.size ∧ ∀ i, i < l.length → w.cell? ⟨b, off + i, none⟩ = some (.string (B8 (l.getD i [])))
theorem ReadsX.below {w w' : World} (h : Below w.heap.size w w') {a : Option Addr} {l : List (List UInt8)} (hc : ReadsX w a l) : ReadsX w' a l := by
  rcases hc with h0 | ⟨b, off, ha, hb, hc⟩
  · exact .inl h0
  · exact .inr ⟨b, off, ha, Nat.lt_of_lt_of_le hb h.size, fun i hi => (h.cell (p := ⟨b, off + i, none⟩) hb).trans (hc i hi)⟩
theorem ReadsX.get {w : World} {a : Option Addr} {l : List (List UInt8)} (h : ReadsX w a l) {k : Nat} (hk : k < l.length) : ∃ b off, a = some ⟨b, off, none⟩ ∧ b < w.heap.size ∧ w.cell? ⟨b, off + k, none⟩ = some (.string (B8 (l.getD k []))) := by
  rcases h with rfl | ⟨b, off, ha, hb, hc⟩
  · simp at hk
  · exact ⟨b, off, ha, hb, hc k hk⟩
/-- A slice of texts of the call's own. -/
def OwnX (w : World) (base : Nat) (v : Value) (l : List (List UInt8)) : Prop := w.ownsRow base 9 1 v l.length (strs l)
theorem OwnX.lt {w : World} {base : Nat} {v : Value} {l : List (List UInt8)} (h : OwnX w base v l) : ∀ k, v.ownBlock = some k → base ≤ k ∧ k < w.heap.size := World.ownsRow.lt h
theorem OwnX.kept {w w' : World} {base : Nat} {v : Value} {l : List (List UInt8)} {row : Option Nat} (h : OwnX w base v l) (hg : w.grownBy w' row) (hne : v.ownBlock = none ∨ v.ownBlock ≠ row) : OwnX w' base v l := World.ownsRow.kept h hg hne
theorem OwnX.below {w w' : World} {base : Nat} {v : Value} {l : List (List UInt8)} (hb : Below w.heap.size w w') (h : OwnX w base v l) : OwnX w' base v l :=
  World.ownsRow.kept h (row := none) ⟨hb.os, hb.tape, hb.output, hb.size, fun i hi _ => hb.block i hi⟩ (by cases hv : v.ownBlock with | none => exact .inl rfl | some q => exact .inr (fun e => by cases e))
theorem OwnX.form {w : World} {base : Nat} {v : Value} {l : List (List UInt8)} (h : OwnX w base v l) : ∃ a cap, v = .slice a l.length cap ∧ ReadsX w a l ∧ l.length ≤ cap ∧ cap ≤ maxLen := by
  rcases h.2 with ⟨rfl, h0⟩ | ⟨g, cap, cur, rfl, hb, hg, hn, hm, hs, ht⟩
  · exact ⟨none, 0, by rw [h0], .inl (List.eq_nil_of_length_eq_zero h0), by omega, by unfold maxLen; omega⟩
  · refine ⟨some ⟨g, 0, none⟩, cap, rfl, .inr ⟨g, 0, rfl, (Array.getElem?_eq_some_iff.1 hg).1, fun i hi => ?_⟩, hn, hm⟩
    rw [World.ownsRow.cellAt h (0 + i) (by omega), Nat.zero_add]
    exact strs_get hi
theorem OwnX.lit0 (w : World) (base : Nat) (hb : base ≤ w.heap.size) : OwnX (w.alloc (.cells #[] 9)) base (.slice (some ⟨w.heap.size, 0, none⟩) 0 0) [] :=
  World.ownsRow_lit w #[] 0 hb (by unfold maxLen; omega) rfl
theorem infoStr : (Tryz.prog.info? 9).map (fun i => (i.zero, i.size, i.bytes)) = some (some (.string ⟨#[]⟩), 1, 16) := by kernel_rfl
/-- 'append(s, x)' of one text onto a slice of the call's own. -/
theorem push_str {wr : World} {ops : Array Oper} {rest : List Oper} {o : Oper} {a : Act} {Q : Exit → Act → World → Prop} (hgd : o.guard = none) (s x : Operand)
    (ho : o.op = .call { callee := .builtin .append, args := #[s, x], argTypes := #[33, 33] })
    (base : Nat) (v : Value) (l : List (List UInt8)) (y : List UInt8) (hs : a.eval s = v) (hown : OwnX wr base v l) (hx : a.eval x = .slice (some ⟨wr.heap.size, 0, none⟩) 1 1)
    (hl : l.length < 1000000000) (hbase : base ≤ wr.heap.size)
    (h : ∀ v' w', OwnX w' base v' (l ++ [y]) → wr.grownBy w' v.ownBlock → wpList Tryz.prog ops Q rest (a.put o.dst v') w') :
    wpList Tryz.prog ops Q (o :: rest) a (wr.alloc (.cells #[.string (B8 y)] 9)) := by
  obtain ⟨i0, hi, hz0, hz1, hz2⟩ := info_parts infoStr
  refine wpList_append_own _ hgd s x 33 ho base 9 i0 (.string ⟨#[]⟩) 1 16 Tryz.underlying33 hi hz0 hz1 hz2 rfl (by decide) v l.length (strs l) hs (World.ownsRow.alloc hown _) ⟨wr.heap.size, 0, none⟩ 1 1 [.string (B8 y)] hx rfl (cell_one_new _ _ _) (fun u hu => by simp at hu; subst hu; rfl) (by unfold maxLen; omega) (by omega) (by simp; omega) fun v' w' h1 h2 _ => h v' w' ?_ ?_
  · unfold OwnX
    rw [List.length_append]
    have e : strs (l ++ [y]) = strs l ++ [.string (B8 y)] := by simp [strs]
    rw [e]; exact h1
  · refine ⟨h2.os, h2.tape, h2.output, Nat.le_trans (by simp) h2.size, fun k hk hne => ?_⟩
    rw [h2.block k (by simp; omega) hne]; exact Below.heap_alloc _ _ _ hk
theorem B8_sub (s : List UInt8) (a b : Nat) : (B8 s).extract a b = B8 ((s.drop a).take (b - a)) := ByteArray.extract_mk s a b
theorem drop_step {s : List UInt8} {f i : Nat} (hf : f ≤ i) (hi : i < s.length) : (s.drop f).take (i + 1 - f) = (s.drop f).take (i - f) ++ [s.getD i 0] := by
  have e : i + 1 - f = (i - f) + 1 := by omega
  have h : i - f < (s.drop f).length := by rw [List.length_drop]; omega
  rw [e, List.take_succ_eq_append_getElem h, List.getElem_drop]
  simp [List.getD, show f + (i - f) = i by omega, hi]
theorem cut_take {c : UInt8} {s : List UInt8} {i : Nat} (hi : i < s.length) : cut c (s.take (i + 1)) = cst c (cut c (s.take i)) (s.getD i 0) := by rw [takeU hi, cut_snoc]
set_option maxHeartbeats 8000000 in
set_option maxRecDepth 100000 in
theorem splitAt_any (s : List UInt8) (c : UInt8) (w : World) (hs : s.length ≤ 9000000) : Calls Tryz.prog 75 #[.string (B8 s), .int .u8 (c.toNat : Int)] w fun e w' => ∃ v, e = .returned v ∧ OwnX w' w.heap.size v (pcs c s) ∧ Below w.heap.size w w' := by
  have hsz := B8_size s
  have hg := B8_get s
  have hsub := B8_sub s
  have hdr := B8_drop s
  obtain ⟨S, hS⟩ : ∃ S, S = B8 s := ⟨_, rfl⟩
  have hgk : ∀ k, k < s.length → ∀ h : k < S.size, (S[k]'h).toNat = (s.getD k 0).toNat := by rw [hS]; exact fun k _ h => hg k h
  rw [← hS] at hsz hsub hdr ⊢
  obtain ⟨N, hN⟩ : ∃ N, N = s.length := ⟨_, rfl⟩
  rw [← hN] at hsz hgk hdr hs
  obtain ⟨cn, hcn⟩ : ∃ cn : Nat, cn = c.toNat := ⟨_, rfl⟩
  rw [← hcn]
  have HN := Lib.hid hN
  have HGK := Lib.hid hgk
  have HSUB := Lib.hid hsub
  have HDR := Lib.hid hdr
  have HCN := Lib.hid hcn
  have ho := OwnX.lit0 w w.heap.size (Nat.le_refl _)
  have hB := (Below.refl w.heap.size w).alloc (Nat.le_refl _) (.cells #[] 9)
  clear hg hS hN hgk hsub hdr hcn
  go_enter Tryz.func75, Tryz.ntmps75
  go_wp2
  go_loopw [5, 6, 7] (fun ov fv iv wr => ∃ i f : Nat, i ≤ N ∧ f ≤ i ∧ iv = .int .i64 (i : Int) ∧ fv = .int .i64 (f : Int) ∧ OwnX wr w.heap.size ov (cut c (s.take i)).1 ∧ Hid ((cut c (s.take i)).2 = (s.drop f).take (i - f)) ∧ Below w.heap.size w wr) (fun _ _ iv _ => N - (intOf iv).toNat)
  case atStart => exact ⟨0, 0, by omega, by omega, rfl, rfl, ho, rfl, hB⟩
  case round =>
    clear ho hB
    rename World => wo
    obtain ⟨i, f, hi, hf, rfl, rfl, ho, h2, hB⟩ := hrel
    have hz := hB.size
    have hlen := cut_len c (s.take i)
    rw [List.length_take] at hlen
    have hT9 : (cut c (s.take i)).1.length ≤ 9000000 := by omega
    by_cases hlt : i < N
    · have hi1 : (i : Int) < (N : Int) := by omega
      have his : i < s.length := by have := HN.out; omega
      have hct := cut_take (c := c) his
      have hgk := HGK.out i hlt
      have hds := drop_step hf his
      obtain ⟨x, hx⟩ : ∃ x, x = s.getD i 0 := ⟨_, rfl⟩
      rw [← hx] at hct hgk hds
      obtain ⟨D, hD⟩ : ∃ D : Nat, D = x.toNat := ⟨_, rfl⟩
      rw [← hD] at hgk
      obtain ⟨T, hT⟩ : ∃ T, T = (cut c (s.take i)).1 := ⟨_, rfl⟩
      rw [← hT] at ho hT9
      by_cases hxc : x = c
      · have hd1 : ((D : Int) == (cn : Int)) = true := by rw [hD, HCN.out, hxc]; simp
        have hc1 : (cut c (s.take (i + 1))).1 = T ++ [(s.drop f).take (i - f)] := by rw [hct]; unfold cst; rw [if_pos hxc, ← hT, h2.out]
        have hc2 : Hid ((cut c (s.take (i + 1))).2 = (s.drop (i + 1)).take (i + 1 - (i + 1))) := by show (cut c (s.take (i + 1))).2 = _; rw [hct]; unfold cst; rw [if_pos hxc]; simp
        have HC1 := Lib.hid hc1
        have hsub := HSUB.out f i
        obtain ⟨Y, hY⟩ : ∃ Y, Y = (s.drop f).take (i - f) := ⟨_, rfl⟩
        rw [← hY] at hsub HC1
        have f1 : (f : Int) ≤ (i : Int) := by omega
        have f2 : (i : Int) ≤ (N : Int) := by omega
        clear hct hds hc1 hY hx hD hT hxc h2 hlen his
        go_wp2_with (at_builtin; refine push_str rfl (.tmp 20) (.tmp 25) rfl w.heap.size _ T Y rfl ho rfl (by omega) hz ?_)
        intro v' wf of gf
        rw [← HC1.out] at of
        have hBf := hB.grown gf hB.size (fun k hk => (ho.lt k hk).1)
        clear gf ho hB
        go_wp2
        go_roundw
        case rel => exact ⟨i + 1, i + 1, by omega, by omega, by go_num, by go_num, of, hc2, hBf⟩
        case measure => simp [intOf]; omega
      · have hd1 : ((D : Int) == (cn : Int)) = false := by
          have hne : ¬ D = cn := fun e => hxc (UInt8.toNat_inj.1 (by rw [← hD, ← HCN.out]; exact e))
          simp; omega
        have hc1 : (cut c (s.take (i + 1))).1 = T := by rw [hct]; unfold cst; rw [if_neg hxc, ← hT]
        have hc2 : Hid ((cut c (s.take (i + 1))).2 = (s.drop f).take (i + 1 - f)) := by show (cut c (s.take (i + 1))).2 = _; rw [hct]; unfold cst; rw [if_neg hxc, hds, h2.out]
        rw [← hc1] at ho
        clear hct hds hc1 hx hD hT hxc h2 hlen his
        go_wp2
        go_roundw
        case rel => exact ⟨i + 1, f, by omega, by omega, by go_num, rfl, ho, hc2, hB⟩
        case measure => simp [intOf]; omega
    · obtain rfl : i = N := by omega
      have htk : s.take i = s := by rw [HN.out, List.take_length]
      have hp : pcs c s = (cut c (s.take i)).1 ++ [(s.drop f).take (i - f)] := by rw [← h2.out, htk]; rfl
      have hdl : (s.drop f).take (i - f) = s.drop f := List.take_of_length_le (by rw [List.length_drop]; have := HN.out; omega)
      rw [hdl] at hp
      have HP := Lib.hid hp
      have hdr := HDR.out f
      obtain ⟨Y, hY⟩ : ∃ Y, Y = s.drop f := ⟨_, rfl⟩
      rw [← hY] at hdr HP
      obtain ⟨T, hT⟩ : ∃ T, T = (cut c (s.take i)).1 := ⟨_, rfl⟩
      rw [← hT] at ho hT9 HP
      have f1 : (f : Int) ≤ (i : Int) := by omega
      clear htk hp hdl hY hT h2 hlen
      go_wp2_with (at_builtin; refine push_str rfl (.tmp 29) (.tmp 33) rfl w.heap.size _ T Y rfl ho rfl (by omega) hz ?_)
      intro v' wf of gf
      rw [← HP.out] at of
      have hBf := hB.grown gf hB.size (fun k hk => (ho.lt k hk).1)
      clear gf ho hB
      go_wp2
      go_ret
      exact ⟨v', rfl, of, hBf⟩
end Go.Proofs.YtoaiaindcmihjaaGreatDoor
/-
  What the listed variables hold; strconv.Atoi, Itoa; impl.readNumbers.
-/
namespace Go.Proofs.YtoaiaindcmihjaaGreatDoor
open Go.RowKit

/-- The table of powers of ten, and two errors of strconv's. -/
abbrev GN (w : World) : Prop := Go.Lib.TabIs Tryz.prog w "internal/strconv.uint64pow10" .u64 Go.Lib.pow10Tab ∧ (∃ tp p, w.cell? ⟨3, 0, none⟩ = some (.iface tp p)) ∧ (∃ tp p, w.cell? ⟨4, 0, none⟩ = some (.iface tp p))
theorem gPow : Tryz.prog.globalNamed "internal/strconv.uint64pow10" = some 2 := by kernel_rfl
theorem tab_lt {w : World} (h : Go.Lib.TabIs Tryz.prog w "internal/strconv.uint64pow10" .u64 Go.Lib.pow10Tab) : 2 < w.heap.size := by
  have := Go.Lib.TabIs.cell h gPow 0 (by rw [Go.Lib.pow10Tab_length]; omega)
  exact World.block_lt_of_cell? w _ this
theorem GN.below {w w' : World} (h : GN w) (hb : Below w.heap.size w w') : GN w' := by
  obtain ⟨h1, ⟨t2, p2, h2⟩, ⟨t3, p3, h3⟩⟩ := h
  exact ⟨var?_below hb gPow (tab_lt h1) h1, ⟨t2, p2, (hb.cell (World.block_lt_of_cell? w _ h2)).trans h2⟩, ⟨t3, p3, (hb.cell (World.block_lt_of_cell? w _ h3)).trans h3⟩⟩
theorem itoaAll_any (v : Int) (w : World) (hv : In64 v) (hG : GN w) : Calls Tryz.prog 57 #[.int .i64 v] w fun e w' => e = .returned (.string (B8 (Go.Lib.itoa v))) ∧ Below w.heap.size w w' := by
  refine (Any.strconv_Itoa Tryz.itoaM v hv.1 hv.2 w hG.1).mono ?_
  rintro e w' ⟨rfl, k, os, rfl⟩
  exact ⟨rfl, Go.Lib.below_grow _ w (Nat.le_refl _) k os⟩
theorem atoi_in64 {p : List UInt8} {v : Int} (h : Go.Lib.atoiAll p = .ok v) : In64 v := by
  unfold Go.Lib.atoiAll at h
  split at h
  · cases h
  · simp only at h
    split at h
    · cases h
    · cases h
    · split at h
      · cases h
      · split at h
        · cases h
        · injection h with h
          unfold In64
          split at h <;> omega
theorem atoiAll_any (p : List UInt8) (w : World) (hp : p.length ≤ 100000000) (hG : GN w) :
    Calls Tryz.prog 88 #[.string (B8 p)] w fun e w' => (∃ v er, e = .returned (.tuple #[.int .i64 v, er]) ∧ ((Go.Lib.atoiAll p = .ok v ∧ er = .nilIface) ∨ ((∀ x, Go.Lib.atoiAll p ≠ .ok x) ∧ ∃ t q, er = .iface t q))) ∧ Below w.heap.size w w' := by
  have hs : (B8 p).size = p.length := rfl
  obtain ⟨h1, ⟨t2, p2, h2⟩, ⟨t3, p3, h3⟩⟩ := hG
  cases hA : Go.Lib.atoiAll p with
  | ok v =>
    refine (Any.strconv_Atoi_ok Tryz.atoiA (B8 p) (by omega) v hA w).mono ?_
    rintro e w' ⟨rfl, h⟩
    refine ⟨⟨v, _, rfl, .inl ⟨rfl, rfl⟩⟩, ?_⟩
    rcases h with rfl | ⟨t, rfl⟩
    · exact Below.refl _ _
    · exact Go.Lib.bytesWorld_below w _ t
  | range =>
    refine (Any.strconv_Atoi_range Tryz.atoiA (B8 p) (by omega) hA _ w h3 (.inr ⟨_, _, rfl⟩)).mono ?_
    rintro e w' ⟨N, rfl, _, _, hb⟩
    exact ⟨⟨_, _, rfl, .inr ⟨(fun x h => by cases h), _, _, rfl⟩⟩, hb⟩
  | _ =>
    refine (Any.strconv_Atoi_syntax Tryz.atoiA (B8 p) (by omega) hA _ w h2 (.inr ⟨_, _, rfl⟩)).mono ?_
    rintro e w' ⟨N, rfl, _, _, hb⟩
    exact ⟨⟨_, _, rfl, .inr ⟨(fun x h => by cases h), _, _, rfl⟩⟩, hb⟩
end Go.Proofs.YtoaiaindcmihjaaGreatDoor
/-
  impl.readNumbers.
-/
namespace Go.Proofs.YtoaiaindcmihjaaGreatDoor
open Go.RowKit

theorem rds_take {fs : List (List UInt8)} {i : Nat} (h : i < fs.length) : fs.take (i + 1) = fs.take i ++ [fs.getD i []] := by
  rw [List.take_succ_eq_append_getElem h]; simp [List.getD, h]
theorem rds_all {fs : List (List UInt8)} {i : Nat} (h : rds (fs.take i) = none) : rds fs = none := by
  rw [← List.take_append_drop i fs]; exact rds_none h
theorem rds_in64 : ∀ {fs : List (List UInt8)} {N : List Int}, rds fs = some N → ∀ x ∈ N, In64 x := by
  intro fs
  induction fs with
  | nil => intro N h; rw [rds] at h; injection h with h; rw [← h]; simp
  | cons p fs ih =>
    intro N h
    rw [rds] at h
    split at h
    · rename_i v r h1 h2
      injection h with h
      subst h
      intro x hx
      rcases List.mem_cons.1 hx with rfl | hx
      · exact atoi_in64 (rnb_some h1).1
      · exact ih h2 x hx
    · cases h
set_option maxHeartbeats 8000000 in
set_option maxRecDepth 100000 in
theorem readNumbers_any (a : Option Addr) (fs : List (List UInt8)) (cap : Nat) (w : World) (hr : ReadsX w a fs) (hl : fs.length ≤ 1048600) (hs : ∀ p ∈ fs, p.length ≤ 100000000) (hG : GN w) :
    Calls Tryz.prog 62 #[.slice a fs.length cap] w fun e w' => ∃ v, e = .returned (.tuple #[v, .bool (rds fs).isSome]) ∧ Own w' w.heap.size v ((rds fs).getD []) ∧ Below w.heap.size w w' := by
  obtain ⟨M, hM⟩ : ∃ M, M = fs.length := ⟨_, rfl⟩
  have HM := Lib.hid hM
  have HS := Lib.hid hs
  obtain ⟨R, hR⟩ : ∃ R, R = rds fs := ⟨_, rfl⟩
  have HR := Lib.hid hR
  rw [← hM] at hl ⊢
  rw [← hR]
  have HG := Lib.hid hG
  have b0 := Below.refl w.heap.size w
  clear hM hs hR hG
  go_enter Tryz.func62, Tryz.ntmps62
  go_wp2
  go_loopw [4, 11] (fun sv iv wr => ∃ (i : Nat) (N : List Int), i ≤ M ∧ iv = .int .i64 (i : Int) ∧ Hid (rds (fs.take i) = some N) ∧ Own wr w.heap.size sv N ∧ Below w.heap.size w wr) (fun _ iv _ => M - (intOf iv).toNat)
  case atStart => exact ⟨0, [], by omega, rfl, rfl, Own.nil _ _, b0⟩
  case round =>
    clear b0
    rename World => wo
    obtain ⟨i, N, hi, rfl, hN, ho, hB⟩ := hrel
    have hNl : N.length ≤ i := by have := rds_len hN.out; rw [List.length_take] at this; omega
    by_cases hlt : i < M
    · have hi1 : (i : Int) < (M : Int) := by omega
      obtain ⟨b, off, rfl, hb, hc0⟩ := hr.get (k := i) (by have := HM.out; omega)
      have hcell := (hB.cell (p := ⟨b, off + i, none⟩) hb).trans hc0
      have htk := rds_take (fs := fs) (i := i) (by have := HM.out; omega)
      have hps := HS.out (fs.getD i []) (by
        have hlt' : i < fs.length := by have := HM.out; omega
        simp only [List.getD, List.getElem?_eq_getElem hlt', Option.getD_some]
        exact List.getElem_mem hlt')
      obtain ⟨p, hp⟩ : ∃ p, p = fs.getD i [] := ⟨_, rfl⟩
      rw [← hp] at hcell htk hps
      have hz1 := hB.size
      have hGo : GN wo := HG.out.below hB
      have ca := atoiAll_any p wo hps hGo
      have hpl := B8_list p
      obtain ⟨S, hS⟩ : ∃ S, S = B8 p := ⟨_, rfl⟩
      rw [← hS] at hcell ca hpl
      have CA := Lib.hid ca
      have HTK := Lib.hid htk
      have GO := Lib.hid hGo
      obtain ⟨sa, sc, rfl, _, _, _, _⟩ := ho.form
      clear hc0 hp hS ca htk hGo hps
      go_wp2_with fail
      refine CA.out.mono ?_
      rintro en w2 ⟨⟨v, er, rfl, hcase⟩, b2⟩
      have B2 := hB.trans (b2.mono hB.size)
      have G2 := GN.below GO.out b2
      have o2 := ho.below b2
      have hz2 := B2.size
      clear hB ho CA
      rcases hcase with ⟨hA, rfl⟩ | ⟨hA, t, q, rfl⟩
      · have hv := atoi_in64 hA
        have ci := itoaAll_any v w2 hv G2
        obtain ⟨T, hT⟩ : ∃ T, T = Go.Lib.itoa v := ⟨_, rfl⟩
        rw [← hT] at ci
        have hTl := B8_list T
        obtain ⟨ST, hST⟩ : ∃ ST, ST = B8 T := ⟨_, rfl⟩
        rw [← hST] at ci hTl
        have CI := Lib.hid ci
        have HT := Lib.hid hT
        have HA := Lib.hid hA
        clear ci hT hST hA
        by_cases hTp : T = p
        · have hrn : rnb p = some v := by
            unfold rnb; rw [HA.out]; simp only; rw [if_pos (by rw [← HT.out]; exact hTp)]
          have hnx : rds (fs.take (i + 1)) = some (N ++ [v]) := by rw [HTK.out, rds_snoc, hN.out, hrn]
          have HNX := Lib.hid hnx
          have hb : (T == p) = true := by rw [hTp]; simp
          have hb2 : (T != p) = false := by rw [hTp]; simp
          clear hTp hrn hnx
          go_wp2_with fail
          refine CI.out.mono ?_
          rintro en w3 ⟨rfl, b3⟩
          have B3 := B2.trans (b3.mono B2.size)
          have o3 := o2.below b3
          have hz3 := B3.size
          clear B2 o2 CI
          go_wp2_with (at_builtin; refine push_int rfl (.tmp 28) (.tmp 30) rfl w.heap.size _ N v rfl o3 rfl (by omega) hz3 ?_)
          intro v' wf of _ gf
          have hBf := B3.grown gf B3.size (fun k hk => (o3.lt k hk).1)
          clear gf o3 B3
          go_wp2
          go_roundw
          case rel => exact ⟨i + 1, N ++ [v], by omega, by go_num, HNX.out, of, hBf⟩
          case measure => simp [intOf]; omega
        · have hrn : rnb p = none := by
            unfold rnb; rw [HA.out]; simp only; rw [if_neg (by rw [← HT.out]; exact hTp)]
          have hnx : R = none := by rw [HR.out]; exact rds_all (i := i + 1) (by rw [HTK.out, rds_snoc, hN.out, hrn])
          subst hnx
          have hb : (T == p) = false := by simpa using hTp
          have hb2 : (T != p) = true := by simpa using hTp
          clear hTp hrn
          go_wp2_with fail
          refine CI.out.mono ?_
          rintro en w3 ⟨rfl, b3⟩
          have B3 := B2.trans (b3.mono B2.size)
          clear B2 o2 CI
          go_wp2
          go_ret2
          exact ⟨_, rfl, Own.nil _ _, B3⟩
      · have hrn : rnb p = none := by
          unfold rnb
          cases hx : Go.Lib.atoiAll p with
          | ok x => exact absurd hx (hA x)
          | _ => rfl
        have hnx : R = none := by rw [HR.out]; exact rds_all (i := i + 1) (by rw [HTK.out, rds_snoc, hN.out, hrn])
        subst hnx
        clear hrn hA
        go_wp2
        go_ret2
        exact ⟨_, rfl, Own.nil _ _, B2⟩
    · obtain rfl : i = M := by omega
      have hRN : R = some N := by rw [HR.out, ← hN.out, HM.out, List.take_length]
      subst hRN
      obtain ⟨sa, sc, rfl, _, _, _, _⟩ := ho.form
      go_wp2
      go_ret2
      exact ⟨_, rfl, ho, hB⟩
end Go.Proofs.YtoaiaindcmihjaaGreatDoor
/-
  Arrays of ints in variables: a block whose cells are the numbers of a list; loads and stores of the whole.
-/
namespace Go.Proofs.YtoaiaindcmihjaaGreatDoor
open Go.RowKit

/-- The cells of an array of ints. -/
def arr (l : List Int) : Array Value := (l.map (Value.int .i64)).toArray
theorem arr_size (l : List Int) : (arr l).size = l.length := by simp [arr]

/-- Block g is a variable of the array type t that holds the numbers of the list. -/
def Arr (w : World) (t g : Nat) (l : List Int) : Prop := w.heap[g]? = some (.cells (arr l) t (0, 0))

section
variable {w : World} {t g : Nat} {l : List Int}
theorem Arr.lt (h : Arr w t g l) : g < w.heap.size := (Array.getElem?_eq_some_iff.1 h).1
theorem Arr.get (h : Arr w t g l) {k : Nat} (hk : k < l.length) : ∃ x, w.cell? ⟨g, k, none⟩ = some (.int .i64 x) ∧ Hid (l.getD k 0 = x) :=
  ⟨_, by rw [cell_of_row w g k _ t _ h]; simp [arr, List.getD, hk], rfl⟩
theorem Arr.frozen (h : Arr w t g l) (k : Nat) : w.frozen? ⟨g, k, none⟩ = false := frozen_of_row w g k _ t h
theorem Arr.store (h : Arr w t g l) (k : Nat) (x : Int) : Arr (w.setCell ⟨g, k, none⟩ (.int .i64 x)) t g (l.set k x) := by
  unfold Arr
  rw [heap_setCell_same w g k _ t _ h]
  simp [arr, List.map_set]
theorem Arr.other {g' : Nat} (h : Arr w t g l) (hne : g ≠ g') (k : Nat) (v : Value) : Arr (w.setCell ⟨g', k, none⟩ v) t g l := by
  unfold Arr
  rw [heap_setCell_other w ⟨g', k, none⟩ g v hne]; exact h
theorem Arr.below {B : Nat} {w' : World} (h : Arr w t g l) (hb : Below B w w') (hg : g < B) : Arr w' t g l := (hb.block g hg).trans h
theorem Arr.belowAll {w' : World} (hb : Below w.heap.size w w') (h : Arr w t g l) : Arr w' t g l := h.below hb h.lt
theorem Arr.kept {w' : World} {row : Option Nat} (h : Arr w t g l) (hg : w.grownBy w' row) (hne : some g ≠ row) : Arr w' t g l := (hg.block g h.lt hne).trans h
theorem Arr.alloc (h : Arr w t g l) (o : Obj) : Arr (w.alloc o) t g l := (Below.heap_alloc w o g h.lt).trans h
theorem Arr.new (w : World) (t : Nat) (l : List Int) : Arr (w.alloc (.cells (arr l) t)) t w.heap.size l := heap_alloc_new w _
theorem Arr.drewN (h : Arr w t g l) (n : Nat) : Arr (w.drewN n) t g l := h
end

theorem arr_zero5 : arr (List.replicate 5 0) = #[.int .i64 0, .int .i64 0, .int .i64 0, .int .i64 0, .int .i64 0] := rfl
theorem arr_zero10 : arr (List.replicate 10 0) = #[.int .i64 0, .int .i64 0, .int .i64 0, .int .i64 0, .int .i64 0, .int .i64 0, .int .i64 0, .int .i64 0, .int .i64 0, .int .i64 0] := rfl

section
variable {P : Program}
/-- The whole array is loaded. -/
theorem load_arr {w : World} {ops : Array Oper} {rest : List Oper} {o : Oper} {a : Act} {Q : Exit → Act → World → Prop} (hgd : o.guard = none) (ty : TypeId) (x : Operand) (ho : o.op = .load ty x)
    (g : Nat) (hx : a.eval x = .pointer (some ⟨g, 0, none⟩)) (t e n : Nat) (l : List Int) (hg : Arr w t g l)
    (hu : P.underlying ty = some (.array n e)) (hi : (P.info? ty).map (·.size) = some n) (hl : l.length = n)
    (h : wpList P ops Q rest (a.put o.dst (.agg (arr l))) w) : wpList P ops Q (o :: rest) a w :=
  wpList_load_row hgd ty x ho g hx t (arr l) (0, 0) _ hg hu rfl (by rw [hi, arr_size, hl]) h

/-- The same, of an operation that is guarded. -/
theorem load_arr_g {w : World} {ops : Array Oper} {rest : List Oper} {o : Oper} {a : Act} {Q : Exit → Act → World → Prop} (hwn : Region.wanted o (yielded ops a.tmps) = true) (ty : TypeId) (x : Operand) (ho : o.op = .load ty x)
    (g : Nat) (hx : a.eval x = .pointer (some ⟨g, 0, none⟩)) (t e n : Nat) (l : List Int) (hg : Arr w t g l)
    (hu : P.underlying ty = some (.array n e)) (hi : (P.info? ty).map (·.size) = some n) (hl : l.length = n)
    (h : wpList P ops Q rest (a.put o.dst (.agg (arr l))) w) : wpList P ops Q (o :: rest) a w :=
  wpList_step fun _ hK => by
    rw [if_pos hwn]
    exact wp_load_row ty x ho g hx t (arr l) (0, 0) _ hg hu rfl (by rw [hi, arr_size, hl]) (hK _ _ h)

/-- The whole array is stored. -/
theorem store_arr {w : World} {ops : Array Oper} {rest : List Oper} {o : Oper} {a : Act} {Q : Exit → Act → World → Prop} (hgd : o.guard = none) (ty : TypeId) (x y : Operand) (ho : o.op = .store ty x y)
    (g : Nat) (hx : a.eval x = .pointer (some ⟨g, 0, none⟩)) (l l0 : List Int) (hy : a.eval y = .agg (arr l)) (t n : Nat) (hg : Arr w t g l0)
    (hi : (P.info? ty).map (·.size) = some n) (hl : l.length = n) (hl0 : l0.length = n)
    (h : ∀ w', Arr w' t g l → w.grownBy w' (some g) → wpList P ops Q rest (a.put o.dst undef) w') : wpList P ops Q (o :: rest) a w := by
  refine wpList_plain hgd fun K hK => ?_
  cases hq : P.info? ty with
  | none => simp [hq] at hi
  | some i =>
    have hs : i.size = n := by simpa [hq] using hi
    have hst := run_storeCells_from (P := P) g t (arr l).toList 0 (arr l0) w hg (by simp [arr_size, hl, hl0]) (by
      intro v hv
      simp only [arr, List.toList_toArray] at hv
      obtain ⟨q, _, rfl⟩ := List.mem_map.1 hv
      rfl)
    have hw : (w.setRow g ((arr l0).toList.take 0 ++ (arr l).toList).toArray) = w.setRow g (arr l) := by simp
    rw [hw] at hst
    unfold Oper.wp execOp
    simp only [ho, hx, hy]
    simp [Instr.storeAt, Instr.sureAddr, Sem.run_bind, Result.andThen, storeVar, sizeOf, typeInfo, hq, hs, Value.cells, arr_size, hl, hst]
    have e1 : Arr (w.setRow g (arr l)) t g l := setRow_heap w g (arr l0) (arr l) t (0, 0) hg
    have e2 : w.grownBy (w.setRow g (arr l)) (some g) := ⟨rfl, rfl, rfl, by simp, fun k _ hk => setRow_other w g k _ (fun e => hk (by simp [e]))⟩
    exact hK _ _ (h _ e1 e2)

/-- A result that is an array in a variable. -/
theorem ret_arr {fn : Func} {R : Ending → World → Prop} {a : Act} {w : World} {p : Tmp} {ty : TypeId} (hf : fn.results = #[.cell p ty]) (hd : a.defers = [])
    (g : Nat) (hp : a.tmps.getD p undef = .pointer (some ⟨g, 0, none⟩)) (t e n : Nat) (l : List Int) (hg : Arr w t g l)
    (hu : P.underlying ty = some (.array n e)) (hi : (P.info? ty).map (·.size) = some n) (hl : l.length = n) (hR : R (.returned (.agg (arr l))) w) : bodyPost P fn R .ret a w :=
  bodyPost_ret (results_cell_row hf a.tmps w g t (arr l) (0, 0) _ hp hg hu rfl (by rw [hi, arr_size, hl])) hd hR

/-- Two results: an array in a variable, and a value. -/
theorem ret_arr2 {fn : Func} {R : Ending → World → Prop} {a : Act} {w : World} {p q : Tmp} {ty : TypeId} (hf : fn.results = #[.cell p ty, .tmp q]) (hd : a.defers = [])
    (g : Nat) (hp : a.tmps.getD p undef = .pointer (some ⟨g, 0, none⟩)) (t e n : Nat) (l : List Int) (hg : Arr w t g l)
    (hu : P.underlying ty = some (.array n e)) (hi : (P.info? ty).map (·.size) = some n) (hl : l.length = n) (v : Value) (hq : a.tmps.getD q undef = v) (hR : R (.returned (.tuple #[.agg (arr l), v])) w) : bodyPost P fn R .ret a w := by
  refine bodyPost_ret (v := .tuple #[.agg (arr l), v]) ?_ hd hR
  have hp' : a.tmps[p]?.getD undef = .pointer (some ⟨g, 0, none⟩) := by simpa using hp
  have hq' : a.tmps[q]?.getD undef = v := by simpa using hq
  have hl' := run_loadVar_row (P := P) w g t ty (arr l) (0, 0) _ hg hu rfl (by rw [hi, arr_size, hl])
  simp [results, hf, hp', hq', asAddr, hl']

/-- Block g is a variable of the array type t that holds the truth values of the list. -/
def BArr (w : World) (t g : Nat) (l : List Bool) : Prop := w.heap[g]? = some (.cells (l.map Value.bool).toArray t (0, 0))
section
variable {w : World} {t g : Nat} {l : List Bool}
theorem BArr.lt (h : BArr w t g l) : g < w.heap.size := (Array.getElem?_eq_some_iff.1 h).1
theorem BArr.get (h : BArr w t g l) {k : Nat} (hk : k < l.length) : ∃ x, w.cell? ⟨g, k, none⟩ = some (.bool x) ∧ Hid (l.getD k false = x) :=
  ⟨_, by rw [cell_of_row w g k _ t _ h]; simp [List.getD, hk], rfl⟩
theorem BArr.frozen (h : BArr w t g l) (k : Nat) : w.frozen? ⟨g, k, none⟩ = false := frozen_of_row w g k _ t h
theorem BArr.store (h : BArr w t g l) (k : Nat) (x : Bool) : BArr (w.setCell ⟨g, k, none⟩ (.bool x)) t g (l.set k x) := by
  unfold BArr
  rw [heap_setCell_same w g k _ t _ h]
  simp [List.map_set]
theorem BArr.other {g' : Nat} (h : BArr w t g l) (hne : g ≠ g') (k : Nat) (v : Value) : BArr (w.setCell ⟨g', k, none⟩ v) t g l := by
  unfold BArr
  rw [heap_setCell_other w ⟨g', k, none⟩ g v hne]; exact h
theorem BArr.kept {w' : World} {row : Option Nat} (h : BArr w t g l) (hg : w.grownBy w' row) (hne : some g ≠ row) : BArr w' t g l := (hg.block g h.lt hne).trans h
theorem BArr.belowAll {w' : World} (hb : Below w.heap.size w w') (h : BArr w t g l) : BArr w' t g l := (hb.block g h.lt).trans h
theorem BArr.new (w : World) (t : Nat) (l : List Bool) : BArr (w.alloc (.cells (l.map Value.bool).toArray t)) t w.heap.size l := heap_alloc_new w _
end
end
theorem eq_loop {P : Program} {w : World} (f : Nat → Sem (ForInStep (Option Bool × Unit))) (b : Nat → Bool) : ∀ l : List Nat, (∀ i ∈ l, (f i).run P w = .ok (if b i = false then ForInStep.done (some false, ()) else ForInStep.yield (none, ())) w) →
    (forIn l ((none : Option Bool), ()) (fun i _ => f i)).run P w = .ok (if l.all b = true then (none, ()) else (some false, ())) w := by
  intro l
  induction l with
  | nil => intro _; simp
  | cons i l ih =>
    intro h
    have h1 := h i (by simp)
    have ih' := ih (fun j hj => h j (by simp [hj]))
    rw [List.forIn_cons, Sem.run_bind, h1]
    by_cases hb : b i = true
    · simp only [hb, Bool.true_eq_false, if_false, Result.andThen_ok, List.all_cons, Bool.true_and]
      exact ih'
    · have hb' : b i = false := by simpa using hb
      simp [hb', Result.andThen]

theorem run_equalIn_arr {P : Program} (w : World) (d : Nat) (t e n : Nat) (k : IntKind) (A B : List Int) (hA : A.length = n) (hB : B.length = n) (hu : P.underlying t = some (.array n e)) (hue : P.underlying e = some (.int k))
    (hs : ∀ w, (sizeOf e).run P w = .ok 1 w) (ha : ∀ w, (isAgg e).run P w = .ok false w) :
    (Op.equalIn (d + 2) t (.agg (arr A)) (.agg (arr B))).run P w = .ok (decide (A = B)) w := by
  have hbody : ∀ i ∈ List.range' 0 n, (do
      let x ← part e (arr A) (i * 1)
      let y ← part e (arr B) (i * 1)
      let q ← Op.equalIn (d + 1) e x y
      if q = false then pure (ForInStep.done (some false, ())) else pure (ForInStep.yield ((none : Option Bool), ())) : Sem _).run P w
      = .ok (if (A.getD i 0 == B.getD i 0) = false then ForInStep.done (some false, ()) else ForInStep.yield (none, ())) w := by
    intro i hi
    have hi' : i < n := by simpa using hi
    have eA : (arr A)[i]? = some (.int .i64 (A.getD i 0)) := by simp [arr, List.getD, hA, hi']
    have eB : (arr B)[i]? = some (.int .i64 (B.getD i 0)) := by simp [arr, List.getD, hB, hi']
    have hEq := run_equalIn_int (P := P) w d e .i64 k (A.getD i 0) (B.getD i 0) hue
    simp only [Sem.run_bind, part, ha, Result.andThen_ok, Bool.false_eq_true, if_false, Nat.mul_one, eA, eB, Sem.run_pure, hEq]
    split <;> simp
  have hl := eq_loop _ _ _ hbody
  clear hbody
  simp only [Op.equalIn, Sem.run_bind, run_underlying hu, Result.andThen_ok, hs]
  simp only [Op.equalIn] at hl
  simp
  simp at hl
  rw [hl]
  by_cases h : A = B
  · subst h; simp [Result.andThen]
  · have : ¬ ∀ i, i < n → A.getD i 0 = B.getD i 0 := by
      intro hh
      apply h
      refine List.ext_getElem (by rw [hA, hB]) fun i h1 h2 => ?_
      have := hh i (by omega)
      simpa [List.getD, h1, h2] using this
    rw [if_neg (by simpa [List.getD] using this)]
    simp [h, Result.andThen]

/-- '==' of two arrays of ints. -/
theorem run_eql_arr {P : Program} (w : World) (t e n : Nat) (k : IntKind) (A B : List Int) (hA : A.length = n) (hB : B.length = n) (hu : P.underlying t = some (.array n e)) (hue : P.underlying e = some (.int k))
    (hs : ∀ w, (sizeOf e).run P w = .ok 1 w) (ha : ∀ w, (isAgg e).run P w = .ok false w) :
    (binOp .eql t (.agg (arr A)) (.agg (arr B))).run P w = .ok (.bool (decide (A = B))) w := by
  rw [run_eql_struct, run_equalIn_arr w 9998 t e n k A B hA hB hu hue hs ha]
  rfl

end Go.Proofs.YtoaiaindcmihjaaGreatDoor
/-
  impl.endOf, isName, isLine, validNames (names).
-/
namespace Go.Proofs.YtoaiaindcmihjaaGreatDoor
open Go.RowKit

theorem pow40 {n : Nat} (h : n ≤ 40) : 2 ^ n ≤ 1099511627776 := Nat.pow_le_pow_right (n := 2) (by omega) h
theorem tmod_nat (a b : Nat) : ((a : Int)).tmod (b : Int) = ((a % b : Nat) : Int) := by
  rw [Int.tmod_eq_emod_of_nonneg (by omega)]; rfl
theorem shl1 (t p : Nat) (ht : t ≤ 40) (hp : p = 2 ^ t) : IntKind.i64.wrap (1 * 2 ^ min ((t : Int)).toNat 64) = (p : Int) ∧ IntKind.i64.wrap (2 ^ min t 64) = (p : Int) ∧ IntKind.i64.wrap (2 ^ t) = (p : Int) := by
  have hs := pow40 ht
  have e : ((2 : Int) ^ t) = (p : Int) := by rw [hp]; simp
  have e2 : IntKind.i64.wrap (p : Int) = (p : Int) := IntWalk.i64_in _ (by omega)
  rw [Int.toNat_natCast, Int.one_mul, Nat.min_eq_left (by omega), e]
  exact ⟨e2, e2, e2⟩
set_option maxHeartbeats 2000000 in
theorem endOf_any (d x : Nat) (w : World) (hd : d ≤ 40) (hx : x ≤ 1000000) : Calls Tryz.prog 119 #[.int .i64 (d : Int), .int .i64 (x : Int)] w fun e w' => e = .returned (.int .i64 ((x % 2 ^ d : Nat) : Int)) ∧ w = w' := by
  obtain ⟨p, hp⟩ : ∃ p, p = 2 ^ d := ⟨_, rfl⟩
  obtain ⟨e1, e2, e3⟩ := shl1 d p hd hp
  have hps := pow40 hd
  have hp0 := Nat.two_pow_pos d
  rw [← hp] at hps hp0 ⊢
  have ht := tmod_nat x p
  have hm := Nat.mod_le x p
  obtain ⟨r, hr⟩ : ∃ r, r = x % p := ⟨_, rfl⟩
  rw [← hr] at ht hm ⊢
  clear hr hp
  go_enter Tryz.func119, Tryz.ntmps119
  go_wp2
  all_goals
    go_ret
    exact ⟨by first | rfl | (simp only [e1, ht]) | (simp only [e2, ht]) | (simp only [e3, ht]) | (simp [e1, e2, e3, ht]), rfl⟩
set_option maxHeartbeats 1000000 in
theorem isName_any (x : Int) (w : World) : Calls Tryz.prog 52 #[.int .i64 x] w fun e w' => e = .returned (.bool (decide (0 ≤ x ∧ x ≤ 63))) ∧ w = w' := by
  by_cases h : 0 ≤ x
  · have hd : decide (0 ≤ x ∧ x ≤ 63) = decide (x < 64) := by rw [decide_eq_decide]; omega
    rw [hd]
    go_enter Tryz.func52, Tryz.ntmps52
    go_wp2
    go_ret
    exact ⟨rfl, rfl⟩
  · have hd : decide (0 ≤ x ∧ x ≤ 63) = false := by simp; omega
    rw [hd]
    go_enter Tryz.func52, Tryz.ntmps52
    go_wp2
    go_ret
    exact ⟨rfl, rfl⟩
end Go.Proofs.YtoaiaindcmihjaaGreatDoor
