/-
  spec.ReadTree.
-/
import Derived.Test.YtoaiaindcmihjaaGreatDoorNR
namespace Go.Proofs.YtoaiaindcmihjaaGreatDoor
open Go.RowKit

set_option maxHeartbeats 8000000 in
theorem specReadTree_any (s : List UInt8) (w : World) : Calls Tryz.prog 16 #[.string (B8 s)] w fun e w' => ∃ v, e = .returned (.tuple #[v, .bool (RT s).isSome]) ∧ Own w' w.heap.size v ((RT s).getD []) ∧ Below w.heap.size w w' := by
  have hsz := B8_size s
  have hl := B8_list s
  have CR := fun (h : s.length ≤ 400) => readTree_any (s.length + 1) s w (by omega) h
  obtain ⟨S, hS⟩ : ∃ S, S = B8 s := ⟨_, rfl⟩
  rw [← hS] at hsz hl CR ⊢
  obtain ⟨N, hN⟩ : ∃ N, N = s.length := ⟨_, rfl⟩
  rw [← hN] at hsz
  obtain ⟨RR, hRR⟩ : ∃ RR, RR = RT s := ⟨_, rfl⟩
  rw [← hRR]
  have HRR := Lib.hid hRR
  have HN := Lib.hid hN
  have HCR := Lib.hid CR
  clear hS hRR hN CR
  by_cases h400 : N ≤ 400
  rotate_left
  · obtain rfl : RR = none := by rw [HRR.out]; unfold RT; rw [if_neg (by rw [← HN.out]; exact h400)]
    have h1 : (N : Int) > 400 := by omega
    clear HCR
    go_enter Tryz.func16, Tryz.ntmps16
    go_wp2
    go_ret2
    exact ⟨_, rfl, Own.nil _ _, Below.refl _ _⟩
  have h1 : ¬ (N : Int) > 400 := by omega
  have cr := HCR.out (by rw [← HN.out]; exact h400)
  have hRT : RR = match rd (s.length + 1) s with
    | some (l, []) => if TXT l = s then some (srt l) else none
    | _ => none := by rw [HRR.out]; unfold RT; rw [if_pos (by rw [← HN.out]; exact h400)]; rfl
  have HRT := Lib.hid hRT
  have CR := Lib.hid cr
  clear hRT cr HCR HRR
  go_enter Tryz.func16, Tryz.ntmps16
  go_wp2_with fail
  refine CR.out.mono ?_
  rintro e w1 ⟨⟨h2, rfl⟩ | ⟨v1, L, r, h2, rfl, o1⟩, B1⟩
  · have HR : Hid (RR = none) := by show RR = none; rw [HRT.out, h2]
    clear h2 CR
    go_wp2
    go_ret2
    rw [HR.out]
    exact ⟨_, rfl, Own.nil _ _, B1⟩
  · have k1 := rd_len _ _ _ _ h2
    have hL : L.length ≤ 400 := by have := HN.out; omega
    have H2 := Lib.hid h2
    obtain ⟨a1, c1, rfl, hr1, hlc, _, _⟩ := o1.form
    clear h2 CR k1
    cases r with
    | cons c t =>
      have HR : Hid (RR = none) := by show RR = none; rw [HRT.out, H2.out]
      have hl2 := B8_list (c :: t)
      obtain ⟨S2, hS2⟩ : ∃ S2, S2 = B8 (c :: t) := ⟨_, rfl⟩
      rw [← hS2] at hl2 ⊢
      clear hS2 o1
      go_wp2
      go_ret2
      rw [HR.out]
      exact ⟨_, rfl, Own.nil _ _, B1⟩
    | nil =>
      have hl2 := B8_list []
      have ct := specTreeText_any a1 L c1 w1 hr1 (by omega) hlc
      obtain ⟨T, hT⟩ : ∃ T, T = TXT L := ⟨_, rfl⟩
      rw [← hT] at ct
      have hl3 := B8_list T
      obtain ⟨S3, hS3⟩ : ∃ S3, S3 = B8 T := ⟨_, rfl⟩
      rw [← hS3] at hl3 ct
      have CT := Lib.hid ct
      have HT := Lib.hid hT
      have cs := fun wx (h : Reads wx a1 L) => sortInts_any a1 L c1 wx h (by omega)
      have CS := Lib.hid cs
      clear hS3 ct hT cs o1
      by_cases hTs : T = s
      · have HR : Hid (RR = some (srt L)) := by show RR = some (srt L); rw [HRT.out, H2.out]; exact if_pos (by rw [← HT.out]; exact hTs)
        have hb : (T == s) = true := by rw [hTs]; simp
        have hb2 : (T != s) = false := by rw [hTs]; simp
        clear hTs
        go_wp2_with fail
        refine CT.out.mono ?_
        rintro e w2 ⟨rfl, b2⟩
        have hr2 := hr1.below b2
        have B2 := B1.trans (b2.mono B1.size)
        go_wp2_with fail
        refine (CS.out _ hr2).mono ?_
        rintro e w3 ⟨v3, rfl, o3, b3⟩
        have B3 := B2.trans (b3.mono B2.size)
        clear CT CS b2 b3
        go_wp2
        go_ret2
        rw [HR.out]
        exact ⟨_, rfl, o3.mono B2.size, B3⟩
      · have HR : Hid (RR = none) := by show RR = none; rw [HRT.out, H2.out]; exact if_neg (by rw [← HT.out]; exact hTs)
        have hb : (T == s) = false := by simpa using hTs
        have hb2 : (T != s) = true := by simpa using hTs
        clear hTs CS
        go_wp2_with fail
        refine CT.out.mono ?_
        rintro e w2 ⟨rfl, b2⟩
        have B2 := B1.trans (b2.mono B1.size)
        go_wp2
        go_ret2
        rw [HR.out]
        exact ⟨_, rfl, Own.nil _ _, B2⟩
end Go.Proofs.YtoaiaindcmihjaaGreatDoor
