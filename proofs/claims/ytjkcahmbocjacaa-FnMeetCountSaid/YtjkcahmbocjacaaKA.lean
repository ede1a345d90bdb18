/-
  impl.MeetCount, from what impl.ordersOf gives.
-/
import Derived.Test.YtjkcahmbocjacaaK4
import Derived.Test.YtjkcahmbocjacaaK9
import Derived.Test.YtjkcahmbocjacaaTb
namespace Go.Proofs.Ytjkcahmbocjacaa
open Go.RowKit

/-- What ordersOf has to give for a tally of n things. -/
def OrdersGive : Prop := ∀ (b n : Nat) (w : World), n ≤ 5 → Tal w b (ind n) n → Calls Try.prog 93 #[.map (some b)] w fun e w' => ∃ a cap, e = .returned (.slice a (ors n (lft n [])).length cap) ∧ ReadsS w' a (ors n (lft n [])) ∧ w.grownBy w' (some b)
theorem mts_takeK (a b : Nat) (os : List (List Int)) (k : Nat) (h : k < os.length) : mts a b (os.take (k + 1)) = mts a b (os.take k) + (if fi a (tr os k) = fi b (tr os k) then 1 else 0) := by
  unfold mts
  rw [List.take_succ_eq_append_getElem h, List.countP_append, ← tr_eq h]
  simp [List.countP_cons]
theorem ors_small {n : Nat} (hn : n ≤ 5) : (ors n (lft n [])).length ≤ 3125 := by
  have h1 := ors_len n (lft n []) (lft_nil_len n)
  exact Nat.le_trans h1 (pow5_le hn hn)
set_option maxHeartbeats 1000000 in
theorem isThingsI_any (n : Int) (w : World) : Calls Try.prog 92 #[.int .i64 n] w fun e w' => e = .returned (.bool (decide (1 ≤ n ∧ n ≤ 5))) ∧ w = w' := by
  by_cases h1 : n ≥ 1
  · go_enter Try.func92, Try.ntmps92
    go_wp2
    go_ret
    exact ⟨ret_bool (by simp only [ge_iff_le] at h1; simp [h1]), rfl⟩
  · go_enter Try.func92, Try.ntmps92
    go_wp2
    go_ret
    exact ⟨ret_bool (by have : ¬ 1 ≤ n := by omega
                        simp [this]), rfl⟩
set_option maxHeartbeats 8000000 in
theorem implMeetCount_of (HO : OrdersGive) (n a b : Int) (w : World) (_hn : In64 n) (_ha : In64 a) (_hb : In64 b) :
    Calls Try.prog 53 #[.int .i64 n, .int .i64 a, .int .i64 b] w fun e w' => e = .returned (.tuple #[.int .i64 (MC1 n a b), .int .i64 (MC2 n a b)]) ∧ Below w.heap.size w w' := by
  have c1 := fun wx => isThingsI_any n wx
  by_cases g1 : 1 ≤ n ∧ n ≤ 5
  rotate_left
  · obtain ⟨e1, e2⟩ := MC_no (n := n) (a := a) (b := b) (fun h => g1 (MCo_iff.1 h).1)
    rw [e1, e2]
    rw [decide_eq_false g1] at c1
    have C1 := Lib.hid c1
    clear c1 g1 e1 e2
    go_enter Try.func53, Try.ntmps53
    go_wp2_with fail
    refine (C1.out _).mono ?_
    rintro e w' ⟨rfl, rfl⟩
    go_wp2
    go_ret2
    exact ⟨rfl, Below.refl _ _⟩
  rw [decide_eq_true g1] at c1
  have C1 := Lib.hid c1
  obtain ⟨N, rfl⟩ : ∃ N : Nat, n = N := ⟨n.toNat, by omega⟩
  have hN : 1 ≤ N ∧ N ≤ 5 := by omega
  have hco := @MCo_iff (N : Int) a b
  rw [Int.toNat_natCast] at hco
  have c2 := fun wx => isSet_any N a wx (by omega)
  have c3 := fun wx => isSet_any N b wx (by omega)
  clear c1
  by_cases g2 : 1 ≤ a ∧ a < ((2 ^ N : Nat) : Int)
  rotate_left
  · obtain ⟨e1, e2⟩ := MC_no (n := (N : Int)) (a := a) (b := b) (fun h => g2 (hco.1 h).2.1)
    rw [e1, e2]
    rw [decide_eq_false g2] at c2
    have C2 := Lib.hid c2
    clear c2 c3 g2 e1 e2 hco g1
    go_enter Try.func53, Try.ntmps53
    go_wp2_with fail
    refine (C1.out _).mono ?_
    rintro e w' ⟨rfl, rfl⟩
    go_wp2_with fail
    refine (C2.out _).mono ?_
    rintro e w' ⟨rfl, rfl⟩
    go_wp2
    go_ret2
    exact ⟨rfl, Below.refl _ _⟩
  rw [decide_eq_true g2] at c2
  have C2 := Lib.hid c2
  by_cases g3 : 1 ≤ b ∧ b < ((2 ^ N : Nat) : Int)
  rotate_left
  · obtain ⟨e1, e2⟩ := MC_no (n := (N : Int)) (a := a) (b := b) (fun h => g3 (hco.1 h).2.2)
    rw [e1, e2]
    rw [decide_eq_false g3] at c3
    have C3 := Lib.hid c3
    clear c2 c3 g2 g3 e1 e2 hco g1
    go_enter Try.func53, Try.ntmps53
    go_wp2_with fail
    refine (C1.out _).mono ?_
    rintro e w' ⟨rfl, rfl⟩
    go_wp2_with fail
    refine (C2.out _).mono ?_
    rintro e w' ⟨rfl, rfl⟩
    go_wp2_with fail
    refine (C3.out _).mono ?_
    rintro e w' ⟨rfl, rfl⟩
    go_wp2
    go_ret2
    exact ⟨rfl, Below.refl _ _⟩
  rw [decide_eq_true g3] at c3
  have C3 := Lib.hid c3
  have hok := hco.2 ⟨g1, g2, g3⟩
  have hp5 : (2 ^ N : Nat) ≤ 2 ^ 5 := Nat.pow_le_pow_right (by omega) (by omega)
  obtain ⟨A, rfl⟩ : ∃ A : Nat, a = A := ⟨a.toNat, by omega⟩
  obtain ⟨B, rfl⟩ : ∃ B : Nat, b = B := ⟨b.toNat, by omega⟩
  obtain ⟨e1, e2⟩ := MC_is hok
  rw [Int.toNat_natCast, Int.toNat_natCast, Int.toNat_natCast] at e1
  rw [Int.toNat_natCast] at e2
  rw [e1, e2]
  have hos := ors_small (n := N) hN.2
  have hom := fun o ho => ors_mem N (lft N []) (lft_nil_len N) (lft_nodup N []) o ho
  have hro := fun b wx h => HO b N wx hN.2 h
  obtain ⟨os, hoseq⟩ : ∃ os, os = ors N (lft N []) := ⟨_, rfl⟩
  rw [← hoseq] at hos hom hro ⊢
  have HR := Lib.hid hro
  have HF : Hid (∀ (S : Nat) (_ : 1 ≤ S ∧ S < 2 ^ N) (i : Nat) (_ : i < os.length) (A : Option Addr) (C : Nat) (wx : World), Reads wx A (tr os i) → Calls Try.prog 89 #[.slice A (tr os i).length C, .int .i64 (S : Int)] wx fun e w' => e = .returned (.int .i64 (fi S (tr os i))) ∧ Below wx.heap.size wx w') := by
    intro S hS i hi A C wx hrx
    obtain ⟨h1, h2⟩ := hom (tr os i) (by rw [tr_eq hi]; exact List.getElem_mem _)
    obtain ⟨j, hj, hb⟩ := has_bit (s := S) (n := N) hS.1 hS.2
    exact implFirstIn_any S A (tr os i) C wx hrx (by omega) (by omega) (fun x hx => by have := (lft_mem.1 ((h2 x).1 hx)).1; omega) ⟨(j : Int), (h2 _).2 (lft_mem.2 ⟨by omega, by simp⟩), by rw [Int.toNat_natCast]; exact hb⟩
  have HFA := Lib.hid (HF.out A (by omega))
  have HFB := Lib.hid (HF.out B (by omega))
  clear c2 c3 g1 g2 g3 hco hok e1 e2 hom hro hoseq HF HO hp5
  go_enter Try.func53, Try.ntmps53
  go_wp2_with fail
  refine (C1.out _).mono ?_
  rintro e w' ⟨rfl, rfl⟩
  go_wp2_with fail
  refine (C2.out _).mono ?_
  rintro e w' ⟨rfl, rfl⟩
  go_wp2_with fail
  refine (C3.out _).mono ?_
  rintro e w' ⟨rfl, rfl⟩
  go_wp2_with fail
  refine (thingsOf_any N w (by omega)).mono ?_
  rintro e w1 ⟨rfl, hT, b1⟩
  go_wp2_with fail
  refine (HR.out _ _ hT).mono ?_
  rintro e w2 ⟨ao, co, rfl, hr, g2⟩
  have b2 := b1.grown g2 b1.size (fun j hj => by cases hj; exact Nat.le_refl _)
  clear hT b1 g2 C1 C2 C3 HR
  go_wp2
  go_loopw [9, 32] (fun mv iv wr => ∃ i m : Nat, i ≤ os.length ∧ iv = .int .i64 (i : Int) ∧ mv = .int .i64 (m : Int) ∧ Hid (m = mts A B (os.take i)) ∧ ReadsS wr ao os ∧ Below w.heap.size w wr) (fun _ iv _ => os.length - (intOf iv).toNat)
  case atStart => exact ⟨0, 0, by omega, rfl, rfl, rfl, hr, b2⟩
  case round =>
    clear hr b2
    rename World => wo
    obtain ⟨i, m, hi, rfl, rfl, hm, hr, hB⟩ := hrel
    by_cases hlt : i < os.length
    · have hi1 : (i : Int) < (os.length : Int) := by omega
      obtain ⟨b, off, A2, C2, rfl, hb2, hc2, hr2, _⟩ := hr.get hlt
      have hsn := mts_takeK A B os i hlt
      rw [← hm.out] at hsn
      have hml : m ≤ 3125 := by have := mts_le A B (os.take i); rw [← hm.out, List.length_take] at this; omega
      have ca := fun wx h => HFA.out i hlt A2 C2 wx h
      have cb := fun wx h => HFB.out i hlt A2 C2 wx h
      obtain ⟨x, hx⟩ : ∃ x, x = fi A (tr os i) := ⟨_, rfl⟩
      obtain ⟨y, hy⟩ : ∃ y, y = fi B (tr os i) := ⟨_, rfl⟩
      rw [← hx] at ca hsn
      rw [← hy] at cb hsn
      have CA := Lib.hid ca
      have CB := Lib.hid cb
      clear ca cb hx hy hm
      by_cases hxy : x = y
      · rw [if_pos hxy] at hsn
        have HS := Lib.hid hsn
        have exy : (x == y) = true := by simpa using hxy
        clear hsn hxy
        go_wp2_with fail
        refine (CA.out _ hr2).mono ?_
        rintro e w3 ⟨rfl, b3⟩
        have hB3 := hB.trans (b3.mono hB.size)
        go_wp2_with fail
        refine (CB.out _ (hr2.below b3)).mono ?_
        rintro e w4 ⟨rfl, b4⟩
        have hB4 := hB3.trans (b4.mono hB3.size)
        have hr4 := (hr.below b3).below b4
        clear hr hB b3 b4 hB3 hr2 CA CB
        go_wp2
        go_roundw
        case rel => exact ⟨i + 1, m + 1, by omega, by go_num, by go_num, HS.out.symm, hr4, hB4⟩
        case measure => simp [intOf]; omega
      · rw [if_neg hxy, Nat.add_zero] at hsn
        have HS := Lib.hid hsn
        have exy : (x == y) = false := by simpa using hxy
        clear hsn hxy
        go_wp2_with fail
        refine (CA.out _ hr2).mono ?_
        rintro e w3 ⟨rfl, b3⟩
        have hB3 := hB.trans (b3.mono hB.size)
        go_wp2_with fail
        refine (CB.out _ (hr2.below b3)).mono ?_
        rintro e w4 ⟨rfl, b4⟩
        have hB4 := hB3.trans (b4.mono hB3.size)
        have hr4 := (hr.below b3).below b4
        clear hr hB b3 b4 hB3 hr2 CA CB
        go_wp2
        go_roundw
        case rel => exact ⟨i + 1, m, by omega, by go_num, rfl, HS.out.symm, hr4, hB4⟩
        case measure => simp [intOf]; omega
    · obtain rfl : i = os.length := by omega
      have hm2 : m = mts A B os := by have := hm.out; rwa [List.take_length] at this
      have HM2 := Lib.hid hm2
      clear hm hm2
      go_wp2
      go_ret2
      exact ⟨by rw [← HM2.out]; rfl, hB⟩
end Go.Proofs.Ytjkcahmbocjacaa
