/-
  laws.FnMeetCount: the walk, from what ordersOf gives.
-/
import Derived.Test.YtjkcahmbocjacaaKA
import Derived.Test.YtjkcahmbocjacaaDI
import Derived.Test.YtjkcahmbocjacaaV8
import Derived.Test.YtjkcahmbocjacaaW6
namespace Go.Proofs.Ytjkcahmbocjacaa
open Go.RowKit

set_option maxHeartbeats 8000000 in
theorem lawFnMeetCount_of (HO : OrdersGive) (a : Option Addr) (n cap : Nat) (w : World) (hB : Bytes w w.heap.size a n) (hn : n ≤ 9223372036854775807) (hc : n ≤ cap) :
    Calls Try.prog 11 #[.slice a n cap] w fun e w' => e = .returned (.bool true) ∧ Below w.heap.size w w' := by
  by_cases hbig : 1048576 < n
  · go_enter Try.func11, Try.ntmps11
    go_wp2
    go_ret
    exact ⟨rfl, Below.refl _ _⟩
  go_enter Try.func11, Try.ntmps11
  go_wp2_with fail
  refine (drawMeetCount_any a n cap w hB hn hc).mono ?_
  rintro e w1 ⟨k, x, y, rfl, hk, hx, hy, B1⟩
  clear hB hn hc
  have CI := Lib.hid (fun wx => implMeetCount_of HO k x y wx (by unfold In64; omega) (by unfold In64; omega) (by unfold In64; omega))
  have CS := Lib.hid (fun wx => specMeetCount_any k x y wx (by unfold In64; omega) (by unfold In64; omega) (by unfold In64; omega))
  clear HO
  by_cases hok : MCo k x y = true
  · have hlaw := MC_law hok
    obtain ⟨e1, e2⟩ := MC_is hok
    have h' := MCo_iff.1 hok
    have hle := mts_le x.toNat y.toNat (ors k.toNat (lft k.toNat []))
    have hsm := ors_small (n := k.toNat) (by omega)
    obtain ⟨P, hP⟩ : ∃ P, P = mts x.toNat y.toNat (ors k.toNat (lft k.toNat [])) := ⟨_, rfl⟩
    obtain ⟨Q, hQ⟩ : ∃ Q, Q = (ors k.toNat (lft k.toNat [])).length := ⟨_, rfl⟩
    rw [← hP] at e1 hle
    rw [← hQ] at e2 hle hsm
    rw [e1, e2] at CI CS hlaw
    obtain ⟨A, rfl⟩ : ∃ A : Nat, x = A := ⟨x.toNat, by omega⟩
    obtain ⟨B, rfl⟩ : ∃ B : Nat, y = B := ⟨y.toNat, by omega⟩
    rw [Int.toNat_natCast, Int.toNat_natCast] at hlaw
    have hor := bits_or_i64_nat A B (by omega) (by omega)
    have hand := bits_and_i64_nat A B (by omega) (by omega)
    have hor31 : A ||| B < 2 ^ 5 := Nat.or_lt_two_pow (by omega) (by omega)
    have hand31 : A &&& B ≤ A := Nat.and_le_left
    obtain ⟨O, hO⟩ : ∃ O, O = A ||| B := ⟨_, rfl⟩
    obtain ⟨D, hD⟩ : ∃ D, D = A &&& B := ⟨_, rfl⟩
    rw [← hO] at hor hor31 hlaw
    rw [← hD] at hand hand31 hlaw
    have cw1 := fun wx => weight_any O wx (by omega)
    have cw2 := fun wx => weight_any D wx (by omega)
    have hw1 := wgt_le O
    have hw2 := wgt_le D
    obtain ⟨S, hS⟩ : ∃ S, S = wgt O := ⟨_, rfl⟩
    obtain ⟨T, hT⟩ : ∃ T, T = wgt D := ⟨_, rfl⟩
    rw [← hS] at cw1 hw1 hlaw
    rw [← hT] at cw2 hw2 hlaw
    have m1 : P * S ≤ 3125 * 1000000 := Nat.mul_le_mul (by omega) (by omega)
    have m2 : Q * T ≤ 3125 * 1000000 := Nat.mul_le_mul (by omega) (by omega)
    have p1 : IntKind.i64.wrap ((P : Int) * (S : Int)) = (P : Int) * (S : Int) := IntWalk.i64_in _ (by
      have : (P : Int) * (S : Int) = ((P * S : Nat) : Int) := by simp
      omega)
    have p2 : IntKind.i64.wrap ((Q : Int) * (T : Int)) = (Q : Int) * (T : Int) := IntWalk.i64_in _ (by
      have : (Q : Int) * (T : Int) = ((Q * T : Nat) : Int) := by simp
      omega)
    have eP : ((P : Int) != (P : Int)) = false := by simp
    have eQ : ((Q : Int) != (Q : Int)) = false := by simp
    have HL := Lib.hid hlaw
    have W1 := Lib.hid cw1
    have W2 := Lib.hid cw2
    clear hlaw cw1 cw2 hP hQ hO hD hS hT h' hok e1 e2 m1 m2 hle hw1 hw2
    go_wp2_with fail
    refine (CI.out _).mono ?_
    rintro e w2 ⟨rfl, b2⟩
    have B2 := B1.trans (b2.mono B1.size)
    go_wp2_with fail
    refine (CS.out _).mono ?_
    rintro e w3 ⟨rfl, b3⟩
    have B3 := B2.trans (b3.mono B2.size)
    clear b2 b3 B1 B2
    go_wp2_with fail
    refine (W1.out _).mono ?_
    rintro e w' ⟨rfl, rfl⟩
    go_wp2_with fail
    refine (W2.out _).mono ?_
    rintro e w' ⟨rfl, rfl⟩
    go_wp2
    go_ret
    exact ⟨ret_bool (by rw [HL.out]; simp), B3⟩
  · obtain ⟨e1, e2⟩ := MC_no hok
    rw [e1, e2] at CI CS
    clear hok e1 e2
    go_wp2_with fail
    refine (CI.out _).mono ?_
    rintro e w2 ⟨rfl, b2⟩
    have B2 := B1.trans (b2.mono B1.size)
    go_wp2_with fail
    refine (CS.out _).mono ?_
    rintro e w3 ⟨rfl, b3⟩
    have B3 := B2.trans (b3.mono B2.size)
    go_wp2
    go_ret
    exact ⟨rfl, B3⟩
end Go.Proofs.Ytjkcahmbocjacaa
