/-
  impl.nextNumber, jumps.ownerOf, impl.JumpTo.
-/
import Derived.Test.YtbldfhfciihddaaZ3
import Derived.Test.YtbldfhfciihddaaY5
namespace Go.Proofs.Ytbldfhfciihddaa
open Go.RowKit

theorem nextNumber_any (x : Nat) (hx : x < 97) (w : World) : Calls Try.prog 136 #[.int .i64 (x : Int)] w fun e w' => e = .returned (.int .i64 (((x * 13 + 7) % 97 : Nat) : Int)) ∧ w = w' := by
  go_enter Try.func136, Try.ntmps136
  go_wp2
  go_ret
  exact ⟨ret_int (by omega), rfl⟩

theorem jump_rest {x' t : Nat} (hx : x' < 97) (ht : t ≤ 20) : ∃ r : Nat, r = x' % (t + 2) ∧ (x' : Int).tmod ((t + 2 : Nat) : Int) = (r : Int) ∧ r < 97 := by
  refine ⟨x' % (t + 2), rfl, ?_, ?_⟩
  · rw [Int.tmod_eq_emod_of_nonneg (by omega)]; exact (Int.natCast_emod _ _).symm
  · have := Nat.mod_le x' (t + 2); omega

set_option maxHeartbeats 2000000 in
theorem jumpsOwner_any (k n : Nat) (w : World) (hk : k ≤ 63) (h1 : 1 ≤ n) (h2 : n ≤ 20) :
    Calls Try.prog 135 #[.int .i64 (n : Int), .int .i64 (k : Int)] w fun e w' => e = .returned (.int .i64 (ja k n : Nat)) ∧ w = w' := by
  have C0 := Lib.hid (nextNumber_any k (by omega) w)
  obtain ⟨X0, hX0⟩ : ∃ X, X = (k * 13 + 7) % 97 := ⟨_, rfl⟩
  rw [← hX0] at C0
  have HX0 := Lib.hid (show X0 = jx k 1 from hX0)
  clear hX0
  go_enter Try.func135, Try.ntmps135
  go_wp2_with fail
  refine C0.out.mono ?_
  rintro e w' ⟨rfl, rfl⟩
  go_wp2
  go_loopw [5, 6, 7] (fun av xv kv wr => ∃ t t1 x A : Nat, t + 1 ≤ n ∧ kv = .int .i64 (t1 : Int) ∧ av = .int .i64 (A : Int) ∧ xv = .int .i64 (x : Int) ∧ Hid (t1 = t + 1) ∧ Hid (A = ja k (t + 1)) ∧ Hid (x = jx k (t + 1)) ∧ w = wr) (fun _ _ kv _ => n - (intOf kv).toNat)
  case atStart => exact ⟨0, 1, X0, 0, by omega, rfl, rfl, rfl, rfl, Lib.hid (by simp [ja]), HX0, rfl⟩
  case round =>
    obtain ⟨t, t1, x, A, ht, rfl, rfl, rfl, HT1, HA, HX, rfl⟩ := hrel
    have hx := jx_lt k (t + 1) (by omega)
    rw [← HX.out] at hx
    by_cases hlt : t + 1 < n
    · obtain ⟨r, hr, e4, hr9⟩ := jump_rest hx (t := t) (by omega)
      have hja : ja k (t + 2) = if t + 1 ≠ 0 ∧ jx k (t + 1) % (t + 1 + 1) = 0 then t + 1 else ja k (t + 1) := rfl
      rw [← HX.out, show t + 1 + 1 = t + 2 from rfl, ← hr] at hja
      have cn := nextNumber_any x hx w
      obtain ⟨x2, hx2⟩ : ∃ y, y = (x * 13 + 7) % 97 := ⟨_, rfl⟩
      rw [← hx2] at cn
      have hxs : x2 = jx k (t + 2) := by rw [hx2, HX.out]; rfl
      have CN := Lib.hid cn
      obtain ⟨t2, ht2⟩ : ∃ t2, t2 = t + 2 := ⟨_, rfl⟩
      rw [← ht2] at e4
      have HT2 := Lib.hid ht2
      have ht1 : (t1 : Int) < (n : Int) := by have := HT1.out; omega
      have e5 : IntKind.i64.wrap ((t1 : Int) + 1) = (t2 : Int) := by rw [IntWalk.i64_in _ (by have := HT1.out; omega)]; have := HT1.out; omega
      have hne : ¬ t2 = 0 := by omega
      have HXS := Lib.hid hxs
      clear hx2 hr ht2 hxs cn
      by_cases hc : r = 0
      · rw [if_pos ⟨by omega, hc⟩] at hja
        have HJ := Lib.hid hja
        clear hja
        subst hc
        go_wp2_with fail
        refine CN.out.mono ?_
        rintro e w' ⟨rfl, rfl⟩
        go_wp2
        refine ⟨⟨t1, t2, x2, t1, by have := HT1.out; omega, by first | rfl | go_num, rfl, rfl, Lib.hid (by rw [HT2.out, HT1.out]), Lib.hid (by rw [HT1.out]; exact HJ.out.symm), Lib.hid (by rw [HT1.out]; exact HXS.out), by first | rfl | trivial⟩, ?_⟩
        have := HT1.out
        have := HT2.out
        simp [intOf]; omega
      · rw [if_neg (fun h => hc h.2)] at hja
        have HJ := Lib.hid hja
        clear hja
        go_wp2_with fail
        refine CN.out.mono ?_
        rintro e w' ⟨rfl, rfl⟩
        go_wp2
        refine ⟨⟨t1, t2, x2, A, by have := HT1.out; omega, by first | rfl | go_num, rfl, rfl, Lib.hid (by rw [HT2.out, HT1.out]), Lib.hid (by rw [HT1.out, HA.out]; exact HJ.out.symm), Lib.hid (by rw [HT1.out]; exact HXS.out), by first | rfl | trivial⟩, ?_⟩
        have := HT1.out
        have := HT2.out
        simp [intOf]; omega
    · have ht1 : ¬ (t1 : Int) < (n : Int) := by have := HT1.out; omega
      have e : A = ja k n := by rw [HA.out, show t + 1 = n from by omega]
      have E := Lib.hid e
      clear e
      go_wp2
      go_ret
      exact ⟨by first | rfl | (rw [E.out]; rfl), by first | rfl | trivial⟩

set_option maxRecDepth 100000 in
set_option maxHeartbeats 1000000 in
theorem spreadJumps_any (n : Int) (w : World) :
    Calls Try.prog 85 #[.iface 63 (.int .i64 n)] w fun e w' => e = .returned (.bool (inR n 1 20)) ∧ w = w' := by
  by_cases h1 : 1 ≤ n
  · by_cases h2 : n ≤ 20
    · rw [inR_yes h1 h2]
      go_enter Try.func85, Try.ntmps85
      go_wp2
      go_ret
      exact ⟨rfl, rfl⟩
    · rw [inR_no2 (by omega)]
      go_enter Try.func85, Try.ntmps85
      go_wp2
      go_ret
      exact ⟨rfl, rfl⟩
  · rw [inR_no1 (by omega)]
    go_enter Try.func85, Try.ntmps85
    go_wp2
    go_ret
    exact ⟨rfl, rfl⟩

set_option maxRecDepth 100000 in
set_option maxHeartbeats 1000000 in
theorem ownerByJumps_any (n k : Int) (w : World) :
    Calls Try.prog 63 #[.iface 63 (.int .i64 n), .int .i64 k] w fun e w' => e = .returned (.int .i64 (JT k n)) ∧ w = w' := by
  have cP := fun wx => isPlace_any k wx
  have cS := fun wx => spreadJumps_any n wx
  obtain ⟨R, hR⟩ : ∃ R, R = JT k n := ⟨_, rfl⟩
  rw [← hR]
  have HR := Lib.hid hR
  clear hR
  by_cases g : inR k 0 63 = true
  · have r := inR_iff.1 g
    rw [g] at cP
    have CP := Lib.hid cP
    clear cP g
    by_cases hv : inR n 1 20 = true
    · have r2 := inR_iff.1 hv
      rw [hv] at cS
      have CS := Lib.hid cS
      obtain ⟨k', rfl⟩ : ∃ k' : Nat, k = k' := ⟨k.toNat, by omega⟩
      obtain ⟨n', rfl⟩ : ∃ n' : Nat, n = n' := ⟨n.toNat, by omega⟩
      have e : R = (ja k' n' : Int) := by rw [HR.out]; exact JT_yes (by omega) (by omega) (by omega)
      have CO := Lib.hid (fun wx => jumpsOwner_any k' n' wx (by omega) (by omega) (by omega))
      rw [← e] at CO
      clear cS hv e
      go_enter Try.func63, Try.ntmps63
      go_wp2_with fail
      refine (CP.out _).mono ?_
      rintro e w' ⟨rfl, rfl⟩
      go_wp2_with fail
      refine (CS.out _).mono ?_
      rintro e w1 ⟨rfl, rfl⟩
      go_wp2_with fail
      refine (CO.out _).mono ?_
      rintro e w2 ⟨rfl, rfl⟩
      go_wp2
      go_ret
      exact ⟨rfl, rfl⟩
    · have e : R = -1 := by rw [HR.out]; exact JT_no fun h => hv (inR_iff.2 h.2)
      subst e
      rw [show inR n 1 20 = false from by simpa using hv] at cS
      have CS := Lib.hid cS
      clear cS hv
      go_enter Try.func63, Try.ntmps63
      go_wp2_with fail
      refine (CP.out _).mono ?_
      rintro e w' ⟨rfl, rfl⟩
      go_wp2_with fail
      refine (CS.out _).mono ?_
      rintro e w1 ⟨rfl, rfl⟩
      go_wp2
      go_ret
      exact ⟨rfl, rfl⟩
  · have e : R = -1 := by rw [HR.out]; exact JT_no fun h => g (inR_iff.2 h.1)
    subst e
    rw [show inR k 0 63 = false from by simpa using g] at cP
    have CP := Lib.hid cP
    clear cP g cS
    go_enter Try.func63, Try.ntmps63
    go_wp2_with fail
    refine (CP.out _).mono ?_
    rintro e w' ⟨rfl, rfl⟩
    go_wp2
    go_ret
    exact ⟨rfl, rfl⟩

theorem implJumpTo_any (k n : Int) (w : World) (_hk : In64 k) (_hn : In64 n) :
    Calls Try.prog 40 #[.int .i64 k, .int .i64 n] w fun e w' => e = .returned (.int .i64 (JT k n)) ∧ Below w.heap.size w w' := by
  have C := Lib.hid (ownerByJumps_any n k w)
  obtain ⟨R, hR⟩ : ∃ R, R = JT k n := ⟨_, rfl⟩
  rw [← hR] at C ⊢
  clear hR
  go_enter Try.func40, Try.ntmps40
  go_wp2_with fail
  refine C.out.mono ?_
  rintro e w' ⟨rfl, rfl⟩
  go_wp2
  go_ret
  exact ⟨rfl, Below.refl _ _⟩
end Go.Proofs.Ytbldfhfciihddaa
