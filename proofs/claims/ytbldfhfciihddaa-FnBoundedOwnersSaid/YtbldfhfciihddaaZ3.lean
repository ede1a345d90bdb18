/-
  impl.validSpread, ownerBy of rings, impl.OwnerOf.
-/
import Derived.Test.YtbldfhfciihddaaZA
namespace Go.Proofs.Ytbldfhfciihddaa
open Go.RowKit

@[go_sem] theorem as_ring (v : Value) (w : World) : (Instr.typeAssert (.iface 59 v) 75 59 true).run Try.prog w = .ok (.tuple #[v, .bool true]) w := by kernel_rfl
@[go_sem] theorem as_scores (v : Value) (w : World) : (Instr.typeAssert (.iface 62 v) 75 62 true).run Try.prog w = .ok (.tuple #[v, .bool true]) w := by kernel_rfl
@[go_sem] theorem as_jumps (v : Value) (w : World) : (Instr.typeAssert (.iface 63 v) 75 63 true).run Try.prog w = .ok (.tuple #[v, .bool true]) w := by kernel_rfl
@[go_sem] theorem as_scores_ring (v : Value) (w : World) : (Instr.typeAssert (.iface 62 v) 75 59 true).run Try.prog w = .ok (.tuple #[.slice none 0 0, .bool false]) w := by kernel_rfl
@[go_sem] theorem as_jumps_ring (v : Value) (w : World) : (Instr.typeAssert (.iface 63 v) 75 59 true).run Try.prog w = .ok (.tuple #[.slice none 0 0, .bool false]) w := by kernel_rfl
@[go_sem] theorem as_jumps_scores (v : Value) (w : World) : (Instr.typeAssert (.iface 63 v) 75 62 true).run Try.prog w = .ok (.tuple #[.slice none 0 0, .bool false]) w := by kernel_rfl

set_option maxRecDepth 100000 in
set_option maxHeartbeats 4000000 in
theorem spreadRing_any (a : Option Addr) (l : List Int) (cap : Nat) (w : World) (hr : Reads w a l) (hi : ∀ n ∈ l, In64 n) (hl : l.length ≤ 1048586) (hcap : l.length ≤ cap) :
    Calls Try.prog 85 #[.iface 59 (.slice a l.length cap)] w fun e w' => e = .returned (.bool (VR l)) ∧ Below w.heap.size w w' := by
  have C := Lib.hid (implValidRing_any a l cap w hr hi hl hcap)
  obtain ⟨R, hR⟩ : ∃ R, R = VR l := ⟨_, rfl⟩
  rw [← hR] at C ⊢
  clear hR
  go_enter Try.func85, Try.ntmps85
  go_wp2_with fail
  refine C.out.mono ?_
  rintro e w' ⟨rfl, hB⟩
  go_wp2
  go_ret
  exact ⟨rfl, hB⟩

set_option maxRecDepth 100000 in
set_option maxHeartbeats 4000000 in
theorem ownerByRing_any (a : Option Addr) (l : List Int) (cap : Nat) (k : Int) (w : World) (hr : Reads w a l) (hi : ∀ n ∈ l, In64 n) (hl : l.length ≤ 1048586) (hcap : l.length ≤ cap) :
    Calls Try.prog 63 #[.iface 59 (.slice a l.length cap), .int .i64 k] w fun e w' => e = .returned (.int .i64 (OW l k)) ∧ Below w.heap.size w w' := by
  have cP := fun wx => isPlace_any k wx
  have cS := spreadRing_any a l cap w hr hi hl hcap
  obtain ⟨R, hR⟩ : ∃ R, R = OW l k := ⟨_, rfl⟩
  rw [← hR]
  have HR := Lib.hid hR
  clear hR hi
  by_cases g : inR k 0 63 = true
  · have r := inR_iff.1 g
    rw [g] at cP
    have CP := Lib.hid cP
    clear cP g
    by_cases hv : VR l = true
    · rw [hv] at cS
      have CS := Lib.hid cS
      have e : R = (own l k : Nat) := by rw [HR.out]; exact OW_yes hv r.1 r.2
      have CO := Lib.hid (fun wx h => ringOwner_any a l cap k wx h hv r.1 r.2)
      rw [← e] at CO
      clear cS hv e
      go_enter Try.func63, Try.ntmps63
      go_wp2_with fail
      refine (CP.out _).mono ?_
      rintro e w' ⟨rfl, rfl⟩
      go_wp2_with fail
      refine CS.out.mono ?_
      rintro e w1 ⟨rfl, b1⟩
      have hr1 := hr.below b1
      go_wp2_with fail
      refine (CO.out w1 hr1).mono ?_
      rintro e w2 ⟨rfl, b2⟩
      have b := b1.trans (b2.mono b1.size)
      go_wp2
      go_ret
      exact ⟨rfl, b⟩
    · have e : R = -1 := by rw [HR.out]; exact OW_no fun h => hv h.1
      subst e
      rw [show VR l = false from by simpa using hv] at cS
      have CS := Lib.hid cS
      clear cS hv
      go_enter Try.func63, Try.ntmps63
      go_wp2_with fail
      refine (CP.out _).mono ?_
      rintro e w' ⟨rfl, rfl⟩
      go_wp2_with fail
      refine CS.out.mono ?_
      rintro e w1 ⟨rfl, b1⟩
      go_wp2
      go_ret
      exact ⟨rfl, b1⟩
  · have e : R = -1 := by rw [HR.out]; exact OW_no fun h => g (inR_iff.2 h.2)
    subst e
    rw [show inR k 0 63 = false from by simpa using g] at cP
    have CP := Lib.hid cP
    clear cP g cS
    go_enter Try.func63, Try.ntmps63
    go_wp2_with fail
    refine (CP.out _).mono ?_
    rintro e w' ⟨rfl, rfl⟩
    go_wp2
    go_ret
    exact ⟨rfl, Below.refl _ _⟩

theorem implOwnerOf_any (a : Option Addr) (l : List Int) (cap : Nat) (k : Int) (w : World) (hr : Reads w a l) (hi : ∀ n ∈ l, In64 n) (hl : l.length ≤ 1048586) (hcap : l.length ≤ cap) (_hk : In64 k) :
    Calls Try.prog 23 #[.slice a l.length cap, .int .i64 k] w fun e w' => e = .returned (.int .i64 (OW l k)) ∧ Below w.heap.size w w' := by
  have C := Lib.hid (ownerByRing_any a l cap k w hr hi hl hcap)
  obtain ⟨R, hR⟩ : ∃ R, R = OW l k := ⟨_, rfl⟩
  rw [← hR] at C ⊢
  clear hR
  go_enter Try.func23, Try.ntmps23
  go_wp2_with fail
  refine C.out.mono ?_
  rintro e w' ⟨rfl, hB⟩
  go_wp2
  go_ret
  exact ⟨rfl, hB⟩
end Go.Proofs.Ytbldfhfciihddaa
