/-
  impl.ShiftsFor.
-/
import Derived.Test.YtapkalpmnldhpaaHc
namespace Go.Proofs.Ytapkalpmnldhpaa
open Go.RowKit

theorem tr_len_of_all {ts : List (List Int)} (h : allN ts ≤ 8) {r : Nat} (hr : r < ts.length) : (tr ts r).length ≤ 8 := by
  have h1 := bulkK_succ hr
  have h2 := bulkK_mono ts (r + 1) (ts.length - (r + 1))
  rw [Nat.add_sub_cancel' (by omega), bulkK_all] at h2
  unfold allN at h
  omega
theorem SF_yes {M : Nat} {ts : List (List Int)} (h : VB M ts = true) (o : Option (List Int)) (ho : o = shf M ts (List.replicate 10 false)) : SF M ts = SFr o := by
  have h1 := VB_iff.1 h
  unfold SF
  rw [if_pos h, ho]
  have e : List.replicate 10 false = List.replicate M false ++ List.replicate (10 - M) false := by
    rw [List.replicate_append_replicate]; congr 1; omega
  rw [e, shf_more (by omega) _ ts _ (by simp)]
  rfl
theorem SFr_eq (o : Option (List Int)) : SFr o = (o.getD [], o.isSome) := by cases o <;> rfl
theorem Fine.of_VB {M : Nat} {ts : List (List Int)} (h : VB M ts = true) : Fine M ts := by
  have h1 := VB_iff.1 h
  intro r hr
  exact ⟨by have := tr_len_of_all h1.2.2.2.1 hr; omega, h1.2.2.2.2 r hr⟩

set_option maxHeartbeats 2000000 in
theorem implShiftsFor_any (m : Int) (a : Option Addr) (ts : List (List Int)) (cap : Nat) (w : World) (_hm : In64 m) (hr : ReadsS w a ts) (hl : bulk ts ≤ 1048586) (hcap : ts.length ≤ cap) :
    Calls Try.prog 38 #[.int .i64 m, .slice a ts.length cap] w fun e w' => ∃ v, e = .returned (.tuple #[v, .bool (SF m ts).2]) ∧ Own w' w.heap.size v (SF m ts).1 ∧ Below w.heap.size w w' := by
  by_cases hv : VB m ts = true
  · obtain ⟨M, rfl⟩ : ∃ M : Nat, m = M := ⟨m.toNat, by have := (VB_iff.1 hv).1; omega⟩
    have h1 := VB_iff.1 hv
    have hsf := SF_yes hv _ rfl
    rw [SFr_eq] at hsf
    have cB := validBuckets_any M a ts cap w hr hl
    rw [hv] at cB
    have hall : ∀ wx, Below w.heap.size w wx → Calls Try.prog 72 #[.int .i64 M, .slice a ts.length cap, .agg #[.bool false, .bool false, .bool false, .bool false, .bool false, .bool false, .bool false, .bool false, .bool false, .bool false]] wx fun e w' => Shifted wx w' e (shf M ts (List.replicate 10 false)) := fun wx hb =>
      shiftAll_raw M (by omega) (by omega) ts a cap ((List.replicate 10 false).map Value.bool) (List.replicate 10 false) wx rfl rfl (hr.below hb) hcap (by omega) (Fine.of_VB hv)
    rw [hsf]
    have CB := Lib.hid cB
    have CA := Lib.hid hall
    clear cB hall hsf h1 hv
    go_enter Try.func38, Try.ntmps38
    go_wp2_with fail
    refine CB.out.mono ?_
    rintro e w0 ⟨rfl, hb0⟩
    go_wp2_with fail
    have hbx := hb0.alloc hb0.size (.cells #[.bool false, .bool false, .bool false, .bool false, .bool false, .bool false, .bool false, .bool false, .bool false, .bool false] 73)
    refine (CA.out _ hbx).mono ?_
    rintro e w2 ⟨v, rfl, ho, _, hb2⟩
    have hb3 := hbx.trans (hb2.mono hbx.size)
    have ho2 := ho.mono hbx.size
    go_wp2
    go_ret2
    exact ⟨v, rfl, ho2, hb3⟩
  · have hv' : VB m ts = false := by simpa using hv
    have e : SF m ts = ([], false) := by unfold SF; rw [if_neg hv]
    have cB := validBuckets_any m a ts cap w hr hl
    rw [hv'] at cB
    rw [e]
    have CB := Lib.hid cB
    clear cB hv hv' e
    go_enter Try.func38, Try.ntmps38
    go_wp2_with fail
    refine CB.out.mono ?_
    rintro e w0 ⟨rfl, hb0⟩
    go_wp2
    go_ret2
    exact ⟨_, rfl, Own.nil _ _, hb0⟩
end Go.Proofs.Ytapkalpmnldhpaa
