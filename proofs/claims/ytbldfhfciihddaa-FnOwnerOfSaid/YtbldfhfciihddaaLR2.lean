/-
  laws.FnOwnerOf: the walk.
-/
import Derived.Test.YtbldfhfciihddaaZ3
import Derived.Test.YtbldfhfciihddaaD9
import Derived.Test.YtbldfhfciihddaaW2
namespace Go.Proofs.Ytbldfhfciihddaa
open Go.RowKit

set_option maxHeartbeats 8000000 in
set_option maxRecDepth 100000 in
theorem lawFnOwnerOf (a : Option Addr) (n cap : Nat) (w : World) (hB : Bytes w w.heap.size a n) (hn : n ≤ 9223372036854775807) (hc : n ≤ cap) :
    Calls Try.prog 4 #[.slice a n cap] w fun e w' => e = .returned (.bool true) ∧ Below w.heap.size w w' := by
  by_cases hbig : 1048576 < n
  · go_enter Try.func4, Try.ntmps4
    go_wp2
    go_ret
    exact ⟨rfl, Below.refl _ _⟩
  go_enter Try.func4, Try.ntmps4
  go_wp2_with fail
  refine (drawOwnerOf_any a n cap w hB hn hc).mono ?_
  rintro e w1 ⟨v, l, k, rfl, ho, hl, hs, hk, B1⟩
  clear hB hn hc
  obtain ⟨al, cl, rfl, hr, hlc, hcm, _⟩ := ho.form
  have hi : ∀ x ∈ l, In64 x := fun x hx => by have := hs x hx; unfold In64; omega
  have hk64 : In64 k := by unfold In64; omega
  obtain ⟨R, hR⟩ : ∃ R, R = OW l k := ⟨_, rfl⟩
  have e1 : (R != R) = false := by simp
  have e2 : (R == R) = true := by simp
  have HR := Lib.hid hR
  have i1 := fun wx (h : Reads wx al l) => implOwnerOf_any al l cl k wx h hi (by omega) hlc hk64
  have s1 := fun wx (h : Reads wx al l) => specOwnerOf_any al l cl k wx h hi (by omega) hlc hk64
  rw [← hR] at i1 s1
  have CI := Lib.hid i1
  have CS := Lib.hid s1
  have HI := Lib.hid hi
  have HLC := Lib.hid hlc
  have HCM := Lib.hid hcm
  clear hR i1 s1 hi hlc hcm ho hs
  go_wp2_with fail
  refine (CI.out _ hr).mono ?_
  rintro e w2 ⟨rfl, b2⟩
  have hr2 := hr.below b2
  have B2 := B1.trans (b2.mono B1.size)
  clear b2 B1 hr
  go_wp2_with fail
  refine (CS.out _ hr2).mono ?_
  rintro e w3 ⟨rfl, b3⟩
  have hr3 := hr2.below b3
  have B3 := B2.trans (b3.mono B2.size)
  clear b3 B2 hr2
  by_cases hneg : R < 0
  · go_wp2_with fail
    refine (CS.out _ hr3).mono ?_
    rintro e w4 ⟨rfl, b4⟩
    have B4 := B3.trans (b4.mono B3.size)
    clear b4 B3
    go_wp2
    go_ret
    exact ⟨rfl, B4⟩
  · obtain ⟨hv, k0, k1⟩ := OW_ok (ps := l) (k := k) (by rw [← HR.out]; exact hneg)
    have hRo : R = (own l k : Nat) := by rw [HR.out]; exact OW_yes hv k0 k1
    have hol := own_lt (k := k) hv
    have hlen := (VR_iff.1 hv)
    have hl1 := hlen.1
    have hl6 := hlen.2.1
    obtain ⟨oo, hoo⟩ : ∃ oo, oo = own l k := ⟨_, rfl⟩
    rw [← hoo] at hRo hol
    subst hRo
    have HV := Lib.hid hv
    have HOO := Lib.hid hoo
    clear hv hoo hlen e1 e2 CI CS HR hneg
    go_wp2_with fail
    go_loopw [6] (fun iv wr => ∃ i : Nat, i ≤ l.length ∧ iv = .int .i64 i ∧ Below w3.heap.size w3 wr) (fun iv _ => l.length - (intOf iv).toNat)
    case atStart => exact ⟨0, by omega, rfl, Below.refl _ _⟩
    case round =>
      obtain ⟨i, hi, rfl, hB⟩ := hrel
      by_cases hlt : i < l.length
      · obtain ⟨b, off, y, rfl, hb, hcell, hy⟩ := hr3.get hlt
        have hcw := (hB.cell (p := ⟨b, off + i, none⟩) hb).trans hcell
        have hrw := hr3.below hB
        have ry := VR_rng HV.out hlt
        have hOW : OW l y = (i : Int) := by
          rw [← hy.out, OW_yes HV.out ry.1 ry.2, own_place HV.out hlt]
        rw [hy.out] at ry
        have c1 := implOwnerOf_any (some ⟨b, off, none⟩) l cl y wr hrw HI.out (by omega) HLC.out (by unfold In64; omega)
        rw [hOW] at c1
        have C1 := Lib.hid c1
        have hi1 : (i : Int) < (l.length : Int) := by omega
        have hii : ((i : Int) != (i : Int)) = false := by simp
        clear c1 hOW hy hcell
        by_cases hio : i = oo
        · have hne : ((i : Int) != (oo : Int)) = false := by simp [hio]
          clear hio
          go_wp2_with fail
          refine C1.out.mono ?_
          rintro e w4 ⟨rfl, b4⟩
          go_wp2
          go_roundw
          case rel => exact ⟨i + 1, by omega, by go_num, hB.trans (b4.mono hB.size)⟩
          case measure => simp [intOf]; omega
        · have hne : ((i : Int) != (oo : Int)) = true := by simp; omega
          have hno : i ≠ own l k := by rw [← HOO.out]; exact hio
          have hve := VR_erase HV.out (by omega) hlt
          have hle := erase_len hlt
          have hov := own_erase (k := k) HV.out hlt hno
          have hoe := own_lt (k := k) hve
          have hOWe := OW_yes hve k0 k1
          obtain ⟨E, hE⟩ : ∃ E, E = l.eraseIdx i := ⟨_, rfl⟩
          have hEi : ∀ x ∈ E, In64 x := fun x hx => HI.out x (List.mem_of_mem_eraseIdx (by rw [← hE]; exact hx))
          obtain ⟨ow, how⟩ : ∃ ow, ow = own E k := ⟨_, rfl⟩
          rw [← hE] at hve hle hov hoe hOWe
          rw [← how] at hov hoe hOWe
          rw [← HOO.out] at hov
          obtain ⟨z, hcz, hz⟩ := hr3.at_ hol
          have hz' := hz.out
          rw [← hov] at hz'
          have HZ := Lib.hid hz'
          have HEI := Lib.hid hEi
          have HOWE := Lib.hid hOWe
          have HEE := Lib.hid hE
          have HLE := Lib.hid hle
          clear hle hE how hno hio hve hov hOWe hEi hz hz'
          go_wp2_with fail
          refine C1.out.mono ?_
          rintro e w4 ⟨rfl, b4⟩
          have hB4 := hB.trans (b4.mono hB.size)
          have hr4 := hr3.below hB4
          clear b4 hB hcw hrw C1
          have cw := without_any (some ⟨b, off, none⟩) l cl i w4 hr4 (by omega) HLC.out HCM.out hlt
          rw [← HEE.out] at cw
          have CW := Lib.hid cw
          clear cw
          go_wp2_with fail
          refine CW.out.mono ?_
          rintro e w5 ⟨v5, rfl, ho5, b5⟩
          have hB5 := hB4.trans (b5.mono hB4.size)
          obtain ⟨a5, c5, rfl, hr5, hc5, _, _⟩ := ho5.form
          have hczw := (hB5.cell (p := ⟨b, off + oo, none⟩) hb).trans hcz
          obtain ⟨b6, o6, z6, rfl, hb6, hc6, hz6⟩ := hr5.get hoe
          have hzz : z6 = z := by rw [← hz6.out]; exact HZ.out
          subst hzz
          have cO := implOwnerOf_any (some ⟨b6, o6, none⟩) E c5 k w5.drew (hr5.below (Below.refl _ _).drew) HEI.out (by have := HLE.out; omega) hc5 hk64
          rw [HOWE.out] at cO
          have cO2 : Calls Try.prog 23 #[.slice (some ⟨b6, o6, none⟩) E.length c5, .int .i64 k] w5.drew fun e w' => e = .returned (.int .i64 (ow : Int)) ∧ Below w5.heap.size w5 w' ∧ w'.cell? ⟨b, off + oo, none⟩ = some (.int .i64 z6) ∧ w'.cell? ⟨b6, o6 + ow, none⟩ = some (.int .i64 z6) := by
            refine cO.mono ?_
            rintro e w' ⟨rfl, bb⟩
            have bb5 : Below w5.heap.size w5 w' := (Below.refl w5.heap.size w5).drew.trans bb
            exact ⟨rfl, bb5, (bb5.cell (p := ⟨b, off + oo, none⟩) (World.block_lt_of_cell? _ _ hczw)).trans hczw, (bb5.cell (p := ⟨b6, o6 + ow, none⟩) hb6).trans hc6⟩
          have CO := Lib.hid cO2
          have hzne : (z6 != z6) = false := by simp
          have how1 : (ow : Int) < (E.length : Int) := by omega
          have hoo1 : (oo : Int) < (l.length : Int) := by omega
          clear cO cO2 CW hB4 hr4 b5 ho5 hz6
          go_wp2_with fail
          go_region_held3 (fun w' => w'.cell? ⟨b, off + oo, none⟩ = some (.int .i64 z6) ∧ w'.cell? ⟨b6, o6 + ow, none⟩ = some (.int .i64 z6)) (first | exact ⟨s0, s1⟩ | exact ⟨hczw, hc6⟩ | go_keep)
            (first | (go_at_call 23; refine CO.out.mono ?_; rintro e w6 ⟨rfl, b6w, s0, s1⟩))
          all_goals
            have hB6 := hB5.trans (b6w.mono hB5.size)
            go_wp2
            go_roundw
            case rel => exact ⟨i + 1, by omega, by go_num, hB6⟩
            case measure => simp [intOf]; omega
      · obtain rfl : i = l.length := by omega
        have hoo1 : (oo : Int) < (l.length : Int) := by omega
        have B := B3.trans (hB.mono B3.size)
        go_wp2
        go_ret
        exact ⟨rfl, B⟩
end Go.Proofs.Ytbldfhfciihddaa
