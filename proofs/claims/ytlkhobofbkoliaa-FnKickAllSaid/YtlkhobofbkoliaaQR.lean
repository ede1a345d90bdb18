/-
  slices.Min, impl.IsRoomy.
-/
import Derived.Test.YtlkhobofbkoliaaQG
import Derived.Test.YtlkhobofbkoliaaG2
import Derived.Test.YtlkhobofbkoliaaQp
import Derived.Deep.DeepCutAuto
import Derived.Deep.RegionWith
import Derived.Deep.OwnRows
namespace Go.Proofs.Ytlkhobofbkoliaa
open Go.RowKit

set_option maxHeartbeats 400000 in
theorem min_any (a : Option Addr) (l : List Int) (cap : Nat) (w : World) (hr : Reads w a l) (hl : l.length ≤ 1000000) (h0 : l.length ≠ 0) :
    Calls Try.prog 88 #[.slice a l.length cap] w fun e w' => (∃ x, e = .returned (.int .i64 x) ∧ x ∈ l ∧ ∀ y ∈ l, x ≤ y) ∧ w = w' := by
  have hp : 0 < l.length := by omega
  obtain ⟨b, off, x0, rfl, hbb, hc0, hx0⟩ := hr.get hp
  simp only [Nat.add_zero] at hc0
  go_enter Try.func88, Try.ntmps88
  go_wp2
  go_loop [3, 4] (fun m i => ∃ (k : Nat) (x : Int), 1 ≤ k ∧ k ≤ l.length ∧ i = .int .i64 k ∧ m = .int .i64 x ∧ x ∈ l ∧ ∀ j, j < k → x ≤ l.getD j 0) (fun _ i => l.length - (intOf i).toNat)
  case atStart =>
    refine ⟨1, x0, Nat.le_refl _, by omega, rfl, rfl, ?_, fun j hj => ?_⟩
    · rw [← hx0.out]; exact getD_mem hp
    · obtain rfl : j = 0 := by omega
      rw [hx0.out]; exact Int.le_refl _
  case round =>
    obtain ⟨k, x, h1, hk, rfl, rfl, hxm, hle⟩ := hrel
    have HL := Lib.hid hle
    clear hle
    by_cases hlt : k < l.length
    · obtain ⟨y, hc, hy⟩ := hr.at_ hlt
      have hym : y ∈ l := by rw [← hy.out]; exact getD_mem hlt
      by_cases hyx : y < x
      · go_wp2
        go_round
        case rel =>
          refine ⟨k + 1, y, by omega, by omega, by go_num, by simp [hyx], hym, fun j hj => ?_⟩
          by_cases e : j = k
          · subst e; rw [hy.out]; exact Int.le_refl _
          · have := HL.out j (by omega); omega
        case measure => simp [intOf]; omega
      · go_wp2
        go_round
        case rel =>
          refine ⟨k + 1, x, by omega, by omega, by go_num, by simp [hyx], hxm, fun j hj => ?_⟩
          by_cases e : j = k
          · subst e; rw [hy.out]; omega
          · exact HL.out j (by omega)
        case measure => simp [intOf]; omega
    · obtain rfl : k = l.length := by omega
      go_wp2
      go_ret
      refine ⟨⟨x, rfl, hxm, fun y hy => ?_⟩, rfl⟩
      obtain ⟨j, hj, rfl⟩ := List.getElem_of_mem hy
      have := HL.out j hj
      rwa [List.getD_eq_getElem?_getD, List.getElem?_eq_getElem hj] at this

set_option maxHeartbeats 4000000 in
set_option maxRecDepth 100000 in
theorem implIsRoomy_yes (M : Nat) (a : Option Addr) (l : List (Int × Int)) (cap : Nat) (w : World) (hr : ReadsP w a l) (hP : Prs M l) :
    Calls Try.prog 36 #[.int .i64 M, .slice a l.length cap] w fun e w' => e = .returned (.bool (rmy M l)) ∧ Below w.heap.size w w' := by
  have hM := hP.le
  have hM1 := hP.pos
  have hlen := hP.len
  have hvp := hP.VP
  have HV := Lib.hid hvp
  clear hvp
  obtain ⟨hG, hS⟩ := gra_inv hP
  have hgl := hG.len
  have HGL := Lib.hid hgl
  clear hgl hS
  have hmk := run_make_row' (P := Try.prog) 23 3 (.int .i64 0) 8 Try.underlying23 infoInt rfl .i64 .i64 M (by omega) (by omega)
  go_enter Try.func36, Try.ntmps36
  go_wp2_with fail
  refine (implVP_any _ _ _ _ _ hr).mono ?_
  rintro e w0 ⟨rfl, hb0⟩
  rw [HV.out]
  have hs0 := hb0.size
  go_upto_region 3 with fail
  go_cut [5, 6] (fun s5 s6 wx => ∃ gv cv g : Nat, s5 = .slice (some ⟨gv, 0, none⟩) M cv ∧ s6 = .slice (some ⟨g, 0, none⟩) M M ∧ gv ≠ g ∧ Tab wx w.heap.size gv M cv (gra M l) ∧ Tab wx w.heap.size g M M (List.replicate M 0) ∧ Below w.heap.size w wx)
  case first =>
    go_region_with (go_at_call 38; refine (implGroupsOf_yes M _ l _ _ (by first | exact hr.below hb0 | exact (hr.below hb0).below ((Below.refl _ _).alloc (Nat.le_refl _) _)) hP).mono ?_; rintro e w1 ⟨v, rfl, ho, hb1⟩)
    all_goals
      obtain ⟨gv, cv, rfl, hT⟩ := ho.tab (by rw [HGL.out]; omega)
      rw [HGL.out] at hT ⊢
      clear ho
    · have z1 := hb1.size
      have hbl := hT.block
      have hb2 : Below w.heap.size w w1 := (hb0.drew).trans (hb1.mono hs0)
      have hA := Tab.zero w1 w.heap.size M (by have := hb2.size; omega) (by omega)
      have hT2 := hT.below ((Below.refl w1.heap.size w1).alloc (Nat.le_refl _) (.cells (madeCells #[.int .i64 0] M) 3))
      go_wp2_with fail
      go_meet
      exact ⟨gv, cv, w1.heap.size, rfl, rfl, by omega, Tab.mono hT2 hs0, hA, hb2.alloc hb2.size _⟩
    · have z1 := hb1.size
      have hbl := hT.block
      have hA := (Tab.zero w0 w.heap.size M hs0 (by omega)).below hb1
      have ez : ((w0.alloc (.cells (madeCells #[.int .i64 0] M) 3)).drew).heap.size = w0.heap.size + 1 := World.size_alloc _ _
      rw [ez] at z1 hbl hb1 hT
      have hb2 : Below w.heap.size w w1 := ((hb0.alloc hs0 _).drew).trans (hb1.mono (by omega))
      go_wp2_with fail
      go_meet
      exact ⟨gv, cv, w0.heap.size, rfl, rfl, by omega, Tab.mono hT (by omega), hA, hb2⟩
  case rest =>
    obtain ⟨gv, cv, g, rfl, rfl, hne, hT, hZ, hb⟩ := hcut
    have hgl := hG.len
    have hle := hG.le
    have HGL := Lib.hid hgl
    have HLE := Lib.hid hle
    have hZ1 : Tab wc w.heap.size g M M (rm1 M (gra M l) 0) := by rw [rm1_zero]; exact hZ
    clear hgl hle hZ hb0 hs0 hmk hG
    go_wp2
    go_loopw [22] (fun i wr => ∃ k : Nat, k ≤ M ∧ i = .int .i64 k ∧ Tab wr w.heap.size gv M cv (gra M l) ∧ Tab wr w.heap.size g M M (rm1 M (gra M l) k) ∧ Below w.heap.size w wr) (fun i _ => M - (intOf i).toNat)
    case atStart => exact ⟨0, Nat.zero_le _, rfl, hT, hZ1, hb⟩
    case round =>
      clear hT hZ1 hb
      obtain ⟨k, hk, rfl, hT, hZ, hb⟩ := hrel
      by_cases hlt : k < M
      · obtain ⟨y, hcy, hy⟩ := hT.get hlt
        have hyl := HLE.out k hlt
        rw [hy.out] at hyl
        obtain ⟨y, rfl⟩ := Int.eq_ofNat_of_zero_le hyl.1
        have hyM : y < M := by omega
        obtain ⟨z, hcz, hz⟩ := hZ.get hyM
        have hzb := rm1_bound (M := M) (X := gra M l) (k := k) hyM
        rw [hz.out, HGL.out] at hzb
        have hfz := hZ.frozen y
        have hst := hZ.store y (z + 1)
        rw [← hz.out, rm1_succ (by rw [HGL.out]; exact hlt) hyM hy.out, hz.out] at hst
        have hT2 := hT.other hne y (.int .i64 (z + 1))
        have hb2 := hb.setCell (p := ⟨g, y, none⟩) hZ.block.1 (.int .i64 (z + 1))
        clear hy hz
        go_wp2
        go_roundw
        case rel => exact ⟨k + 1, by omega, by go_num, hT2, hst, hb2⟩
        case measure => simp [intOf]; omega
      · obtain rfl : k = M := by omega
        have hZ1 : Tab wr w.heap.size g k k (rm2 k (gra k l) l 0) := by rw [rm2_zero, HGL.out]; exact hZ
        clear hZ
        go_wp2
        go_loopw [35] (fun i wr => ∃ j : Nat, j ≤ l.length ∧ i = .int .i64 j ∧ Tab wr w.heap.size gv k cv (gra k l) ∧ Tab wr w.heap.size g k k (rm2 k (gra k l) l j) ∧ Below w.heap.size w wr) (fun i _ => l.length - (intOf i).toNat)
        case atStart => exact ⟨0, Nat.zero_le _, rfl, hT, hZ1, hb⟩
        case round =>
          clear hT hZ1 hb
          obtain ⟨j, hj, rfl, hT, hZ, hb⟩ := hrel
          have hsz := hb.size
          by_cases hlt2 : j < l.length
          · obtain ⟨b, off, x, x2, rfl, hbb, hcx, hcy, hx, hx2⟩ := hr.get hlt2
            have fx := hP.cA hlt2
            have lx := hP.lA hlt2
            obtain ⟨p, hp⟩ : ∃ p, p = hA l j := ⟨_, rfl⟩
            rw [hx.out, ← hp] at fx
            rw [← hp] at lx
            have HP := Lib.hid hp
            clear hp hx hx2
            subst fx
            have c1 : wr.cell? ⟨b, off + j * 2, none⟩ = some (.int .i64 p) := (hb.cell (by exact hbb)).trans hcx
            have c2 : wr.cell? ⟨b, off + j * 2 + 1, none⟩ = some (.int .i64 x2) := (hb.cell (by exact hbb)).trans hcy
            clear hcx hcy
            obtain ⟨y, hcy, hy⟩ := hT.get lx
            have hyl := HLE.out p lx
            rw [hy.out] at hyl
            obtain ⟨y, rfl⟩ := Int.eq_ofNat_of_zero_le hyl.1
            have hyM : y < k := by omega
            obtain ⟨z, hcz, hz⟩ := hZ.get hyM
            have hzb := rm2_bound (M := k) (X := gra k l) (l := l) (i := j) hyM
            rw [hz.out, HGL.out] at hzb
            have hfz := hZ.frozen y
            have hbZ := hZ.block
            have hal := (Below.refl wr.heap.size wr).alloc (Nat.le_refl _) (.cells #[.int .i64 p, .int .i64 x2] 44)
            have hst := hZ.store y (z - 1)
            rw [← hz.out, rm2_succ hlt2 hyM (by rw [← HP.out]; exact hy.out), hz.out] at hst
            replace hst := hst.below ((Below.refl _ _).alloc (Nat.le_refl _) (.cells #[.int .i64 p, .int .i64 x2] 44))
            have hT2 := (hT.other hne y (.int .i64 (z - 1))).below ((Below.refl _ _).alloc (Nat.le_refl _) (.cells #[.int .i64 p, .int .i64 x2] 44))
            have hb2 := (hb.setCell (p := ⟨g, y, none⟩) hbZ.1 (.int .i64 (z - 1))).alloc (by simpa [World.setCell] using hsz) (.cells #[.int .i64 p, .int .i64 x2] 44)
            have hgb := hbZ.2
            have hvb := hT.block.2
            clear hy hz hal
            go_wp2
            go_roundw
            case rel => exact ⟨j + 1, by omega, by go_num, hT2, hst, hb2⟩
            case measure => simp [intOf]; omega
          · obtain rfl : j = l.length := by omega
            have c := min_any (some ⟨g, 0, none⟩) (rm2 k (gra k l) l l.length) k wr hZ.reads (by rw [rm2_len]; omega) (by rw [rm2_len]; omega)
            rw [rm2_len] at c
            go_wp2_with fail
            refine c.mono ?_
            rintro e w' ⟨⟨x, rfl, hx, hle⟩, rfl⟩
            have hm := rmy_min hx hle
            have HM := Lib.hid hm
            clear hx hle hm c
            go_wp2
            go_ret
            exact ⟨ret_bool HM.out.symm, hb⟩

theorem implIsRoomy_any (m : Int) (a : Option Addr) (l : List (Int × Int)) (cap : Nat) (w : World) (hm : In64 m) (hr : ReadsP w a l) (_hl : l.length ≤ 1048586) :
    Calls Try.prog 36 #[.int .i64 m, .slice a l.length cap] w fun e w' => e = .returned (.bool (IRm m l)) ∧ Below w.heap.size w w' := by
  by_cases hv : VP m l = true
  · obtain ⟨M, rfl, hP⟩ := Prs.of_VP hv
    have e : IRm M l = rmy M l := by unfold IRm; rw [hv]; simp
    rw [e]
    exact implIsRoomy_yes M a l cap w hr hP
  · have hv' : VP m l = false := by simpa using hv
    have e : IRm m l = false := by unfold IRm; rw [hv']; rfl
    rw [e]
    clear hv e
    have HV := Lib.hid hv'
    clear hv'
    go_enter Try.func36, Try.ntmps36
    go_wp2_with fail
    refine (implVP_any _ _ _ _ _ hr).mono ?_
    rintro e w0 ⟨rfl, hb0⟩
    rw [HV.out]
    go_wp2
    go_ret
    exact ⟨rfl, hb0⟩
end Go.Proofs.Ytlkhobofbkoliaa
