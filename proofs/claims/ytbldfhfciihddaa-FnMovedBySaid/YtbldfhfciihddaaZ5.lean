/-
  slices.Grow, slices.Concat, impl.MovedBy.
-/
import Derived.Lib.AppendZerosOnto
import Derived.Lib.AppendZeros
import Derived.Test.YtbldfhfciihddaaZA
import Derived.Test.YtbldfhfciihddaaY3
namespace Go.Proofs.Ytbldfhfciihddaa
open Go.RowKit

/-- 'append(s, x...)' of a slice that the call owns. -/
theorem push_all {wr : World} {ops : Array Oper} {rest : List Oper} {o : Oper} {a : Act} {Q : Exit → Act → World → Prop} (hgd : o.guard = none) (s x : Operand)
    (ho : o.op = .call { callee := .builtin .append, args := #[s, x], argTypes := #[23, 23] })
    (base : Nat) (v : Value) (L : List Int) (hs : a.eval s = v) (hown : Own wr base v L) (hb : base ≤ wr.heap.size)
    (ax : Option Addr) (l : List Int) (n cap : Nat) (hn : l.length = n) (hx : a.eval x = .slice ax n cap) (hr : Reads wr ax l) (h0 : n ≠ 0) (hl : n < 2000000) (hL : L.length < 2000000)
    (h : ∀ v' w', Own w' base v' (L ++ l) → wr.grownBy w' v.ownBlock → wpList Try.prog ops Q rest (a.put o.dst v') w') :
    wpList Try.prog ops Q (o :: rest) a wr := by
  obtain ⟨i0, hi, hz0, hz1, hz2⟩ := info_parts infoInt
  subst hn
  rcases hr with rfl | ⟨b, off, rfl, hb2, hc⟩
  · simp at h0
  refine wpList_append_own _ hgd s x 23 ho base 3 i0 (.int .i64 0) 1 8 Try.underlying23 hi hz0 hz1 hz2 rfl (by decide) _ L.length _ hs hown ⟨b, off, none⟩ l.length cap (l.map (Value.int .i64)) hx (by simp) ?c1 (ints_oneCell _ _) ?c3 ?c4 hb fun v' w' h1 h2 _ => h v' w' ?_ h2
  case c1 =>
    intro j u hu
    have hj : j < l.length := by simpa using (List.getElem?_eq_some_iff.1 hu).1
    rw [getD_map hj] at hu
    obtain rfl := Option.some.inj hu
    rw [Addr.add_lit]
    exact hc j hj
  case c3 => unfold maxLen; omega
  case c4 => omega
  · unfold Own
    rw [List.length_append, List.map_append]
    exact h1

set_option maxRecDepth 100000 in
set_option maxHeartbeats 2000000 in
theorem grow_any (n : Nat) (w : World) (h1 : 1 ≤ n) (hn : n ≤ 2000000) :
    Calls Try.prog 86 #[.slice none 0 0, .int .i64 (n : Int)] w fun e w' => ∃ v G, e = .returned v ∧ v = .slice (some ⟨w.heap.size, 0, none⟩) 0 G ∧ Own w' w.heap.size v [] ∧ Below w.heap.size w w' := by
  obtain ⟨i0, hi, hz0, hz1, hz2⟩ := info_parts infoInt
  have hold : (Builtin.firstCells i0.size 0 (.slice none 0 0)).run Try.prog w.drew = .ok ([] : List Value).toArray w.drew := by
    rw [hz1]; simp [Builtin.firstCells, loadCells, loadCellsFrom]
  have hrz := fun ty => Lib.run_append_grow_zeros (P := Try.prog) w 23 3 ty 3 i0 (.int .i64 0) .i64 .i64 Try.underlying23 Try.underlying3 hi hz0 none 0 0 [] hold n (by omega) (by rw [hz1]; omega) (by omega) (by omega) (by rw [hz2]; omega) (by rw [hz2]; exact growslice_fits (by omega) (by omega))
  simp only [Nat.zero_add] at hrz
  have hGn := grownCap_ge w n 0 3
  have hGm := grownCap_le_maxLen w n 0 3 (by unfold maxLen; omega)
  obtain ⟨G, hG⟩ : ∃ G, G = grownCap w n 0 3 := ⟨_, rfl⟩
  rw [← hG] at hrz hGn hGm
  obtain ⟨CC, hCC⟩ : ∃ CC, CC = (([] : List Value).toArray ++ Builtin.zeroCells (Value.int IntKind.i64 0).cells n ++ Builtin.zeroCells (Value.int IntKind.i64 0).cells (G - n)) := ⟨_, rfl⟩
  have hCs : CC.size = G := by rw [hCC]; simp only [Array.size_append, size_zeroCells]; simp [Value.cells]; omega
  rw [← hCC] at hrz
  have hown : Own (w.drew.alloc (.cells CC 3)) w.heap.size (.slice (some ⟨w.heap.size, 0, none⟩) 0 G) [] :=
    ⟨rfl, .inr ⟨w.heap.size, G, CC, rfl, Nat.le_refl _, heap_alloc_new w.drew _, Nat.zero_le _, hGm, by omega, by simp⟩⟩
  have hB : Below w.heap.size w (w.drew.alloc (.cells CC 3)) := (Below.refl w.heap.size w).drew.alloc (Nat.le_refl _) _
  have hG63 : G ≤ 9223372036854775807 := hGm
  have g1 : ¬ (n : Int) < 0 := by omega
  have g2 : (n : Int) > 0 := by omega
  have HO := Lib.hid hown
  have HB := Lib.hid hB
  clear hold hG hCC hCs hown hB
  go_enter Try.func86, Try.ntmps86
  go_wp2_with (at_builtin; refine Lib.wpList_append_run _ rfl _ _ _ _ rfl _ _ rfl rfl _ _ (hrz _) ?_)
  go_ret
  exact ⟨_, rfl, ⟨G, rfl⟩, HO.out, HB.out⟩

set_option maxHeartbeats 4000000 in
theorem concat_any (gs g1 : Nat) (a : Option Addr) (l : List Int) (cap : Nat) (p : Int) (w : World) (hr : Reads w a l) (hl : l.length ≤ 1048586)
    (hc0 : w.cell? ⟨gs, 0, none⟩ = some (.slice a l.length cap)) (hc1 : w.cell? ⟨gs, 1, none⟩ = some (.slice (some ⟨g1, 0, none⟩) 1 1)) (hp : w.cell? ⟨g1, 0, none⟩ = some (.int .i64 p)) :
    Calls Try.prog 67 #[.slice (some ⟨gs, 0, none⟩) 2 2] w fun e w' => ∃ v, e = .returned v ∧ Own w' w.heap.size v (l ++ [p]) ∧ Below w.heap.size w w' := by
  have hgs := World.block_lt_of_cell? w _ hc0
  have hg1 := World.block_lt_of_cell? w _ hp
  have hrp : Reads w (some ⟨g1, 0, none⟩) [p] := .inr ⟨g1, 0, rfl, hg1, fun i hi => by
    simp at hi; subst hi; exact hp⟩
  have e1 : IntKind.i64.wrap ((l.length : Int)) = (l.length : Int) := IntWalk.i64_in _ (by omega)
  have e2 : IntKind.i64.wrap ((l.length : Int) + 1) = ((l.length + 1 : Nat) : Int) := by rw [IntWalk.i64_in _ (by omega)]; rfl
  obtain ⟨N, hN⟩ : ∃ N, N = l.length := ⟨_, rfl⟩
  have CG := Lib.hid (grow_any (l.length + 1) w (by omega) (by omega))
  rw [← hN] at CG hc0 e1 e2 hl
  obtain ⟨N1, hN1⟩ : ∃ N1, N1 = N + 1 := ⟨_, rfl⟩
  rw [← hN1] at CG e2
  have HN := Lib.hid hN
  have HN1 := Lib.hid hN1
  have hN1b : N1 ≤ 1048587 := by omega
  clear hN hN1 hp
  go_enter Try.func67, Try.ntmps67
  go_wp2
  go_loop [3, 11] (fun sv iv => (iv = .int .i64 0 ∧ sv = .int .i64 0) ∨ (iv = .int .i64 1 ∧ sv = .int .i64 N) ∨ (iv = .int .i64 2 ∧ sv = .int .i64 N1)) (fun _ iv => 2 - (intOf iv).toNat)
  case atStart => exact .inl ⟨rfl, rfl⟩
  case round =>
    rcases hrel with ⟨rfl, rfl⟩ | ⟨rfl, rfl⟩ | ⟨rfl, rfl⟩
    · go_wp2
      go_round
      case rel => exact .inr (.inl ⟨rfl, rfl⟩)
      case measure => simp [intOf]
    · go_wp2
      go_round
      case rel => exact .inr (.inr ⟨rfl, rfl⟩)
      case measure => simp [intOf]
    · go_wp2_with fail
      refine CG.out.mono ?_
      rintro e w1 ⟨v, G, rfl, rfl, ho, b1⟩
      have c0 := (b1.cell (p := ⟨gs, 0, none⟩) hgs).trans hc0
      have c1 := (b1.cell (p := ⟨gs, 1, none⟩) hgs).trans hc1
      go_wp2_with fail
      go_loopw [6, 27] (fun vv iv wr => ∃ L, Own wr w.heap.size vv L ∧ Below w.heap.size w wr ∧ ((iv = .int .i64 0 ∧ Hid (L = []) ∧ ∃ G, vv = .slice (some ⟨w.heap.size, 0, none⟩) 0 G) ∨ (iv = .int .i64 1 ∧ Hid (L = l)) ∨ (iv = .int .i64 2 ∧ Hid (L = l ++ [p])))) (fun _ iv _ => 2 - (intOf iv).toNat)
      case atStart => exact ⟨[], ho, b1, .inl ⟨rfl, rfl, G, rfl⟩⟩
      case round =>
        clear ho b1 c0 c1
        obtain ⟨L, ho, hB, hcase⟩ := hrel
        have c0 := (hB.cell (p := ⟨gs, 0, none⟩) hgs).trans hc0
        have c1 := (hB.cell (p := ⟨gs, 1, none⟩) hgs).trans hc1
        rcases hcase with ⟨rfl, hL, G2, rfl⟩ | ⟨rfl, hL⟩ | ⟨rfl, hL⟩
        · have hL' := hL.out
          subst hL'
          by_cases h0 : N = 0
          · subst h0
            have hl0 : l = [] := List.eq_nil_of_length_eq_zero HN.out.symm
            have HL0 := Lib.hid hl0
            clear hl0
            go_wp2_with (at_builtin; refine push_none rfl _ _ rfl w.heap.size 0 G2 a cap rfl rfl (Nat.zero_le _) ?_)
            go_roundw
            case rel => exact ⟨[], ho, hB, .inr (.inl ⟨rfl, Lib.hid HL0.out.symm⟩)⟩
            case measure => simp [intOf]
          · go_wp2_with (at_builtin; refine push_all rfl _ _ rfl w.heap.size (.slice (some ⟨w.heap.size, 0, none⟩) 0 G2) [] rfl ho hB.size a l N cap HN.out.symm rfl (hr.below hB) h0 (by omega) (by simp) ?_)
            intro v2 w2 ho2 g2
            have b2 := Below.grownB hB ho g2 hB.size (Nat.le_refl _)
            obtain ⟨a2, c2, rfl, _, _, _, _⟩ := ho2.form
            go_wp2
            go_roundw
            case rel => exact ⟨l, ho2, b2, .inr (.inl ⟨rfl, rfl⟩)⟩
            case measure => simp [intOf]
        · have hL' := hL.out
          subst hL'
          obtain ⟨a2, c2, rfl, _, _, _, _⟩ := ho.form
          go_wp2_with (at_builtin; refine push_all rfl _ _ rfl w.heap.size (.slice a2 L.length c2) L rfl ho hB.size (some ⟨g1, 0, none⟩) [p] 1 1 rfl rfl (hrp.below hB) (by omega) (by omega) (by have := HN.out; omega) ?_)
          intro v2 w2 ho2 g2
          have b2 := Below.grownB hB ho g2 hB.size (Nat.le_refl _)
          obtain ⟨a3, c3, rfl, _, _, _, _⟩ := ho2.form
          go_wp2
          go_roundw
          case rel => exact ⟨L ++ [p], ho2, b2, .inr (.inr ⟨rfl, rfl⟩)⟩
          case measure => simp [intOf]
        · have hL' := hL.out
          subst hL'
          obtain ⟨a2, c2, rfl, _, _, _, _⟩ := ho.form
          have ho' : Own wr w.heap.size (.slice a2 (l.length + 1) c2) (l ++ [p]) := by
            rw [show l.length + 1 = (l ++ [p]).length from by simp]; exact ho
          go_wp2
          go_ret
          exact ⟨_, rfl, ho', hB⟩

set_option maxHeartbeats 4000000 in
theorem implMovedBy_any (a : Option Addr) (l : List Int) (cap : Nat) (p : Int) (w : World) (hr : Reads w a l) (hi : ∀ n ∈ l, In64 n) (hl : l.length ≤ 1048586) (hcap : l.length ≤ cap) (hp : In64 p) :
    Calls Try.prog 32 #[.slice a l.length cap, .int .i64 p] w fun e w' => ∃ v, e = .returned v ∧ Own w' w.heap.size v (MV l p) ∧ Below w.heap.size w w' := by
  obtain ⟨R, hR⟩ : ∃ R, R = MV l p := ⟨_, rfl⟩
  rw [← hR]
  have HR := Lib.hid hR
  have bA := ((Below.refl w.heap.size w).alloc (Nat.le_refl _) (.cells #[.int .i64 p] 3)).alloc (by simp) (.cells #[.slice a l.length cap, .slice (some ⟨w.heap.size, 0, none⟩) 1 1] 23)
  have h0 : ((w.alloc (.cells #[.int .i64 p] 3)).alloc (.cells #[.slice a l.length cap, .slice (some ⟨w.heap.size, 0, none⟩) 1 1] 23)).cell? ⟨w.heap.size + 1, 0, none⟩ = some (.slice a l.length cap) := by
    have e : w.heap.size + 1 = (w.alloc (.cells #[.int .i64 p] 3)).heap.size := (World.size_alloc _ _).symm
    rw [e]; simp
  have h1 : ((w.alloc (.cells #[.int .i64 p] 3)).alloc (.cells #[.slice a l.length cap, .slice (some ⟨w.heap.size, 0, none⟩) 1 1] 23)).cell? ⟨w.heap.size + 1, 1, none⟩ = some (.slice (some ⟨w.heap.size, 0, none⟩) 1 1) := by
    have e : w.heap.size + 1 = (w.alloc (.cells #[.int .i64 p] 3)).heap.size := (World.size_alloc _ _).symm
    rw [e]; simp
  have h2 : ((w.alloc (.cells #[.int .i64 p] 3)).alloc (.cells #[.slice a l.length cap, .slice (some ⟨w.heap.size, 0, none⟩) 1 1] 23)).cell? ⟨w.heap.size, 0, none⟩ = some (.int .i64 p) := by
    rw [World.cell?_alloc_lt _ _ _ (by simp)]; simp
  have CC := Lib.hid (concat_any (w.heap.size + 1) w.heap.size a l cap p _ (hr.below bA) hl h0 h1 h2)
  have hiM : ∀ n ∈ l ++ [p], In64 n := fun n hn => by
    rcases List.mem_append.1 hn with h | h
    · exact hi n h
    · simp at h; subst h; exact hp
  have hsA : w.heap.size ≤ ((w.alloc (.cells #[.int .i64 p] 3)).alloc (.cells #[.slice a l.length cap, .slice (some ⟨w.heap.size, 0, none⟩) 1 1] 23)).heap.size := by rw [World.size_alloc, World.size_alloc]; omega
  obtain ⟨wA, hwA⟩ : ∃ wA, wA = ((w.alloc (.cells #[.int .i64 p] 3)).alloc (.cells #[.slice a l.length cap, .slice (some ⟨w.heap.size, 0, none⟩) 1 1] 23)) := ⟨_, rfl⟩
  have HWA := Lib.hid hwA
  rw [← hwA] at bA hsA
  have HIM := Lib.hid hiM
  have HI := Lib.hid hi
  clear hR h0 h1 h2 hwA hiM hi
  go_enter Try.func32, Try.ntmps32
  go_wp2_with fail
  refine CC.out.mono ?_
  rw [← HWA.out]
  rintro e w2 ⟨v2, rfl, ho2, b2⟩
  have b2 := bA.trans (b2.mono hsA)
  clear CC
  obtain ⟨a2, c2, e2, hr2, hc2, _, _⟩ := ho2.form
  have hlm : (l ++ [p]).length = l.length + 1 := by simp
  rw [hlm] at e2 hc2
  subst e2
  obtain ⟨Mo, hMo⟩ : ∃ Mo, Mo = l ++ [p] := ⟨_, rfl⟩
  rw [← hMo] at ho2 hr2 hlm HIM
  have HMO := Lib.hid hMo
  have HLM := Lib.hid hlm
  have cV := implValidRing_any a l cap w2 (hr.below b2) HI.out hl hcap
  clear hMo hlm
  by_cases hv : VR l = true
  · have hl1 := (VR_iff.1 hv).1
    have hl6 := (VR_iff.1 hv).2.1
    rw [hv] at cV
    have CV := Lib.hid cV
    have HV := Lib.hid hv
    clear cV hv
    have cM := fun wx (h : Reads wx a2 Mo) => implValidRing_any a2 Mo c2 wx h HIM.out (by rw [HLM.out]; omega) (by rw [HLM.out]; exact hc2)
    rw [HLM.out] at cM
    by_cases hm : VR Mo = true
    · rw [hm] at cM
      have CM := Lib.hid cM
      have HM := Lib.hid hm
      have e : R = mvr l p 64 := by rw [HR.out]; unfold MV; rw [if_pos ⟨HV.out, by rw [← HMO.out]; exact HM.out⟩]
      have E := Lib.hid e
      have C1 := Lib.hid (fun wx h k h1 h2 => ringOwner_any a l cap k wx h HV.out h1 h2)
      have c2' := fun wx h k h1 h2 => ringOwner_any a2 Mo c2 k wx h HM.out h1 h2
      rw [HLM.out] at c2'
      have C2 := Lib.hid c2'
      clear cM hm e c2'
      go_wp2_with fail
      refine CV.out.mono ?_
      rintro e w3 ⟨rfl, b3⟩
      go_wp2_with fail
      refine (CM.out w3 (hr2.below b3)).mono ?_
      rintro e w4 ⟨rfl, b4⟩
      have B4 := (b2.trans (b3.mono b2.size)).trans (b4.mono (Nat.le_trans b2.size b3.size))
      have hr4 := hr.below B4
      have hm4 := (hr2.below b3).below b4
      clear hr2 ho2 CV CM b3 b4 b2
      go_wp2_with fail
      go_loopw [8, 27] (fun ov kv wr => ∃ j : Nat, j ≤ 64 ∧ kv = .int .i64 j ∧ Own wr w4.heap.size ov (mvr l p j) ∧ Below w4.heap.size w4 wr) (fun _ kv _ => 64 - (intOf kv).toNat)
      case atStart => exact ⟨0, by omega, rfl, Own.nil _ _, Below.refl _ _⟩
      case round =>
        obtain ⟨j, hj, rfl, ho, hB⟩ := hrel
        obtain ⟨ao, co, eo, _, _, _, _⟩ := ho.form
        have hml := mvr_len l p j
        obtain ⟨L, hL⟩ : ∃ L, L = mvr l p j := ⟨_, rfl⟩
        rw [← hL] at ho eo hml
        obtain ⟨N, hN⟩ : ∃ N, N = L.length := ⟨_, rfl⟩
        have HN := Lib.hid hN
        rw [← hN] at eo
        subst eo
        by_cases hj6 : j < 64
        · have hj1 : (j : Int) < 64 := by omega
          have k1 := C1.out wr (hr4.below hB) (j : Int) (by omega) (by omega)
          have k2 := fun wx (b : Below wr.heap.size wr wx) => C2.out wx ((hm4.below hB).below b) (j : Int) (by omega) (by omega)
          have hst : mvr l p (j + 1) = if own l j ≠ own (l ++ [p]) j then mvr l p j ++ [(j : Int)] else mvr l p j := rfl
          rw [← HMO.out, ← hL] at hst
          obtain ⟨s1, hs1⟩ : ∃ s, s = own l (j : Int) := ⟨_, rfl⟩
          obtain ⟨s2, hs2⟩ : ∃ s, s = own Mo (j : Int) := ⟨_, rfl⟩
          rw [← hs1] at k1 hst
          rw [← hs2] at hst
          rw [← hs2] at k2
          have K1 := Lib.hid k1
          have K2 := Lib.hid k2
          clear k1 k2 hs1 hs2 hL hN
          by_cases hc : s1 = s2
          · rw [if_neg (by rw [hc]; exact fun h => h rfl)] at hst
            have HST := Lib.hid hst
            have hne : ((s1 : Int) != (s2 : Int)) = false := by simp [hc]
            clear hst hc
            go_wp2_with fail
            refine K1.out.mono ?_
            rintro e w5 ⟨rfl, b5⟩
            go_wp2_with fail
            refine (K2.out w5 b5).mono ?_
            rintro e w6 ⟨rfl, b6⟩
            have b56 := b5.trans (b6.mono b5.size)
            go_wp2
            go_roundw
            case rel => exact ⟨j + 1, by omega, by go_num, by rw [HST.out]; exact ho.below b56, hB.trans (b56.mono hB.size)⟩
            case measure => simp [intOf]; omega
          · rw [if_pos hc] at hst
            have HST := Lib.hid hst
            have hne : ((s1 : Int) != (s2 : Int)) = true := by simp; omega
            clear hst hc
            go_wp2_with fail
            refine K1.out.mono ?_
            rintro e w5 ⟨rfl, b5⟩
            go_wp2_with fail
            refine (K2.out w5 b5).mono ?_
            rintro e w6 ⟨rfl, b6⟩
            have b56 := b5.trans (b6.mono b5.size)
            have hB6 := hB.trans (b56.mono hB.size)
            have ho1 := ho.below b56
            go_wp2_with (at_builtin; refine push_int rfl _ _ rfl w4.heap.size (.slice ao N co) L (j : Int) rfl ho1 rfl (by omega) hB6.size ?_)
            intro v7 w7 ho7 _ g7
            have b7 := Below.grownB hB6 ho1 g7 hB6.size (Nat.le_refl _)
            obtain ⟨a7, c7, e7, _, _, _, _⟩ := ho7.form
            subst e7
            go_wp2
            go_roundw
            case rel => exact ⟨j + 1, by omega, by go_num, by rw [HST.out]; exact ho7, b7⟩
            case measure => simp [intOf]; omega
        · obtain rfl : j = 64 := by omega
          have ho' : Own wr w4.heap.size (.slice ao N co) R := by rw [E.out, ← hL]; exact ho
          have B := B4.trans (hB.mono B4.size)
          go_wp2
          go_ret
          exact ⟨_, rfl, ho'.mono B4.size, B⟩
    · have e : R = [] := by rw [HR.out]; unfold MV; rw [if_neg (fun h => hm (by rw [HMO.out]; exact h.2))]
      subst e
      rw [show VR Mo = false from by simpa using hm] at cM
      have CM := Lib.hid cM
      clear cM hm
      go_wp2_with fail
      refine CV.out.mono ?_
      rintro e w3 ⟨rfl, b3⟩
      go_wp2_with fail
      refine (CM.out w3 (hr2.below b3)).mono ?_
      rintro e w4 ⟨rfl, b4⟩
      have B4 := (b2.trans (b3.mono b2.size)).trans (b4.mono (Nat.le_trans b2.size b3.size))
      go_wp2
      go_ret
      exact ⟨_, rfl, Own.nil _ _, B4⟩
  · have e : R = [] := by rw [HR.out]; unfold MV; rw [if_neg (fun h => hv h.1)]
    subst e
    rw [show VR l = false from by simpa using hv] at cV
    have CV := Lib.hid cV
    clear cV hv
    go_wp2_with fail
    refine CV.out.mono ?_
    rintro e w3 ⟨rfl, b3⟩
    have B3 := b2.trans (b3.mono b2.size)
    go_wp2
    go_ret
    exact ⟨_, rfl, Own.nil _ _, B3⟩
end Go.Proofs.Ytbldfhfciihddaa
