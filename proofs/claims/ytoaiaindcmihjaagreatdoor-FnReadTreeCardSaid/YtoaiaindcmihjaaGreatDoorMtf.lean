
import Derived.Test.YtoaiaindcmihjaaGreatDoorMte
import Derived.Test.YtoaiaindcmihjaaGreatDoorMta
import Derived.Lib.AppendZerosOnto
import Derived.Lib.AppendZeros
import Derived.Shelf.SortM.Plain
import Derived.Shelf.SortM.SortNone
import Derived.Test.YtoaiaindcmihjaaGreatDoorMtb
import Derived.Sort.OwnSortedInts
import Derived.Lib.SliceRun
import Derived.Deep.RegionHeld3
import Derived.Deep.QuietTactic
import Derived.Deep.DeepCutAuto
import Derived.Shelf.Strings.FieldsFuncGrows
import Derived.WalkKit
import Derived.LaidEql
import Derived.Stop.Asserts
import Derived.RowKitTokens
import Derived.Test.YtoaiaindcmihjaaGreatDoorMtd
/-
  impl.validNames (an array of 64 truth values).
-/
namespace Go.Proofs.YtoaiaindcmihjaaGreatDoor
open Go.RowKit

theorem barr_zero64 : ((List.replicate 64 false).map Value.bool).toArray = #[.bool false, .bool false, .bool false, .bool false, .bool false, .bool false, .bool false, .bool false, .bool false, .bool false, .bool false, .bool false, .bool false, .bool false, .bool false, .bool false, .bool false, .bool false, .bool false, .bool false, .bool false, .bool false, .bool false, .bool false, .bool false, .bool false, .bool false, .bool false, .bool false, .bool false, .bool false, .bool false, .bool false, .bool false, .bool false, .bool false, .bool false, .bool false, .bool false, .bool false, .bool false, .bool false, .bool false, .bool false, .bool false, .bool false, .bool false, .bool false, .bool false, .bool false, .bool false, .bool false, .bool false, .bool false, .bool false, .bool false, .bool false, .bool false, .bool false, .bool false, .bool false, .bool false, .bool false, .bool false] := rfl
/-- Which names have been seen. -/
def skN (l : List Int) (k : Nat) : List Bool := (List.range 64).map fun s : Nat => decide ((s : Int) ∈ l.take k)
theorem skN_len (l : List Int) (k : Nat) : (skN l k).length = 64 := by simp [skN]
theorem skN_zero (l : List Int) : skN l 0 = List.replicate 64 false := by simp [skN]; decide
theorem skN_get (l : List Int) (k : Nat) {s : Nat} (h : s < 64) : (skN l k).getD s false = decide ((s : Int) ∈ l.take k) := by simp [skN, List.getD, h]
theorem skN_succ {l : List Int} {k X : Nat} (hk : k < l.length) (hX : l.getD k 0 = X) (h31 : X < 64) : (skN l k).set X true = skN l (k + 1) := by
  refine List.ext_getElem (by simp [skN]) fun i h1 h2 => ?_
  have hi : i < 64 := by simpa [skN] using h2
  rw [List.getElem_set]
  simp only [skN, List.getElem_map, List.getElem_range, take_snocN hk, hX]
  by_cases e : X = i
  · subst e; simp
  · have : ¬ (i : Int) = (X : Int) := by omega
    simp [e, this]
set_option maxHeartbeats 4000000 in
theorem implvalidNames_any (a : Option Addr) (l : List Int) (cap : Nat) (w : World) (hr : Reads w a l) (hl : l.length ≤ 1048586) :
    Calls Tryz.prog 30 #[.slice a l.length cap] w fun e w' => e = .returned (.bool (VNm l)) ∧ Below w.heap.size w w' := by
  by_cases h8 : 12 < l.length
  · have hv : VNm l = false := by rw [← Bool.not_eq_true, VNm_iff]; omega
    go_enter Tryz.func30, Tryz.ntmps30
    go_wp2
    go_ret
    exact ⟨ret_bool (by first | exact hv.symm | rfl), Below.refl _ _⟩
  · have h0 : BArr (w.alloc (.cells ((List.replicate 64 false).map Value.bool).toArray 75)) 75 w.heap.size (List.replicate 64 false) := BArr.new w _ _
    rw [barr_zero64, ← skN_zero l] at h0
    have B0 := (Below.refl w.heap.size w).alloc (Nat.le_refl _) (.cells ((List.replicate 64 false).map Value.bool).toArray 75)
    rw [barr_zero64] at B0
    go_enter Tryz.func30, Tryz.ntmps30
    go_wp2
    go_loopw [11] (fun i wr => ∃ k : Nat, k ≤ l.length ∧ i = .int .i64 k ∧ Hid (VNp l k) ∧ BArr wr 75 w.heap.size (skN l k) ∧ Below w.heap.size w wr) (fun i _ => l.length - (intOf i).toNat)
    case atStart => exact ⟨0, Nat.zero_le _, rfl, fun j hj => by omega, h0, B0⟩
    case round =>
      clear h0 B0
      obtain ⟨k, hk, rfl, hf, hS, hB⟩ := hrel
      by_cases hlt : k < l.length
      · obtain ⟨b, off, y, rfl, hbb, hcell, hy⟩ := hr.get hlt
        have hc1 : wr.cell? ⟨b, off + k, none⟩ = some (.int .i64 y) := (hB.cell (by exact hbb)).trans hcell
        have hk1 : (k : Int) < (l.length : Int) := by omega
        have ci := fun wx => isName_any y wx
        by_cases g1 : 0 ≤ y ∧ y ≤ 63
        · obtain ⟨y0, y1⟩ := g1
          rw [decide_eq_true (show 0 ≤ y ∧ y ≤ 63 from ⟨y0, y1⟩)] at ci
          obtain ⟨Y, rfl⟩ := Int.eq_ofNat_of_zero_le y0
          obtain ⟨s, hcs, hs⟩ := hS.get (k := Y) (by rw [skN_len]; omega)
          have hs2 := hs.out
          rw [skN_get _ _ (by omega)] at hs2
          have hfz := hS.frozen Y
          have D := Lib.hid ci
          clear ci
          by_cases g2 : (Y : Int) ∈ l.take k
          · have : s = true := by rw [← hs2]; exact decide_eq_true g2
            subst this
            have HB := Lib.hid (VNm_bad2 hlt (by rw [hy.out]; exact g2))
            clear g2 hs2
            go_wp2_with (first | (go_at_call 52; refine (D.out _).mono ?_; rintro e w' ⟨rfl, rfl⟩))
            go_ret
            exact ⟨ret_bool HB.out.symm, hB⟩
          · have : s = false := by rw [← hs2]; exact decide_eq_false g2
            subst this
            have HB := Lib.hid (hf.out.succ (by rw [hy.out]; omega) (by rw [hy.out]; exact g2))
            have hst := hS.store Y true
            rw [skN_succ hlt hy.out (by omega)] at hst
            have hB2 := hB.setCell (p := ⟨w.heap.size, Y, none⟩) (Nat.le_refl _) (.bool true)
            clear g2 hs2
            go_wp2_with (first | (go_at_call 52; refine (D.out _).mono ?_; rintro e w' ⟨rfl, rfl⟩))
            go_roundw
            case rel => exact ⟨k + 1, by omega, by go_num, HB, hst, hB2⟩
            case measure => simp [intOf]; omega
        · rw [decide_eq_false g1] at ci
          have D := Lib.hid ci
          clear ci
          have HB := Lib.hid (VNm_bad1 hlt (by rw [hy.out]; exact g1))
          go_wp2_with (first | (go_at_call 52; refine (D.out _).mono ?_; rintro e w' ⟨rfl, rfl⟩))
          go_ret
          exact ⟨ret_bool HB.out.symm, hB⟩
      · obtain rfl : k = l.length := by omega
        have HB := Lib.hid (VNm_end hf.out)
        go_wp2
        go_ret
        exact ⟨ret_bool (by rw [HB.out]; simp; omega), hB⟩
end Go.Proofs.YtoaiaindcmihjaaGreatDoor
/-
  append of a whole slice of ints (none among them) to one of the call's own.
-/
namespace Go.Proofs.YtoaiaindcmihjaaGreatDoor
open Go.RowKit

theorem run_append_noneB (w : World) (ty : TypeId) (g n cap c : Nat) (ax : Option Addr) (h : n ≤ cap) :
    (Builtin.append_ #[23, 23] ty #[.slice (some ⟨g, 0, none⟩) n cap, .slice ax 0 c]).run Tryz.prog w = .ok (.slice (some ⟨g, 0, none⟩) n cap) w := by
  obtain ⟨i0, hi, hz0, hz1, hz2⟩ := info_parts infoInt
  cases ax <;> simp [Builtin.append_, run_underlying Tryz.underlying23, sizeOf, typeInfo, hi, Builtin.lenOf, h, Builtin.firstCells, loadCells, loadCellsFrom, storeCells]
theorem push_allK {wr : World} {ops : Array Oper} {rest : List Oper} {o : Oper} {a : Act} {Q : Exit → Act → World → Prop} (hgd : o.guard = none) (s x : Operand)
    (ho : o.op = .call { callee := .builtin .append, args := #[s, x], argTypes := #[23, 23] })
    (base : Nat) (v : Value) (L : List Int) (hs : a.eval s = v) (hown : Own wr base v L) (hb : base ≤ wr.heap.size)
    (ax : Option Addr) (l : List Int) (n cap : Nat) (hn : l.length = n) (hx : a.eval x = .slice ax n cap) (hr : Reads wr ax l) (h0 : n ≠ 0) (hl : n < 2000000) (hL : L.length < 2000000)
    (h : ∀ v' w', Own w' base v' (L ++ l) → wr.grownBy w' v.ownBlock → wpList Tryz.prog ops Q rest (a.put o.dst v') w') :
    wpList Tryz.prog ops Q (o :: rest) a wr := by
  obtain ⟨i0, hi, hz0, hz1, hz2⟩ := info_parts infoInt
  subst hn
  rcases hr with rfl | ⟨b, off, rfl, hb2, hc⟩
  · simp at h0
  refine wpList_append_own _ hgd s x 23 ho base 3 i0 (.int .i64 0) 1 8 Tryz.underlying23 hi hz0 hz1 hz2 rfl (by decide) _ L.length _ hs hown ⟨b, off, none⟩ l.length cap (l.map (Value.int .i64)) hx (by simp) ?c1 (ints_oneCell _ _) ?c3 ?c4 hb fun v' w' h1 h2 _ => h v' w' ?_ h2
  case c1 =>
    intro j u hu
    have hj : j < l.length := by simpa using (List.getElem?_eq_some_iff.1 hu).1
    rw [getD_map hj] at hu
    obtain rfl := Option.some.inj hu
    rw [Addr.add_lit]
    exact hc j hj
  case c3 => unfold maxLen; omega
  case c4 => omega
  · unfold Own
    rw [List.length_append, List.map_append]
    exact h1

theorem run_append_noneK (w : World) (ty : TypeId) (v : Value) (base c : Nat) (L : List Int) (ax : Option Addr) (h : Own w base v L) :
    (Builtin.append_ #[23, 23] ty #[v, .slice ax 0 c]).run Tryz.prog w = .ok v w := by
  obtain ⟨i0, hi, hz0, hz1, hz2⟩ := info_parts infoInt
  rcases h.2 with ⟨rfl, _⟩ | ⟨g, cap, cur, rfl, _, _, hnc, _⟩
  · cases ax <;> simp [Builtin.append_, run_underlying Tryz.underlying23, sizeOf, typeInfo, hi, Builtin.lenOf, Builtin.firstCells, loadCells, loadCellsFrom]
  · exact run_append_noneB w ty g L.length cap c ax hnc
theorem push_allZ {wr : World} {ops : Array Oper} {rest : List Oper} {o : Oper} {a : Act} {Q : Exit → Act → World → Prop} (hgd : o.guard = none) (s x : Operand)
    (ho : o.op = .call { callee := .builtin .append, args := #[s, x], argTypes := #[23, 23] })
    (base : Nat) (v : Value) (L : List Int) (hs : a.eval s = v) (hown : Own wr base v L) (hb : base ≤ wr.heap.size)
    (ax : Option Addr) (l : List Int) (n cap : Nat) (hn : l.length = n) (hx : a.eval x = .slice ax n cap) (hr : Reads wr ax l) (hl : n < 2000000) (hL : L.length < 2000000)
    (h : ∀ v' w', Own w' base v' (L ++ l) → wr.grownBy w' v.ownBlock → wpList Tryz.prog ops Q rest (a.put o.dst v') w') :
    wpList Tryz.prog ops Q (o :: rest) a wr := by
  by_cases h0 : n = 0
  · subst h0
    have hl0 : l = [] := List.eq_nil_of_length_eq_zero hn
    subst hl0
    refine wpList_plain hgd fun _ hK => ?_
    unfold Oper.wp execOp
    simp only [ho, resolve, invoke, builtin, Sem.run_bind, Sem.run_pure, Result.andThen_ok, List.map_toArray, List.map_cons, List.map_nil, hs, hx, run_append_noneK _ _ _ _ _ _ _ hown]
    exact hK _ _ (h v wr (by rw [List.append_nil]; exact hown) ⟨rfl, rfl, rfl, Nat.le_refl _, fun _ _ _ => rfl⟩)
  · exact push_allK hgd s x ho base v L hs hown hb ax l n cap hn hx hr h0 hl hL h
end Go.Proofs.YtoaiaindcmihjaaGreatDoor
/-
  slices.Sort of ints, by the kit's shelf: what 'shelf_lay_g' lays, written out (wip/tools/laysay.py prints it).
-/
namespace Go.Proofs
open Go.RowKit
def Tryz.sortA_ren : Go.Shelf.Ren := ⟨fun | 5 => 54 | 8 => 85 | 7 => 84 | 19 => 117 | 20 => 118 | 10 => 108 | 11 => 109 | 12 => 110 | 13 => 111 | 14 => 112 | 15 => 113 | 16 => 114 | 17 => 115 | 18 => 116 | 30 => 136 | 31 => 137 | 32 => 138 | 33 => 139 | 34 => 140 | 35 => 141 | 40 => 166 | n => n, fun | 23 => 23 | 25 => 3 | 3 => 3 | 32 => 114 | 22 => 23 | 0 => 0 | 44 => 150 | 46 => 152 | 4 => 4 | 36 => 142 | 35 => 141 | 41 => 147 | 5 => 5 | 9 => 9 | 53 => 164 | 57 => 168 | 63 => 185 | 64 => 186 | n => n, fun | n => n⟩
theorem Tryz.sortA : Go.Proofs.SlLaysM.n5 Tryz.prog Tryz.sortA_ren where
  mixed := by kernel_rfl
  f5 := ⟨ "slices.Sort[[]int,int]", by decide, Tryz.func54.trans (congrArg some (by kernel_rfl))⟩
  f7 := ⟨ "slices.pdqsortOrdered[int]", by decide, Tryz.func84.trans (congrArg some (by kernel_rfl))⟩
  f8 := Tryz.func85.trans (congrArg some (by kernel_rfl))
  f10 := ⟨ "slices.insertionSortOrdered[int]", by decide, Tryz.func108.trans (congrArg some (by kernel_rfl))⟩
  f11 := ⟨ "slices.heapSortOrdered[int]", by decide, Tryz.func109.trans (congrArg some (by kernel_rfl))⟩
  f12 := ⟨ "slices.breakPatternsOrdered[int]", by decide, Tryz.func110.trans (congrArg some (by kernel_rfl))⟩
  f13 := ⟨ "slices.choosePivotOrdered[int]", by decide, Tryz.func111.trans (congrArg some (by kernel_rfl))⟩
  f14 := ⟨ "slices.reverseRangeOrdered[int]", by decide, Tryz.func112.trans (congrArg some (by kernel_rfl))⟩
  f15 := ⟨ "slices.partialInsertionSortOrdered[int]", by decide, Tryz.func113.trans (congrArg some (by kernel_rfl))⟩
  f16 := ⟨ "cmp.Less[int]", by decide, Tryz.func114.trans (congrArg some (by kernel_rfl))⟩
  f17 := ⟨ "slices.partitionEqualOrdered[int]", by decide, Tryz.func115.trans (congrArg some (by kernel_rfl))⟩
  f18 := ⟨ "slices.partitionOrdered[int]", by decide, Tryz.func116.trans (congrArg some (by kernel_rfl))⟩
  f19 := Tryz.func117.trans (congrArg some (by kernel_rfl))
  f20 := Tryz.func118.trans (congrArg some (by kernel_rfl))
  f30 := ⟨ "slices.siftDownOrdered[int]", by decide, Tryz.func136.trans (congrArg some (by kernel_rfl))⟩
  f31 := Tryz.func137.trans (congrArg some (by kernel_rfl))
  f32 := Tryz.func138.trans (congrArg some (by kernel_rfl))
  f33 := ⟨ "slices.medianAdjacentOrdered[int]", by decide, Tryz.func139.trans (congrArg some (by kernel_rfl))⟩
  f34 := ⟨ "slices.medianOrdered[int]", by decide, Tryz.func140.trans (congrArg some (by kernel_rfl))⟩
  f35 := ⟨ "cmp.isNaN[int]", by decide, Tryz.func141.trans (congrArg some (by kernel_rfl))⟩
  f40 := ⟨ "slices.order2Ordered[int]", by decide, Tryz.func166.trans (congrArg some (by kernel_rfl))⟩
  t0 := Tryz.underlying0
  a0 := Tryz.isAgg0
  z0 := Tryz.sizeOf0
  v0 := Tryz.zeroValue0
  t3 := Tryz.underlying3
  a3 := Tryz.isAgg3
  z3 := Tryz.sizeOf3
  v3 := Tryz.zeroValue3
  t4 := Tryz.underlying4
  a4 := Tryz.isAgg4
  z4 := Tryz.sizeOf4
  v4 := Tryz.zeroValue4
  t5 := Tryz.underlying5
  a5 := Tryz.isAgg5
  z5 := Tryz.sizeOf5
  v5 := Tryz.zeroValue5
  t9 := Tryz.underlying9
  a9 := Tryz.isAgg9
  z9 := Tryz.sizeOf9
  v9 := Tryz.zeroValue9
  t22 := Tryz.underlying23
  a22 := Tryz.isAgg23
  z22 := Tryz.sizeOf23
  v22 := Tryz.zeroValue23
  t23 := Tryz.underlying23
  a23 := Tryz.isAgg23
  z23 := Tryz.sizeOf23
  v23 := Tryz.zeroValue23
  t25 := Tryz.underlying3
  a25 := Tryz.isAgg3
  z25 := Tryz.sizeOf3
  v25 := Tryz.zeroValue3
  t32 := Tryz.underlying114
  a32 := Tryz.isAgg114
  z32 := Tryz.sizeOf114
  v32 := Tryz.zeroValue114
  t35 := Tryz.underlying141
  a35 := Tryz.isAgg141
  z35 := Tryz.sizeOf141
  v35 := Tryz.zeroValue141
  t36 := Tryz.underlying142
  a36 := Tryz.isAgg142
  z36 := Tryz.sizeOf142
  v36 := Tryz.zeroValue142
  t41 := Tryz.underlying147
  a41 := Tryz.isAgg147
  z41 := Tryz.sizeOf147
  v41 := Tryz.zeroValue147
  t44 := Tryz.underlying150
  a44 := Tryz.isAgg150
  z44 := Tryz.sizeOf150
  v44 := Tryz.zeroValue150
  t46 := Tryz.underlying152
  a46 := Tryz.isAgg152
  z46 := Tryz.sizeOf152
  v46 := Tryz.zeroValue152
  t53 := Tryz.underlying164
  a53 := Tryz.isAgg164
  z53 := Tryz.sizeOf164
  v53 := Tryz.zeroValue164
  t57 := Tryz.underlying168
  a57 := Tryz.isAgg168
  z57 := Tryz.sizeOf168
  v57 := Tryz.zeroValue168
  t63 := Tryz.underlying185
  a63 := Tryz.isAgg185
  z63 := Tryz.sizeOf185
  v63 := Tryz.zeroValue185
  t64 := Tryz.underlying186
  a64 := Tryz.isAgg186
  z64 := Tryz.sizeOf186
  v64 := Tryz.zeroValue186
end Go.Proofs
/-
  slices.Clone and slices.Sort of ints, impl.wholeOf.
-/
namespace Go.Proofs.YtoaiaindcmihjaaGreatDoor
open Go.RowKit

/-- A result that is a struct in a variable. -/
theorem ret_row {P : Program} {fn : Func} {R : Ending → World → Prop} {a : Act} {w : World} {p : Tmp} {ty : TypeId} (hf : fn.results = #[.cell p ty]) (hd : a.defers = [])
    (g : Nat) (hp : a.tmps.getD p undef = .pointer (some ⟨g, 0, none⟩)) (t : Nat) (cs : Array Value) (hg : w.heap[g]? = some (.cells cs t (0, 0))) (d : TypeDesc)
    (hu : P.underlying ty = some d) (hdd : (match d with | .struct _ | .array _ _ => true | _ => false) = true) (hi : (P.info? ty).map (·.size) = some cs.size) (hR : R (.returned (.agg cs)) w) : bodyPost P fn R .ret a w :=
  bodyPost_ret (results_cell_row hf a.tmps w g t cs (0, 0) _ hp hg hu hdd hi) hd hR
theorem eql_nil (w : World) (a : Option Addr) (n c : Nat) : (binOp .eql 23 (.slice a n c) (.slice none 0 0)).run Tryz.prog w = .ok (.bool a.isNone) w := Go.Lib.run_eql_slice_nil w _ _ a n c 0 0 Tryz.underlying23
set_option maxHeartbeats 2000000 in
set_option maxRecDepth 100000 in
theorem cloneI_any (a : Option Addr) (l : List Int) (cap : Nat) (w : World) (hr : Reads w a l) (hl : l.length < 2000000) :
    Calls Tryz.prog 53 #[.slice a l.length cap] w fun e w' => ∃ v, e = .returned v ∧ Own w' w.heap.size v l ∧ Below w.heap.size w w' := by
  cases a with
  | none =>
    have h0 : l = [] := by
      rcases hr with h | ⟨b, off, h, _⟩
      · exact h
      · cases h
    subst h0
    have q := fun w n c => eql_nil w none n c
    go_enter Tryz.func53, Tryz.ntmps53
    go_wp2
    go_ret
    exact ⟨_, rfl, Own.nil _ _, Below.refl _ _⟩
  | some A =>
    have o1 := Own.lit0 w w.heap.size (Nat.le_refl _)
    have b1 := (Below.refl w.heap.size w).alloc (Nat.le_refl _) (.cells #[] 3)
    have hr1 := hr.below b1
    obtain ⟨M, hM⟩ : ∃ M, M = l.length := ⟨_, rfl⟩
    rw [← hM] at hl ⊢
    have HM := Lib.hid hM
    clear hM
    have q := fun w n c => eql_nil w (some A) n c
    go_enter Tryz.func53, Tryz.ntmps53
    go_wp2_with (at_builtin; refine push_allZ rfl (.tmp 5) (.tmp 6) rfl w.heap.size _ [] rfl o1 b1.size (some A) l M cap HM.out.symm rfl hr1 hl (by simp) ?_)
    intro v2 w2 ho2 g2
    have b2 := Below.grownB b1 o1 g2 b1.size (Nat.le_refl _)
    go_wp2
    go_ret
    exact ⟨_, rfl, ho2, b2⟩
theorem srt_enc (l : List Int) : (l.mergeSort fun x y => decide (x ≤ y)) = srt l := rfl
theorem sortI_any (v : Value) (l : List Int) (base : Nat) (w : World) (ho : Own w base v l) (hl : l.length ≤ 1048586) :
    Calls Tryz.prog 54 #[v] w fun e w' => e = .returned (.tuple #[]) ∧ Own w' base v (srt l) ∧ w.grownBy w' v.ownBlock := by
  by_cases h0 : l = []
  · subst h0
    obtain ⟨a, cap, rfl, _, _, _, _⟩ := ho.form
    refine (AnyM.slices_Sort_int_none Tryz.sortA a cap w).mono ?_
    rintro e w' ⟨rfl, rfl⟩
    exact ⟨rfl, by rw [show srt [] = [] by simp [srt]]; exact ho, ⟨rfl, rfl, rfl, Nat.le_refl _, fun _ _ _ => rfl⟩⟩
  · have hne : l.length ≠ 0 := fun h => h0 (List.eq_nil_of_length_eq_zero h)
    rcases ho.2 with ⟨_, h1⟩ | ⟨g, cap, cur, rfl, hbg, hg, hnc, hcm, hsz, htk⟩
    · exact absurd h1 hne
    rw [Nat.mul_one] at htk
    have hH := Go.holds_of_blockI (ss := l) hg htk
    refine (AnyM.slices_Sort_int Tryz.sortA g 0 cap l w hH (Array.getElem?_eq_some_iff.1 hg).1 (by omega)).mono ?_
    rintro e w' ⟨rfl, n, os, rfl⟩
    rw [srt_enc]
    refine ⟨rfl, ?_, Go.grownBy_sortedI _⟩
    have := Go.ownsRow_sortedI (n := n) (os := os) (base := base) (ts := srt l) (ss := l) (srt_len l) hbg hg hnc hcm hsz
    unfold Own
    rw [srt_len]
    exact this
/-- A part in a variable. -/
def PBox (w : World) (g : Nat) (v : Value) (d e : Int) : Prop := w.heap[g]? = some (.cells #[v, .int .i64 d, .int .i64 e] 48 (0, 0))
section
variable {w : World} {g : Nat} {d e : Int} {v : Value}
theorem PBox.lt (h : PBox w g v d e) : g < w.heap.size := (Array.getElem?_eq_some_iff.1 h).1
theorem PBox.c0 (h : PBox w g v d e) : w.cell? ⟨g, 0, none⟩ = some v := by rw [cell_of_row w g 0 _ _ _ h]; rfl
theorem PBox.c1 (h : PBox w g v d e) : w.cell? ⟨g, 1, none⟩ = some (.int .i64 d) := by rw [cell_of_row w g 1 _ _ _ h]; rfl
theorem PBox.c2 (h : PBox w g v d e) : w.cell? ⟨g, 2, none⟩ = some (.int .i64 e) := by rw [cell_of_row w g 2 _ _ _ h]; rfl
theorem PBox.fz (h : PBox w g v d e) (k : Nat) : w.frozen? ⟨g, k, none⟩ = false := frozen_of_row w g k _ _ h
theorem PBox.other {g' : Nat} (h : PBox w g v d e) (hne : g ≠ g') (k : Nat) (x : Value) : PBox (w.setCell ⟨g', k, none⟩ x) g v d e := by
  unfold PBox
  rw [heap_setCell_other w ⟨g', k, none⟩ g x hne]; exact h
theorem PBox.alloc (h : PBox w g v d e) (o : Obj) : PBox (w.alloc o) g v d e := (Below.heap_alloc w o g h.lt).trans h
theorem PBox.belowAll {w' : World} (hb : Below w.heap.size w w') (h : PBox w g v d e) : PBox w' g v d e := (hb.block g h.lt).trans h
theorem PBox.below {w' : World} {B : Nat} (hb : Below B w w') (hg : g < B) (h : PBox w g v d e) : PBox w' g v d e := (hb.block g hg).trans h
theorem PBox.put (h : PBox w g v d e) (v' : Value) (d' e' : Int) : PBox (((w.setCell ⟨g, 0, none⟩ v').setCell ⟨g, 1, none⟩ (.int .i64 d')).setCell ⟨g, 2, none⟩ (.int .i64 e')) g v' d' e' := by
  unfold PBox at h ⊢
  have h1 := heap_setCell_same w g 0 _ _ v' h
  have h2 := heap_setCell_same _ g 1 _ _ (.int .i64 d') h1
  rw [heap_setCell_same _ g 2 _ _ (.int .i64 e') h2]
  rfl
end
theorem PBox.new (w : World) (v : Value) (d e : Int) : PBox (w.alloc (.cells #[v, .int .i64 d, .int .i64 e] 48)) w.heap.size v d e := heap_alloc_new w _
theorem below_put3p {B : Nat} {w w' : World} (h : Below B w w') {g : Nat} (hg : B ≤ g) (x y z : Value) : Below B w (((w'.setCell ⟨g, 0, none⟩ x).setCell ⟨g, 1, none⟩ y).setCell ⟨g, 2, none⟩ z) :=
  ((h.setCell (p := ⟨g, 0, none⟩) hg x).setCell (p := ⟨g, 1, none⟩) hg y).setCell (p := ⟨g, 2, none⟩) hg z
/-- A part, handed back out of a variable. -/
theorem ret_part {fn : Func} {R : Ending → World → Prop} {a : Act} {w : World} {p : Tmp} (hf : fn.results = #[.cell p 48]) (hd : a.defers = [])
    (g : Nat) (hp : a.tmps.getD p undef = .pointer (some ⟨g, 0, none⟩)) (v : Value) (d e : Int) (hg : PBox w g v d e) (hR : R (.returned (.agg #[v, .int .i64 d, .int .i64 e])) w) : bodyPost Tryz.prog fn R .ret a w :=
  bodyPost_ret (results_cell_row hf a.tmps w g _ _ (0, 0) _ hp hg Tryz.underlying48 rfl (by kernel_rfl)) hd hR
theorem grownBy_setP (w : World) (g k : Nat) (v : Value) : w.grownBy (w.setCell ⟨g, k, none⟩ v) (some g) := ⟨rfl, rfl, rfl, by simp, fun j _ hn => heap_setCell_other w ⟨g, k, none⟩ j _ (fun q => hn (by rw [q]))⟩
set_option maxHeartbeats 2000000 in
theorem wholeOf_any (a : Option Addr) (l : List Int) (cap : Nat) (w : World) (hr : Reads w a l) (hl : l.length ≤ 1048586) :
    Calls Tryz.prog 31 #[.slice a l.length cap] w fun e w' => ∃ v, e = .returned (.agg #[v, .int .i64 0, .int .i64 0]) ∧ Own w' (w.heap.size + 1) v (srt l) ∧ Below w.heap.size w w' ∧ w.heap.size + 1 ≤ w'.heap.size := by
  have b0 := (Below.refl w.heap.size w).alloc (Nat.le_refl _) (.cells #[.slice none 0 0, .int .i64 0, .int .i64 0] 48)
  have hr1 := hr.below b0
  have x0 := PBox.new w (.slice none 0 0) 0 0
  obtain ⟨w1, e1⟩ : ∃ w1, w1 = w.alloc (.cells #[.slice none 0 0, .int .i64 0, .int .i64 0] 48) := ⟨_, rfl⟩
  have hz1 : w1.heap.size = w.heap.size + 1 := by rw [e1]; simp
  rw [← e1] at b0 hr1 x0
  have cC := cloneI_any a l cap w1 hr1 (by omega)
  obtain ⟨M, hM⟩ : ∃ M, M = l.length := ⟨_, rfl⟩
  rw [← hM] at cC ⊢
  have C := Lib.hid cC
  have E1 := Lib.hid e1
  clear cC e1 hM
  go_enter Tryz.func31, Tryz.ntmps31
  go_wp2_with fail
  rw [← E1.out]
  refine C.out.mono ?_
  rintro e w2 ⟨v, rfl, o2, b2⟩
  have S := Lib.hid (sortI_any v l w1.heap.size w2 o2 hl)
  go_wp2_with fail
  refine S.out.mono ?_
  rintro e w3 ⟨rfl, o3, g3⟩
  have b3 := Below.grownB b2 o2 g3 b2.size (Nat.le_refl _)
  have x3 := PBox.belowAll b3 x0
  have B3 := b0.trans (b3.mono b0.size)
  have hz3 := b3.size
  obtain ⟨sa, sc, rfl, _, _, _, _⟩ := o3.form
  have y0 := x3.c0
  have y1 := x3.c1
  have y2 := x3.c2
  have z0 := x3.fz 0
  have z1 := x3.fz 1
  have z2 := x3.fz 2
  have x4 := x3.put (.slice sa (srt l).length sc) 0 0
  have B4 := below_put3p B3 (Nat.le_refl _) (.slice sa (srt l).length sc) (.int .i64 0) (.int .i64 0)
  have o4 : Own (((w3.setCell ⟨w.heap.size, 0, none⟩ (.slice sa (srt l).length sc)).setCell ⟨w.heap.size, 1, none⟩ (.int .i64 0)).setCell ⟨w.heap.size, 2, none⟩ (.int .i64 0)) (w.heap.size + 1) (.slice sa (srt l).length sc) (srt l) := by
    rw [← hz1]
    have hne : ∀ k, (Value.slice sa (srt l).length sc).ownBlock = some k → k ≠ w.heap.size := fun k hk => by have := (o3.lt k hk).1; omega
    have nn : (Value.slice sa (srt l).length sc).ownBlock = none ∨ (Value.slice sa (srt l).length sc).ownBlock ≠ some w.heap.size := .inr (fun h => hne _ h rfl)
    exact ((o3.kept (grownBy_setP _ _ _ _) nn).kept (grownBy_setP _ _ _ _) nn).kept (grownBy_setP _ _ _ _) nn
  have O4 := Lib.hid o4
  clear o2 b2 g3 o3 b3 o4
  go_wp2
  exact ret_part rfl rfl _ rfl _ _ _ x4 ⟨_, rfl, O4.out, B4, by simp; omega⟩
end Go.Proofs.YtoaiaindcmihjaaGreatDoor
/-
  Names in order: the parts of sorted names.
-/
namespace Go.Proofs.YtoaiaindcmihjaaGreatDoor

theorem tfl_sub {l : List Int} {d e e' : Nat} (he : e < 2 ^ d) (h : e' = e ∨ e' = e + 2 ^ d) : (tfl l d e).filter (fun x => decide (x.toNat % 2 ^ (d + 1) = e')) = tfl l (d + 1) e' := by
  unfold tfl
  rw [List.filter_filter]
  refine List.filter_congr fun x _ => ?_
  have hn := mod_next x.toNat d e he
  by_cases g : x.toNat % 2 ^ (d + 1) = e'
  · rw [decide_eq_true g, decide_eq_true (hn.2 (by rcases h with h | h <;> omega))]; rfl
  · rw [decide_eq_false g]; simp
theorem tfl_srt (l : List Int) (d e : Nat) : tfl (srt l) d e = srt (tfl l d e) :=
  srt_only (tfl_perm (srt_perm l) d e) ((srt_sorted l).filter _)
/-- Of sorted names the parts are sorted. -/
theorem spl_srt_one {l : List Int} {m : Nat} (f : Nat) {d e : Nat} (h : (tfl (srt l) d e).length ≤ m) : spl l m f d e = [(d, e, tfl (srt l) d e)] := by
  rw [tfl_srt, srt_len] at h
  rw [tfl_srt]
  cases f with
  | zero => rw [spl]
  | succ f => rw [spl, if_pos h]
theorem spl_srt_more {l : List Int} {m : Nat} (f : Nat) {d e : Nat} (h : ¬ (tfl (srt l) d e).length ≤ m) : spl l m (f + 1) d e = spl l m f (d + 1) e ++ spl l m f (d + 1) (e + 2 ^ d) := by
  rw [tfl_srt, srt_len] at h
  rw [spl, if_neg h]
theorem tfl_six_srt {l : List Int} (hn : l.Nodup) (hr : ∀ x ∈ l, 0 ≤ x ∧ x ≤ 63) (e : Nat) : (tfl (srt l) 6 e).length ≤ 1 := by
  rw [tfl_srt, srt_len]; exact tfl_six hn hr e
end Go.Proofs.YtoaiaindcmihjaaGreatDoor
/-
  impl.nameList.fits, endingIn, impl.part.halves.
-/
namespace Go.Proofs.YtoaiaindcmihjaaGreatDoor
open Go.RowKit

/-- 'append(s, y)' of one int onto a slice of the call's own: the new element lies in a block of its own. -/
theorem push_nm {wr : World} {ops : Array Oper} {rest : List Oper} {o : Oper} {a : Act} {Q : Exit → Act → World → Prop} (hgd : o.guard = none) (s x : Operand)
    (ho : o.op = .call { callee := .builtin .append, args := #[s, x], argTypes := #[46, 46] })
    (base : Nat) (v : Value) (l : List Int) (y : Int) (hs : a.eval s = v) (hown : Own wr base v l) (hx : a.eval x = .slice (some ⟨wr.heap.size, 0, none⟩) 1 1)
    (hl : l.length < 1000000000000) (hbase : base ≤ wr.heap.size)
    (h : ∀ v' w', Own w' base v' (l ++ [y]) → v' ≠ .slice none 0 0 → wr.grownBy w' v.ownBlock → wpList Tryz.prog ops Q rest (a.put o.dst v') w') :
    wpList Tryz.prog ops Q (o :: rest) a (wr.alloc (.cells #[.int .i64 y] 3)) := by
  obtain ⟨i0, hi, hz0, hz1, hz2⟩ := info_parts infoInt
  refine wpList_append_own _ hgd s x 46 ho base 3 i0 (.int .i64 0) 1 8 Tryz.underlying46 hi hz0 hz1 hz2 rfl (by decide) v l.length (l.map (Value.int .i64)) hs (World.ownsRow.alloc hown _) ⟨wr.heap.size, 0, none⟩ 1 1 [.int .i64 y] hx rfl (cell_one_new _ _ _) (fun u hu => by simp at hu; subst hu; rfl) (by unfold maxLen; omega) (by omega) (by simp; omega) fun v' w' h1 h2 h3 => h v' w' ?_ ?_ ?_
  · unfold Own
    rw [List.length_append, List.map_append]
    exact h1
  · intro e
    have := (h3.1 e).2
    omega
  · refine ⟨h2.os, h2.tape, h2.output, Nat.le_trans (by simp) h2.size, fun k hk hne => ?_⟩
    rw [h2.block k (by simp; omega) hne]; exact Below.heap_alloc _ _ _ hk
theorem fits_any (a : Option Addr) (n cap : Nat) (m : Int) (w : World) : Calls Tryz.prog 55 #[.slice a n cap, .int .i64 m] w fun e w' => e = .returned (.bool (decide ((n : Int) ≤ m))) ∧ w = w' := by
  go_enter Tryz.func55, Tryz.ntmps55
  go_wp2
  go_ret
  exact ⟨rfl, rfl⟩
theorem flt_take {l : List Int} {d e i : Nat} (h : i < l.length) : (l.take (i + 1)).filter (fun x => decide (x.toNat % 2 ^ d = e)) = (l.take i).filter (fun x => decide (x.toNat % 2 ^ d = e)) ++ if (l.getD i 0).toNat % 2 ^ d = e then [l.getD i 0] else [] := by
  rw [take_snocN h, List.filter_append]
  by_cases g : (l.getD i 0).toNat % 2 ^ d = e
  · rw [if_pos g, List.filter_cons_of_pos (by rw [decide_eq_true g]), List.filter_nil]
  · rw [if_neg g, List.filter_cons_of_neg (by rw [decide_eq_false g]; simp), List.filter_nil]
set_option maxHeartbeats 8000000 in
set_option maxRecDepth 100000 in
/-- endingIn: the names of a list that end so. -/
theorem endingIn_any (a : Option Addr) (l : List Int) (cap d e : Nat) (w : World) (hr : Reads w a l) (hl : l.length ≤ 1000) (hi : ∀ x ∈ l, 0 ≤ x ∧ x ≤ 63) (hd : d ≤ 40) :
    Calls Tryz.prog 86 #[.slice a l.length cap, .int .i64 (d : Int), .int .i64 (e : Int)] w fun en w' => ∃ v, en = .returned v ∧ Own w' w.heap.size v (l.filter (fun x => decide (x.toNat % 2 ^ d = e))) ∧ Below w.heap.size w w' := by
  have cE := fun (Y : Nat) wx (h : Y ≤ 63) => endOf_any d Y wx hd (by omega)
  have CE := Lib.hid cE
  obtain ⟨M, hM⟩ : ∃ M, M = l.length := ⟨_, rfl⟩
  have HM := Lib.hid hM
  have HI := Lib.hid hi
  rw [← hM] at hl ⊢
  have b0 := Below.refl w.heap.size w
  clear hM hi cE
  go_enter Tryz.func86, Tryz.ntmps86
  go_wp2
  go_loopw [7, 12] (fun sv iv wr => ∃ i : Nat, i ≤ M ∧ iv = .int .i64 (i : Int) ∧ Own wr w.heap.size sv ((l.take i).filter (fun x => decide (x.toNat % 2 ^ d = e))) ∧ Below w.heap.size w wr) (fun _ iv _ => M - (intOf iv).toNat)
  case atStart => exact ⟨0, by omega, rfl, by simpa using Own.nil _ _, b0⟩
  case round =>
    clear b0
    rename World => wo
    obtain ⟨i, hi, rfl, ho, hB⟩ := hrel
    by_cases hlt : i < M
    · have hi1 : (i : Int) < (M : Int) := by omega
      obtain ⟨b, off, y, rfl, hb, hc0, hy⟩ := hr.get (k := i) (by have := HM.out; omega)
      have hcell : wo.cell? ⟨b, off + i, none⟩ = some (.int .i64 y) := (hB.cell (by exact hb)).trans hc0
      have hyr := HI.out y (by rw [← hy.out]; exact getD_mem (by have := HM.out; omega))
      have htk := flt_take (l := l) (d := d) (e := e) (i := i) (by have := HM.out; omega)
      rw [hy.out] at htk
      have hz1 := hB.size
      have hlen := List.length_filter_le (fun x => decide (x.toNat % 2 ^ d = e)) (l.take i)
      rw [List.length_take] at hlen
      obtain ⟨T, hT⟩ : ∃ T, T = (l.take i).filter (fun x => decide (x.toNat % 2 ^ d = e)) := ⟨_, rfl⟩
      rw [← hT] at htk ho hlen
      have hl9 : T.length ≤ 1000 := by omega
      obtain ⟨sa, sc, rfl, _, _, _, _⟩ := ho.form
      obtain ⟨Y, rfl⟩ : ∃ Y : Nat, y = Y := ⟨y.toNat, by omega⟩
      rw [Int.toNat_natCast] at htk
      have ct := fun wx => CE.out Y wx (by omega)
      obtain ⟨q, hq⟩ : ∃ q, q = Y % 2 ^ d := ⟨_, rfl⟩
      rw [← hq] at htk ct
      have D := Lib.hid ct
      clear hc0 ct hq hlen hT
      by_cases hqe : q = e
      · rw [if_pos hqe] at htk
        have HTK := Lib.hid htk
        have hd1 : ((q : Int) == (e : Int)) = true := by simp [hqe]
        clear htk hqe
        go_wp2_with fail
        refine (D.out _).mono ?_
        rintro en w' ⟨rfl, rfl⟩
        go_wp2_with (at_builtin; refine push_nm rfl (.tmp 21) (.tmp 23) rfl w.heap.size _ T (Y : Int) rfl ho rfl (by omega) hz1 ?_)
        intro v' wf of _ gf
        rw [← HTK.out] at of
        have hBf := hB.grown gf hB.size (fun k hk => (ho.lt k hk).1)
        clear gf ho hB
        go_wp2
        go_roundw
        case rel => exact ⟨i + 1, by omega, by go_num, of, hBf⟩
        case measure => simp [intOf]; omega
      · rw [if_neg hqe, List.append_nil] at htk
        have HTK := Lib.hid htk
        have hd1 : ((q : Int) == (e : Int)) = false := by simp; omega
        clear htk
        go_wp2_with fail
        refine (D.out _).mono ?_
        rintro en w' ⟨rfl, rfl⟩
        go_wp2
        go_roundw
        case rel => exact ⟨i + 1, by omega, by go_num, by rw [HTK.out]; exact ho, hB⟩
        case measure => simp [intOf]; omega
    · obtain rfl : i = M := by omega
      rw [show l.take i = l by rw [HM.out, List.take_length]] at ho
      obtain ⟨sa, sc, rfl, _, _, _, _⟩ := ho.form
      go_wp2
      go_ret
      exact ⟨_, rfl, ho, hB⟩
end Go.Proofs.YtoaiaindcmihjaaGreatDoor
/-
  impl.part.halves.
-/
namespace Go.Proofs.YtoaiaindcmihjaaGreatDoor
open Go.RowKit

theorem PBox.put3 {w : World} {g g1 : Nat} {v : Value} {d e : Int} (h : PBox w g v d e) (h1 : g ≠ g1) (x y z : Value) : PBox (((w.setCell ⟨g1, 0, none⟩ x).setCell ⟨g1, 1, none⟩ y).setCell ⟨g1, 2, none⟩ z) g v d e :=
  ((h.other h1 0 x).other h1 1 y).other h1 2 z
theorem Own.put3 {w : World} {base g : Nat} {v : Value} {l : List Int} (h : Own w base v l) (hg : g < base) (x y z : Value) : Own (((w.setCell ⟨g, 0, none⟩ x).setCell ⟨g, 1, none⟩ y).setCell ⟨g, 2, none⟩ z) base v l := by
  have hne : ∀ k, v.ownBlock = some k → k ≠ g := fun k hk => by have := (h.lt k hk).1; omega
  have nn : v.ownBlock = none ∨ v.ownBlock ≠ some g := .inr (fun h => hne _ h rfl)
  exact ((h.kept (grownBy_setP _ _ _ _) nn).kept (grownBy_setP _ _ _ _) nn).kept (grownBy_setP _ _ _ _) nn
/-- Two parts, handed back out of variables. -/
theorem ret_part2 {fn : Func} {R : Ending → World → Prop} {a : Act} {w : World} {p q : Tmp} (hf : fn.results = #[.cell p 48, .cell q 48]) (hd : a.defers = [])
    (g g' : Nat) (hp : a.tmps.getD p undef = .pointer (some ⟨g, 0, none⟩)) (hq : a.tmps.getD q undef = .pointer (some ⟨g', 0, none⟩)) (v v' : Value) (d e d' e' : Int) (hg : PBox w g v d e) (hg' : PBox w g' v' d' e')
    (hR : R (.returned (.tuple #[.agg #[v, .int .i64 d, .int .i64 e], .agg #[v', .int .i64 d', .int .i64 e']])) w) : bodyPost Tryz.prog fn R .ret a w := by
  refine bodyPost_ret (v := .tuple #[.agg #[v, .int .i64 d, .int .i64 e], .agg #[v', .int .i64 d', .int .i64 e']]) ?_ hd hR
  have hp' : a.tmps[p]?.getD undef = .pointer (some ⟨g, 0, none⟩) := by simpa using hp
  have hq' : a.tmps[q]?.getD undef = .pointer (some ⟨g', 0, none⟩) := by simpa using hq
  have h1 := run_loadVar_row (P := Tryz.prog) w g _ 48 _ (0, 0) _ hg Tryz.underlying48 rfl (by kernel_rfl)
  have h2 := run_loadVar_row (P := Tryz.prog) w g' _ 48 _ (0, 0) _ hg' Tryz.underlying48 rfl (by kernel_rfl)
  simp [results, hf, hp', hq', asAddr, h1, h2]
set_option maxHeartbeats 8000000 in
set_option maxRecDepth 100000 in
/-- halves: the names of a part by the next digit. -/
theorem halves_any (a : Option Addr) (l : List Int) (cap d e : Nat) (w : World) (hr : Reads w a l) (hl : l.length ≤ 1000) (hi : ∀ x ∈ l, 0 ≤ x ∧ x ≤ 63) (hd : d ≤ 30) (he : e ≤ 1000000) :
    Calls Tryz.prog 56 #[.agg #[.slice a l.length cap, .int .i64 (d : Int), .int .i64 (e : Int)]] w fun en w' => ∃ z o, en = .returned (.tuple #[.agg #[z, .int .i64 ((d + 1 : Nat) : Int), .int .i64 (e : Int)], .agg #[o, .int .i64 ((d + 1 : Nat) : Int), .int .i64 ((e + 2 ^ d : Nat) : Int)]]) ∧
      Own w' w.heap.size z (l.filter (fun x => decide (x.toNat % 2 ^ (d + 1) = e))) ∧ Own w' w.heap.size o (l.filter (fun x => decide (x.toNat % 2 ^ (d + 1) = e + 2 ^ d))) ∧ (z.ownBlock = none ∨ z.ownBlock ≠ o.ownBlock) ∧ Below w.heap.size w w' := by
  obtain ⟨M, hM⟩ : ∃ M, M = l.length := ⟨_, rfl⟩
  obtain ⟨P, hP⟩ : ∃ P, P = 2 ^ d := ⟨_, rfl⟩
  obtain ⟨e1, e2, e3⟩ := shl1 d P (by omega) hP
  have hps : P ≤ 1099511627776 := by rw [hP]; exact pow40 (by omega)
  rw [← hP]
  obtain ⟨L1, hL1⟩ : ∃ L1, L1 = l.filter (fun x => decide (x.toNat % 2 ^ (d + 1) = e)) := ⟨_, rfl⟩
  obtain ⟨L2, hL2⟩ : ∃ L2, L2 = l.filter (fun x => decide (x.toNat % 2 ^ (d + 1) = e + P)) := ⟨_, rfl⟩
  rw [← hL1, ← hL2]
  have x0 := PBox.new w (.slice a M cap) d e
  obtain ⟨w1, ew1⟩ : ∃ w1, w1 = w.alloc (.cells #[.slice a M cap, .int .i64 (d : Int), .int .i64 (e : Int)] 48) := ⟨_, rfl⟩
  have b1 := (Below.refl w.heap.size w).alloc (Nat.le_refl _) (.cells #[.slice a M cap, .int .i64 (d : Int), .int .i64 (e : Int)] 48)
  have hz1 : w1.heap.size = w.heap.size + 1 := by rw [ew1]; simp
  rw [← ew1] at x0 b1
  have y1 := PBox.new w1 (.slice none 0 0) 0 0
  obtain ⟨w2, ew2⟩ : ∃ w2, w2 = w1.alloc (.cells #[.slice none 0 0, .int .i64 0, .int .i64 0] 48) := ⟨_, rfl⟩
  have hz2 : w2.heap.size = w.heap.size + 2 := by rw [ew2]; simp [hz1]
  have b2 := b1.alloc (by omega) (.cells #[.slice none 0 0, .int .i64 0, .int .i64 0] 48)
  have x1 := x0.alloc (.cells #[.slice none 0 0, .int .i64 0, .int .i64 0] 48)
  rw [← ew2] at y1 b2 x1
  rw [hz1] at y1
  have y2 := PBox.new w2 (.slice none 0 0) 0 0
  obtain ⟨w3, ew3⟩ : ∃ w3, w3 = w2.alloc (.cells #[.slice none 0 0, .int .i64 0, .int .i64 0] 48) := ⟨_, rfl⟩
  have hz3 : w3.heap.size = w.heap.size + 3 := by rw [ew3]; simp [hz2]
  have b3 := b2.alloc (by omega) (.cells #[.slice none 0 0, .int .i64 0, .int .i64 0] 48)
  have x2 := x1.alloc (.cells #[.slice none 0 0, .int .i64 0, .int .i64 0] 48)
  have y1' := y1.alloc (.cells #[.slice none 0 0, .int .i64 0, .int .i64 0] 48)
  rw [← ew3] at y2 b3 x2 y1'
  rw [hz2] at y2
  have cE : ∀ (q : Nat) (L : List Int), L = l.filter (fun x => decide (x.toNat % 2 ^ (d + 1) = q)) → ∀ wx, Below w3.heap.size w3 wx → Calls Tryz.prog 86 #[.slice a M cap, .int .i64 ((d + 1 : Nat) : Int), .int .i64 (q : Int)] wx fun en w' => ∃ sa sc, en = .returned (.slice sa L.length sc) ∧ Own w' wx.heap.size (.slice sa L.length sc) L ∧ Below wx.heap.size wx w' ∧ w'.cell? ⟨w.heap.size, 0, none⟩ = some (.slice a M cap) := by
    rintro q L rfl wx hb
    rw [hM]
    refine (endingIn_any a l cap (d + 1) q wx ((hr.below b3).below hb) hl hi (by omega)).mono ?_
    rintro en w' ⟨v, rfl, ho, hb'⟩
    obtain ⟨sa, sc, rfl, _, _, _, _⟩ := ho.form
    exact ⟨sa, sc, rfl, ho, hb', by rw [← hM]; exact (PBox.belowAll hb' (PBox.belowAll hb x2)).c0⟩
  have C1 := Lib.hid (cE e L1 hL1)
  have C2 := Lib.hid (cE (e + P) L2 (by rw [hL2]))
  have E1 := Lib.hid ew1
  have E2 := Lib.hid ew2
  have E3 := Lib.hid ew3
  rw [← hM]
  have wr1 : IntKind.i64.wrap ((e : Int) + (P : Int)) = ((e + P : Nat) : Int) := by rw [IntWalk.i64_in _ (by omega)]; rfl
  have wr2 : IntKind.i64.wrap ((d : Int) + 1) = ((d + 1 : Nat) : Int) := by rw [IntWalk.i64_in _ (by omega)]; rfl
  obtain ⟨D1, hD1⟩ : ∃ D1, D1 = d + 1 := ⟨_, rfl⟩
  obtain ⟨EP, hEP⟩ : ∃ EP, EP = e + P := ⟨_, rfl⟩
  rw [← hD1] at wr2 C1 C2
  rw [← hEP] at wr1 C2
  rw [← hD1, ← hEP] 
  have s0 := x2.c0
  have s1 := x2.c1
  have s2 := x2.c2
  clear ew1 ew2 ew3 cE hL1 hL2 hM hi hr x0 x1 y1 hP hD1 hEP
  go_enter Tryz.func56, Tryz.ntmps56
  go_upto_region 1 with fail
  rw [← E1.out, ← E2.out, ← E3.out]
  go_cut [4, 5, 6] (fun s4 s5 s6 wx => s4 = .int .i64 (D1 : Int) ∧ s5 = .int .i64 (e : Int) ∧ s6 = .int .i64 (EP : Int) ∧ ∃ n, wx = w3.drewN n)
  case first =>
    go_quiet (fail)
    all_goals
      go_wp2_with fail
      go_meet
      exact ⟨rfl, rfl, rfl, _, rfl⟩
  case rest =>
    obtain ⟨rfl, rfl, rfl, n, rfl⟩ := hcut
    have x3 : PBox (w3.drewN n) w.heap.size (.slice a M cap) d e := x2
    have y1'' : PBox (w3.drewN n) (w.heap.size + 1) (.slice none 0 0) 0 0 := y1'
    have y2'' : PBox (w3.drewN n) (w.heap.size + 2) (.slice none 0 0) 0 0 := y2
    have hbn : Below w3.heap.size w3 (w3.drewN n).drew := (Go.below_drewN (Below.refl _ _) n).drew
    obtain ⟨w4, hw4⟩ : ∃ w4, w4 = w3.drewN n := ⟨_, rfl⟩
    have hz4 : w4.heap.size = w.heap.size + 3 := by rw [hw4]; exact hz3
    rw [← hw4] at x3 y1'' y2'' hbn ⊢
    have s0' := x3.c0
    clear hw4 s0 s1 s2 y1'' y2'' e1 e2 e3 wr1 wr2 hps E1 E2 E3 b1 b2 hz1 hz2 hl hd he P
    go_upto_region 2 with fail
    go_region_held3 (fun w' => w'.cell? ⟨w.heap.size, 0, none⟩ = some (.slice a M cap)) (first | with_reducible exact s0 | with_reducible exact s0' | with_reducible exact k3 _ _ _ | with_reducible exact k6 _ _ _ _ _ _ | go_keep)
      (first
        | (have hbz := hbn.trans (bz.mono hbn.size); go_at_call 86; refine (C2.out _ hbz).mono ?_; rintro en w6 ⟨oa, oc, rfl, oo, bo, s0⟩; have hb6 := hbz.trans (bo.mono hbz.size); have v0 := PBox.belowAll hb6 x2; have k3 := fun x y z => (v0.put3 (g1 := w.heap.size + 1) (by omega) x y z).c0; have k6 := fun x y z x' y' z' => ((v0.put3 (g1 := w.heap.size + 1) (by omega) x y z).put3 (g1 := w.heap.size + 1 + 1) (by omega) x' y' z').c0; have v1 := PBox.belowAll hb6 y1'; have v2 : PBox w6 (w.heap.size + 1 + 1) _ _ _ := PBox.belowAll hb6 y2; have q0 := v1.c0; have q1 := v1.c1; have q2 := v1.c2; have q3 := v2.c0; have q4 := v2.c1; have q5 := v2.c2; have f0 := v1.fz 0; have f1 := v1.fz 1; have f2 := v1.fz 2; have f3 := v2.fz 0; have f4 := v2.fz 1; have f5 := v2.fz 2)
        | (go_at_call 86; refine (C1.out _ hbn).mono ?_; rintro en w5 ⟨za, zc, rfl, oz, bz, s0⟩))
    have hz5 := bz.size
    have hz6 := bo.size
    have hzd : (w4.drew).heap.size = w.heap.size + 3 := hz4
    rw [hzd] at oz bz hz5
    have p1 := (v1.put (.slice za L1.length zc) D1 e).put3 (g1 := w.heap.size + 1 + 1) (by omega) (.slice oa L2.length oc) (.int .i64 D1) (.int .i64 EP)
    have p2 := (v2.put3 (g1 := w.heap.size + 1) (by omega) (.slice za L1.length zc) (.int .i64 D1) (.int .i64 e)).put (.slice oa L2.length oc) D1 EP
    have oz6 := oz.below bo
    have r1 := ((oz6.put3 (g := w.heap.size + 1) (by omega) (.slice za L1.length zc) (.int .i64 D1) (.int .i64 e)).put3 (g := w.heap.size + 1 + 1) (by omega) (.slice oa L2.length oc) (.int .i64 D1) (.int .i64 EP)).mono (base' := w.heap.size) (by omega)
    have r2 := ((oo.put3 (g := w.heap.size + 1) (by omega) (.slice za L1.length zc) (.int .i64 D1) (.int .i64 e)).put3 (g := w.heap.size + 1 + 1) (by omega) (.slice oa L2.length oc) (.int .i64 D1) (.int .i64 EP)).mono (base' := w.heap.size) (by omega)
    have B6 := below_put3p (below_put3p (b3.trans (hb6.mono b3.size)) (g := w.heap.size + 1) (by omega) (.slice za L1.length zc) (.int .i64 D1) (.int .i64 e)) (g := w.heap.size + 1 + 1) (by omega) (.slice oa L2.length oc) (.int .i64 D1) (.int .i64 EP)
    have nn : (Value.slice za L1.length zc).ownBlock = none ∨ (Value.slice za L1.length zc).ownBlock ≠ (Value.slice oa L2.length oc).ownBlock := by
      by_cases h : (Value.slice za L1.length zc).ownBlock = none
      · exact .inl h
      · refine .inr fun e => ?_
        obtain ⟨k, hk⟩ := Option.ne_none_iff_exists'.1 h
        have i1 := (oz.lt k hk).2
        have i2 := (oo.lt k (by rw [← e]; exact hk)).1
        omega
    go_wp2
    exact ret_part2 rfl rfl _ _ rfl rfl _ _ _ _ _ _ p1 p2 ⟨_, _, rfl, r1, r2, nn, B6⟩
end Go.Proofs.YtoaiaindcmihjaaGreatDoor
/-
  impl.part.text.
-/
namespace Go.Proofs.YtoaiaindcmihjaaGreatDoor
open Go.RowKit

/-- What text gives, f parts deep. -/
def TXc (L : List Int) (f : Nat) : Prop := ∀ d e : Nat, f + d = 6 → e < 2 ^ d → ∀ (a : Option Addr) (cap : Nat) (w : World), Reads w a (tfl L d e) →
    Calls Tryz.prog 32 #[.agg #[.slice a (tfl L d e).length cap, .int .i64 (d : Int), .int .i64 (e : Int)]] w fun en w' => en = .returned (.string (B8 (ttr L f d e))) ∧ Below w.heap.size w w'
set_option maxHeartbeats 8000000 in
set_option maxRecDepth 100000 in
theorem text_few (L : List Int) (hr : ∀ x ∈ L, 0 ≤ x ∧ x ≤ 63) (f d e : Nat) (hd : d ≤ 6) (a : Option Addr) (cap : Nat) (w : World) (hR : Reads w a (tfl L d e)) (hfew : (tfl L d e).length ≤ 1) :
    Calls Tryz.prog 32 #[.agg #[.slice a (tfl L d e).length cap, .int .i64 (d : Int), .int .i64 (e : Int)]] w fun en w' => en = .returned (.string (B8 (ttr L f d e))) ∧ Below w.heap.size w w' := by
  have hN := fun h => ttr_none (l := L) (d := d) (e := e) h f
  have hO := fun x h => ttr_one (l := L) (d := d) (e := e) (x := x) h f
  have hTr : ∀ x ∈ tfl L d e, 0 ≤ x ∧ x ≤ 63 := fun x hx => hr x (tfl_mem.1 hx).1
  obtain ⟨R, hRR⟩ : ∃ R, R = ttr L f d e := ⟨_, rfl⟩
  rw [← hRR] at hN hO ⊢
  obtain ⟨T, hT⟩ : ∃ T, T = tfl L d e := ⟨_, rfl⟩
  rw [← hT] at hR hfew hN hO hTr ⊢
  clear hT hRR hr
  have x0 := fun n => PBox.new w (.slice a n cap) d e
  have b0 := fun n => (Below.refl w.heap.size w).alloc (Nat.le_refl _) (.cells #[.slice a n cap, .int .i64 (d : Int), .int .i64 (e : Int)] 48)
  cases T with
  | nil =>
    have hR0 := hN rfl
    subst hR0
    have x1 := x0 0
    have b1 := b0 0
    obtain ⟨w1, e1⟩ : ∃ w1, w1 = w.alloc (.cells #[.slice a 0 cap, .int .i64 (d : Int), .int .i64 (e : Int)] 48) := ⟨_, rfl⟩
    rw [← e1] at x1 b1
    have s0 := x1.c0
    have c1 := fun wx => fits_any a 0 cap 1 wx
    have c2 := fun wx => fits_any a 0 cap 0 wx
    rw [show decide (((0 : Nat) : Int) ≤ 1) = true from rfl] at c1
    rw [show decide (((0 : Nat) : Int) ≤ 0) = true from rfl] at c2
    have E1 := Lib.hid e1
    have C1 := Lib.hid c1
    have C2 := Lib.hid c2
    rw [show ([] : List Int).length = 0 from rfl]
    clear c1 c2 e1 x0 b0 hN hO hTr hfew hR x1
    go_enter Tryz.func32, Tryz.ntmps32
    go_wp2_with fail
    rw [← E1.out]
    refine (C1.out _).mono ?_
    rintro en w' ⟨rfl, rfl⟩
    go_wp2_with fail
    refine (C2.out _).mono ?_
    rintro en w' ⟨rfl, rfl⟩
    go_wp2
    go_ret
    exact ⟨rfl, b1⟩
  | cons x t =>
    obtain rfl : t = [] := List.eq_nil_of_length_eq_zero (by simpa using hfew)
    have hR0 := hO x rfl
    subst hR0
    obtain ⟨hx0, hx1⟩ := hTr x (by simp)
    obtain ⟨X, rfl⟩ : ∃ X : Nat, x = X := ⟨x.toNat, by omega⟩
    have x1 := x0 1
    have b1 := b0 1
    obtain ⟨w1, e1⟩ : ∃ w1, w1 = w.alloc (.cells #[.slice a 1 cap, .int .i64 (d : Int), .int .i64 (e : Int)] 48) := ⟨_, rfl⟩
    rw [← e1] at x1 b1
    have s0 := x1.c0
    obtain ⟨b, off, z, rfl, hb, hc0, hz⟩ := (hR.below b1).get (k := 0) (by simp)
    have hz2 : (X : Int) = z := hz.out
    subst hz2
    rw [Nat.add_zero] at hc0
    have c1 := fun wx => fits_any (some ⟨b, off, none⟩) 1 cap 1 wx
    have c2 := fun wx => fits_any (some ⟨b, off, none⟩) 1 cap 0 wx
    rw [show decide (((1 : Nat) : Int) ≤ 1) = true from rfl] at c1
    rw [show decide (((1 : Nat) : Int) ≤ 0) = false from rfl] at c2
    have ci := fun wx => itoaS_any X wx (by omega)
    have E1 := Lib.hid e1
    have C1 := Lib.hid c1
    have C2 := Lib.hid c2
    have CI := Lib.hid ci
    rw [show ([(X : Int)] : List Int).length = 1 from rfl, Int.toNat_natCast]
    obtain ⟨DX, hDX⟩ : ∃ DX, DX = B8 (dec X) := ⟨_, rfl⟩
    rw [← hDX] at CI ⊢
    clear c1 c2 ci e1 x0 b0 hN hO hTr hfew hR x1 hz hDX
    go_enter Tryz.func32, Tryz.ntmps32
    go_wp2_with fail
    rw [← E1.out]
    refine (C1.out _).mono ?_
    rintro en w' ⟨rfl, rfl⟩
    go_wp2_with fail
    refine (C2.out _).mono ?_
    rintro en w' ⟨rfl, rfl⟩
    go_wp2_with fail
    refine (CI.out _).mono ?_
    rintro en w' ⟨rfl, rfl⟩
    go_wp2
    go_ret
    exact ⟨rfl, b1⟩
end Go.Proofs.YtoaiaindcmihjaaGreatDoor
/-
  impl.part.text of more names, impl.TreeText.
-/
namespace Go.Proofs.YtoaiaindcmihjaaGreatDoor
open Go.RowKit

theorem B8_sizeT (x : List UInt8) : (B8 x).size = x.length := by show x.toArray.size = _; simp
theorem ttr_400 {L : List Int} (hn : L.Nodup) (hr : ∀ x ∈ L, 0 ≤ x ∧ x ≤ 63) (hl : L.length ≤ 12) (f d e : Nat) (hf : f + d = 6) (he : e < 2 ^ d) : (ttr L f d e).length ≤ 400 := by
  have h1 := ttr_len hn hr f d e hf he
  have h2 : (tfl L d e).length ≤ 12 := Nat.le_trans (List.length_filter_le _ _) hl
  have h3 : 5 * f * (tfl L d e).length ≤ 5 * 6 * 12 := Nat.mul_le_mul (by omega) h2
  omega
set_option maxHeartbeats 16000000 in
set_option maxRecDepth 100000 in
theorem text_more (L : List Int) (hn : L.Nodup) (hrng : ∀ x ∈ L, 0 ≤ x ∧ x ≤ 63) (hl12 : L.length ≤ 12) (g d e : Nat) (hgd : g + 1 + d = 6) (he : e < 2 ^ d) (ih : TXc L g) (sa : Option Addr) (sc : Nat) (w : World) (hrT : Reads w sa (tfl L d e)) (hmore : ¬ (tfl L d e).length ≤ 1) :
    Calls Tryz.prog 32 #[.agg #[.slice sa (tfl L d e).length sc, .int .i64 (d : Int), .int .i64 (e : Int)]] w fun en w' => en = .returned (.string (B8 (ttr L (g + 1) d e))) ∧ Below w.heap.size w w' := by
  have hps : 2 ^ (d + 1) = 2 * 2 ^ d := by rw [Nat.pow_succ]; omega
  have hp6 : 2 ^ d ≤ 2 ^ 6 := Nat.pow_le_pow_right (by omega) (by omega)
  have hR := ttr_more (l := L) (d := d) (e := e) (f := g) (by omega)
  have ih1 := ih (d + 1) e (by omega) (by omega)
  have ih2 := ih (d + 1) (e + 2 ^ d) (by omega) (by omega)
  rw [← tfl_sub he (.inl rfl)] at ih1
  rw [← tfl_sub he (.inr rfl)] at ih2
  have hA4 := ttr_400 hn hrng hl12 g (d + 1) e (by omega) (by omega)
  have hB4 := ttr_400 hn hrng hl12 g (d + 1) (e + 2 ^ d) (by omega) (by omega)
  have hT12 : (tfl L d e).length ≤ 12 := Nat.le_trans (List.length_filter_le _ _) hl12
  have hTr : ∀ x ∈ tfl L d e, 0 ≤ x ∧ x ≤ 63 := fun x hx => hrng x (tfl_mem.1 hx).1
  rw [hR]
  obtain ⟨T, hT⟩ : ∃ T, T = tfl L d e := ⟨_, rfl⟩
  rw [← hT] at hrT hmore ih1 ih2 hT12 hTr ⊢
  obtain ⟨A, hA⟩ : ∃ A, A = ttr L g (d + 1) e := ⟨_, rfl⟩
  obtain ⟨B, hB⟩ : ∃ B, B = ttr L g (d + 1) (e + 2 ^ d) := ⟨_, rfl⟩
  rw [← hA] at ih1 hA4
  rw [← hB] at ih2 hB4
  rw [← hA, ← hB]
  have x0 := PBox.new w (.slice sa T.length sc) d e
  have b0 := (Below.refl w.heap.size w).alloc (Nat.le_refl _) (.cells #[.slice sa T.length sc, .int .i64 (d : Int), .int .i64 (e : Int)] 48)
  obtain ⟨w1, e1⟩ : ∃ w1, w1 = w.alloc (.cells #[.slice sa T.length sc, .int .i64 (d : Int), .int .i64 (e : Int)] 48) := ⟨_, rfl⟩
  have hz1 : w1.heap.size = w.heap.size + 1 := by rw [e1]; simp
  rw [← e1] at x0 b0
  have E1 := Lib.hid e1
  have s0 := x0.c0
  have s1 := x0.c1
  have s2 := x0.c2
  have cf := fun wx => fits_any sa T.length sc 1 wx
  have hfi : ¬ (T.length : Int) ≤ 1 := by omega
  rw [decide_eq_false hfi] at cf
  have cH := fun wx (h : Below w1.heap.size w1 wx) => halves_any sa T sc d e wx ((hrT.below b0).below h) (by omega) hTr (by omega) (by omega)
  obtain ⟨D1, hD1⟩ : ∃ D1, D1 = d + 1 := ⟨_, rfl⟩
  obtain ⟨EP, hEP⟩ : ∃ EP, EP = e + 2 ^ d := ⟨_, rfl⟩
  rw [← hD1] at ih1 ih2
  rw [← hEP] at ih2
  simp only [← hD1, ← hEP] at cH
  obtain ⟨T1, hT1⟩ : ∃ T1, T1 = T.filter (fun x => decide (x.toNat % 2 ^ D1 = e)) := ⟨_, rfl⟩
  obtain ⟨T2, hT2⟩ : ∃ T2, T2 = T.filter (fun x => decide (x.toNat % 2 ^ D1 = EP)) := ⟨_, rfl⟩
  rw [← hT1] at ih1
  rw [← hT2] at ih2
  simp only [← hT1, ← hT2] at cH
  have zA := B8_sizeT A
  have zB := B8_sizeT B
  obtain ⟨SA, hSA⟩ : ∃ SA, SA = B8 A := ⟨_, rfl⟩
  obtain ⟨SB, hSB⟩ : ∃ SB, SB = B8 B := ⟨_, rfl⟩
  rw [← hSA] at ih1 zA
  rw [← hSB] at ih2 zB
  have CF := Lib.hid cf
  have CH := Lib.hid cH
  have I1 := Lib.hid ih1
  have I2 := Lib.hid ih2
  have HSA := Lib.hid hSA
  have HSB := Lib.hid hSB
  clear cf hfi e1 x0 hps hp6 hmore ih1 ih2 ih cH hA hB hD1 hEP hT1 hT2 hT hTr hrT hrng hn he hgd hT12 hR hSA hSB hl12 L
  go_enter Tryz.func32, Tryz.ntmps32
  go_wp2_with fail
  rw [← E1.out]
  refine (CF.out _).mono ?_
  rintro en w' ⟨rfl, rfl⟩
  go_wp2_with fail
  refine (CH.out _ (Below.refl _ _)).mono ?_
  rintro en w2 ⟨z, o, rfl, oz, oo, nn, b2⟩
  have hz2 := b2.size
  have B2 := b0.trans (b2.mono b0.size)
  obtain ⟨za, zc, rfl, rz, _, _, _⟩ := oz.form
  obtain ⟨oa, oc, rfl, ro, _, _, _⟩ := oo.form
  have y1 := PBox.new w2 (.slice za T1.length zc) D1 e
  obtain ⟨w3, e3⟩ : ∃ w3, w3 = w2.alloc (.cells #[.slice za T1.length zc, .int .i64 (D1 : Int), .int .i64 (e : Int)] 48) := ⟨_, rfl⟩
  have B3 := B2.alloc (by omega) (.cells #[.slice za T1.length zc, .int .i64 (D1 : Int), .int .i64 (e : Int)] 48)
  have hz3 : w3.heap.size = w2.heap.size + 1 := by rw [e3]; simp
  have b23 := (Below.refl w2.heap.size w2).alloc (Nat.le_refl _) (.cells #[.slice za T1.length zc, .int .i64 (D1 : Int), .int .i64 (e : Int)] 48)
  rw [← e3] at y1 B3 b23
  have p2 := PBox.new w3 (.slice oa T2.length oc) D1 EP
  obtain ⟨w5, e5⟩ : ∃ w5, w5 = w3.alloc (.cells #[.slice oa T2.length oc, .int .i64 (D1 : Int), .int .i64 (EP : Int)] 48) := ⟨_, rfl⟩
  have B5 := B3.alloc (by omega) (.cells #[.slice oa T2.length oc, .int .i64 (D1 : Int), .int .i64 (EP : Int)] 48)
  have hz5 : w5.heap.size = w2.heap.size + 2 := by rw [e5]; simp [hz3]
  have p1 := y1.alloc (.cells #[.slice oa T2.length oc, .int .i64 (D1 : Int), .int .i64 (EP : Int)] 48)
  have b24 := b23.alloc (by omega) (.cells #[.slice oa T2.length oc, .int .i64 (D1 : Int), .int .i64 (EP : Int)] 48)
  rw [← e5] at p1 p2 B5 b24
  rw [hz3] at p2
  have E3 := Lib.hid e3
  have E5 := Lib.hid e5
  have rz5 := rz.below b24
  have ro5 := ro.below b24
  have P1 := Lib.hid p1
  have P2 := Lib.hid p2
  have RO := Lib.hid ro5
  clear e3 e5 B2 B3 b23 p1 p2 y1 oz oo nn b24 rz ro ro5
  go_upto_region 3 with fail
  rw [← E3.out, ← E5.out]
  clear s0 s1 s2 E3 E5 E1
  have s0 := P1.out.c0
  have s1 := P1.out.c1
  have s2 := P1.out.c2
  have s3 := P2.out.c0
  have s4 := P2.out.c1
  have s5 := P2.out.c2
  have bd : Below w5.heap.size w5 w5.drew := (Below.refl _ _).drew
  have rzd : Reads w5.drew za T1 := rz5
  have k1 : ¬ 9223372036854775807 < 1 + A.length := by omega
  have k2 : ¬ 9223372036854775807 < 1 + A.length + 1 := by omega
  have k3 : ¬ 9223372036854775807 < 1 + A.length + 1 + B.length := by omega
  have k4 : ¬ 9223372036854775807 < 1 + A.length + 1 + B.length + 1 := by omega
  go_region_held3 (fun w' => w'.cell? ⟨w2.heap.size, 0, none⟩ = some (.slice za T1.length zc) ∧ w'.cell? ⟨w2.heap.size, 1, none⟩ = some (.int .i64 D1) ∧ w'.cell? ⟨w2.heap.size, 2, none⟩ = some (.int .i64 e) ∧ w'.cell? ⟨w2.heap.size + 1, 0, none⟩ = some (.slice oa T2.length oc) ∧ w'.cell? ⟨w2.heap.size + 1, 1, none⟩ = some (.int .i64 D1) ∧ w'.cell? ⟨w2.heap.size + 1, 2, none⟩ = some (.int .i64 EP))
    (first | with_reducible exact ⟨s0, s1, s2, s3, s4, s5⟩ | go_keep)
    (first
      | (have ho6 := RO6.out; go_at_call 32; refine (I2.out _ _ _ ho6).mono ?_; rintro en w7 ⟨rfl, b7⟩; have hb57 := b56.trans (b7.mono hz6); have v1 := PBox.belowAll hb57 P1.out; have v2 := PBox.belowAll hb57 P2.out; have s0 := v1.c0; have s1 := v1.c1; have s2 := v1.c2; have s3 := v2.c0; have s4 := v2.c1; have s5 := v2.c2)
      | (go_at_call 32; refine (I1.out _ _ _ rzd).mono ?_; rintro en w6 ⟨rfl, b6⟩; have b56 := bd.trans (b6.mono bd.size); have hz6 := b56.size; have RO6 := Lib.hid (Reads.below b56 RO.out); have u1 := PBox.belowAll b56 P1.out; have u2 := PBox.belowAll b56 P2.out; have s0 := u1.c0; have s1 := u1.c1; have s2 := u1.c2; have s3 := u2.c0; have s4 := u2.c1; have s5 := u2.c2))
  all_goals
    have BB := Lib.hid (B5.trans (hb57.mono B5.size))
    have hfin : (⟨#[40]⟩ : ByteArray) ++ SA ++ ⟨#[32]⟩ ++ SB ++ ⟨#[41]⟩ = B8 ([40] ++ A ++ [32] ++ B ++ [41]) := by
      rw [HSA.out, HSB.out, ← B8_app, ← B8_app, ← B8_app, ← B8_app]
    have HF := Lib.hid hfin
    clear hfin
    go_wp2
    go_ret
    exact ⟨congrArg (fun z => Ending.returned (.string z)) HF.out, BB.out⟩
theorem text_any (L : List Int) (hv : VNm L = true) : ∀ f, TXc L f := by
  obtain ⟨h12, hrng, hnd⟩ := VNm_iff.1 hv
  intro f
  induction f with
  | zero =>
    intro d e hfd he a cap w hr
    obtain rfl : d = 6 := by omega
    exact text_few L hrng 0 6 e (by omega) a cap w hr (tfl_six hnd hrng e)
  | succ f ih =>
    intro d e hfd he a cap w hr
    by_cases h : (tfl L d e).length ≤ 1
    · exact text_few L hrng (f + 1) d e (by omega) a cap w hr h
    · exact text_more L hnd hrng h12 f d e hfd he ih a cap w hr h
set_option maxHeartbeats 4000000 in
set_option maxRecDepth 100000 in
theorem implTreeText_e (a : Option Addr) (l : List Int) (cap : Nat) (w : World) (hr : Reads w a l) (_hi : ∀ n ∈ l, In64 n) (hl : l.length ≤ 1048586) (_hcap : l.length ≤ cap) :
    Calls Tryz.prog 9 #[.slice a l.length cap] w fun e w' => e = .returned (.string (B8 (TXT l))) ∧ Below w.heap.size w w' := by
  have cv := implvalidNames_any a l cap w hr hl
  cases hv : VNm l with
  | false =>
    rw [hv] at cv
    have hR : TXT l = [] := by unfold TXT; rw [hv]; rfl
    rw [hR]
    have CV := Lib.hid cv
    clear cv hv hR
    go_enter Tryz.func9, Tryz.ntmps9
    go_wp2_with fail
    refine CV.out.mono ?_
    rintro en w1 ⟨rfl, b1⟩
    go_wp2
    go_ret
    exact ⟨rfl, b1⟩
  | true =>
    rw [hv] at cv
    have hR : TXT l = ttr (srt l) 6 0 0 := by
      rw [TXT_perm (srt_perm l).symm]
      unfold TXT
      rw [if_pos (by rw [VNm_perm (srt_perm l)]; exact hv)]
    have hvs : VNm (srt l) = true := by rw [VNm_perm (srt_perm l)]; exact hv
    have cw := fun wx (h : Below w.heap.size w wx) => wholeOf_any a l cap wx (hr.below h) hl
    have ct := text_any (srt l) hvs 6 0 0 rfl (by simp)
    rw [tfl_zero] at ct
    rw [hR]
    obtain ⟨R, hRR⟩ : ∃ R, R = B8 (ttr (srt l) 6 0 0) := ⟨_, rfl⟩
    rw [← hRR] at ct ⊢
    obtain ⟨M, hM⟩ : ∃ M, M = l.length := ⟨_, rfl⟩
    rw [← hM] at cv cw ⊢
    obtain ⟨L, hL⟩ : ∃ L, L = srt l := ⟨_, rfl⟩
    simp only [← hL] at cw ct
    have CV := Lib.hid cv
    have CW := Lib.hid cw
    have CT := Lib.hid ct
    clear cv cw ct hv hvs hR hRR hM hL hr _hi hl _hcap
    go_enter Tryz.func9, Tryz.ntmps9
    go_wp2_with fail
    refine CV.out.mono ?_
    rintro en w1 ⟨rfl, b1⟩
    go_wp2_with fail
    refine (CW.out _ b1).mono ?_
    rintro en w2 ⟨v, rfl, o2, b2, _⟩
    obtain ⟨sa, sc, rfl, r2, _, _, _⟩ := o2.form
    have B2 := b1.trans (b2.mono b1.size)
    go_wp2_with fail
    refine (CT.out sa sc _ r2).mono ?_
    rintro en w3 ⟨rfl, b3⟩
    have B3 := B2.trans (b3.mono B2.size)
    go_wp2
    go_ret
    exact ⟨rfl, B3⟩
end Go.Proofs.YtoaiaindcmihjaaGreatDoor
/-
  strings.FieldsFunc (what the kit's shelf lays, written out: wip/tools/laysay.py prints it).
-/
namespace Go.Proofs
open Go.RowKit
def Tryz.fieldsA_ren : Go.Shelf.Ren := ⟨fun | 229 => 63 | n => n, fun | 9 => 9 | 40 => 85 | 31 => 33 | 152 => 116 | 3 => 3 | 0 => 0 | 4 => 4 | 21 => 21 | 154 => 118 | n => n, fun | n => n⟩
theorem Tryz.fieldsA : Go.Proofs.Lays.n229 Tryz.prog Tryz.fieldsA_ren where
  mixed := by kernel_rfl
  f229 := Tryz.func63.trans (congrArg some (by kernel_rfl))
  t0 := Tryz.underlying0
  a0 := Tryz.isAgg0
  z0 := Tryz.sizeOf0
  v0 := Tryz.zeroValue0
  t3 := Tryz.underlying3
  a3 := Tryz.isAgg3
  z3 := Tryz.sizeOf3
  v3 := Tryz.zeroValue3
  t4 := Tryz.underlying4
  a4 := Tryz.isAgg4
  z4 := Tryz.sizeOf4
  v4 := Tryz.zeroValue4
  t9 := Tryz.underlying9
  a9 := Tryz.isAgg9
  z9 := Tryz.sizeOf9
  v9 := Tryz.zeroValue9
  t21 := Tryz.underlying21
  a21 := Tryz.isAgg21
  z21 := Tryz.sizeOf21
  v21 := Tryz.zeroValue21
  t31 := Tryz.underlying33
  a31 := Tryz.isAgg33
  z31 := Tryz.sizeOf33
  v31 := Tryz.zeroValue33
  t40 := Tryz.underlying85
  a40 := Tryz.isAgg85
  z40 := Tryz.sizeOf85
  v40 := Tryz.zeroValue85
  t152 := Tryz.underlying116
  a152 := Tryz.isAgg116
  z152 := Tryz.sizeOf116
  v152 := Tryz.zeroValue116
  t154 := Tryz.underlying118
  a154 := Tryz.isAgg118
  z154 := Tryz.sizeOf118
  v154 := Tryz.zeroValue118
end Go.Proofs
namespace Go.Proofs.YtoaiaindcmihjaaGreatDoor
open Go.RowKit Go.Extern.Stop Go.Stop Go.Extern

/-- errors.As(nil, target). -/
theorem as_nil (t : Value) (w : World) :
    Calls Tryz.prog 36 #[.nilIface, t] w fun e w' => e = .returned (.bool false) ∧ w' = w := by
  go_enter Tryz.func36, Tryz.ntmps36
  go_wp2
  go_ret
  exact ⟨rfl, rfl⟩

/-! ### CLOSED FACTS ON THE MODEL's ENTRIES FOR internal/reflectlite, at this program's types: 56: *p.E · 58: **p.E · 53: error · 120: reflectlite's rtype · 1: how many package-level variables the dump has -/
theorem ea_valueOf27 (t : Addr) (w : World) : (ReflectliteValue.unpack (.iface 58 (.pointer (some t)))).run Tryz.prog w
    = .ok (.agg #[.pointer (some ⟨9, 58, none⟩), .pointer (some ⟨w.heap.size, 0, none⟩), .int .u64 150]) (w.alloc (.cells #[.pointer (some t)] 58)) := by kernel_rfl
theorem ea_type27 (a : Addr) (w : World) : (ReflectliteValue.methodAny (ReflectliteValue.valueError "reflectlite.Value.Type" 0) (fun t _ _ _ => ReflectliteType.toType t) #[.agg #[.pointer (some ⟨9, 58, none⟩), .pointer (some a), .int .u64 150]]).run Tryz.prog w
    = .ok (.iface 120 (.agg #[.pointer (some ⟨9, 58, none⟩)])) w := by kernel_rfl
theorem ea_methodKind (h : Value) (w : World) : (Go.method 357 120 (.agg #[h]) "Kind").run Tryz.prog w = .ok (225, h) w := by kernel_rfl
theorem ea_kind27 (w : World) : ((ReflectliteType.abiMethod fun t => (fun a : Nat => Value.int IntKind.u8 (a : Int)) <$> Rtype.kind t) #[.pointer (some ⟨9, 58, none⟩)]).run Tryz.prog w = .ok (.int .u8 22) w := by kernel_rfl
theorem ea_kind25 (w : World) : ((ReflectliteType.abiMethod fun t => (fun a : Nat => Value.int IntKind.u8 (a : Int)) <$> Rtype.kind t) #[.pointer (some ⟨9, 56, none⟩)]).run Tryz.prog w = .ok (.int .u8 24) w := by kernel_rfl

/-! ### THE ENTRIES THAT READ OR WRITE MEMORY: laws with a premise on the cell (after Derived/Lib/ReflectliteSlice.lean's manner: each unfolding a lemma of its own, by rfl) -/
theorem ea_rlm (z : Sem Value) (f : TypeId → Addr → Nat → Nat → Sem Value) (v : Value) :
    ReflectliteValue.method z f #[v] = (do match ← ReflectliteValue.parts v with | none => z | some (t, a, fl) => f t a fl (fl % 32)) := rfl
theorem ea_parts27 (a : Addr) (w : World) : (ReflectliteValue.parts (.agg #[.pointer (some ⟨9, 58, none⟩), .pointer (some a), .int .u64 150])).run Tryz.prog w = .ok (some (58, a, 150)) w := by kernel_rfl
/-- (Value).IsNil at the Value of a **p.E that is not nil. -/
theorem ea_isNil27 (a p : Addr) (W : World) (ha : W.cell? a = some (.pointer (some p))) :
    (ReflectliteValue.method (ReflectliteValue.valueError "reflectlite.Value.IsNil" 0) ReflectliteValue.isNil #[.agg #[.pointer (some ⟨9, 58, none⟩), .pointer (some a), .int .u64 150]]).run Tryz.prog W = .ok (.bool false) W := by
  rw [ea_rlm]
  simp only [Sem.run_bind, ea_parts27, Result.andThen]
  simp [ReflectliteValue.isNil, loadVar, isAgg, underlying, Tryz.underlying58, ha, Result.andThen]

theorem ea_methodElem (h : Value) (w : World) : (Go.method 357 120 (.agg #[h]) "Elem").run Tryz.prog w = .ok (236, .agg #[h]) w := by kernel_rfl
theorem ea_methodImplements (h : Value) (w : World) : (Go.method 357 120 (.agg #[h]) "Implements").run Tryz.prog w = .ok (237, .agg #[h]) w := by kernel_rfl
theorem ea_methodAssignableTo (h : Value) (w : World) : (Go.method 357 120 (.agg #[h]) "AssignableTo").run Tryz.prog w = .ok (234, .agg #[h]) w := by kernel_rfl
theorem ea_elem27 (w : World) : (ReflectliteType.method ReflectliteType.elem #[.agg #[.pointer (some ⟨9, 58, none⟩)]]).run Tryz.prog w = .ok (.iface 120 (.agg #[.pointer (some ⟨9, 56, none⟩)])) w := by kernel_rfl
theorem ea_implements25 (w : World) : (ReflectliteType.relation "Implements" ReflectliteType.implements_ #[.agg #[.pointer (some ⟨9, 56, none⟩)], .iface 120 (.agg #[.pointer (some ⟨9, 53, none⟩)])]).run Tryz.prog w = .ok (.bool true) w := by kernel_rfl
theorem ea_typeOf25 (v : Value) (w : World) : (ReflectliteType.typeOf #[.iface 56 v]).run Tryz.prog w = .ok (.iface 120 (.agg #[.pointer (some ⟨9, 56, none⟩)])) w := by kernel_rfl
theorem ea_assignable25 (w : World) : (ReflectliteType.relation "AssignableTo" ReflectliteType.assignableTo #[.agg #[.pointer (some ⟨9, 56, none⟩)], .iface 120 (.agg #[.pointer (some ⟨9, 56, none⟩)])]).run Tryz.prog w = .ok (.bool true) w := by kernel_rfl
theorem ea_valueOf25 (e : ByteArray) (w : World) : (ReflectliteValue.unpack (.iface 56 (.string e))).run Tryz.prog w
    = .ok (.agg #[.pointer (some ⟨9, 56, none⟩), .pointer (some ⟨w.heap.size, 0, none⟩), .int .u64 152]) (w.alloc (.cells #[.string e] 56)) := by kernel_rfl

theorem ea_elemOf27 (w : World) : (Rtype.elem? 58).run Tryz.prog w = .ok (some 56) w := by kernel_rfl
theorem ea_mk25 (p : Addr) (w : World) : (ReflectliteValue.mk 56 p ReflectliteValue.flagAddr).run Tryz.prog w = .ok (.agg #[.pointer (some ⟨9, 56, none⟩), .pointer (some p), .int .u64 408]) w := by kernel_rfl
/-- (Value).Elem at the Value of a **p.E that is not nil: the Value of the *p.E variable that it points to, addressable. -/
theorem ea_elemV27 (a p : Addr) (W : World) (ha : W.cell? a = some (.pointer (some p))) :
    (ReflectliteValue.method (ReflectliteValue.valueError "reflectlite.Value.Elem" 0) ReflectliteValue.elem #[.agg #[.pointer (some ⟨9, 58, none⟩), .pointer (some a), .int .u64 150]]).run Tryz.prog W
      = .ok (.agg #[.pointer (some ⟨9, 56, none⟩), .pointer (some p), .int .u64 408]) W := by
  rw [ea_rlm]
  simp only [Sem.run_bind, ea_parts27, Result.andThen]
  simp [ReflectliteValue.elem, loadVar, isAgg, underlying, Tryz.underlying58, ha, Result.andThen, ea_elemOf27, ea_mk25]
theorem ea_rls (v x : Value) : ReflectliteValue.set #[v, x] = (do
    let (some (dst, a, fl), some (src, b, _)) := (← ReflectliteValue.parts v, ← ReflectliteValue.parts x)
      | unsupported (.noEntry "extern/(internal/reflectlite.Value).Set.zeroValue")
    if fl / ReflectliteValue.flagAddr % 2 == 0 then unsupported (.noEntry "extern/(internal/reflectlite.Value).Set.unaddressable")
    let val ← loadVar src b
    if ← Rtype.directlyAssignable dst src then storeVar dst a val
    else if ← Rtype.implements dst src then
      if (← Rtype.kind src) == 20 then
        match val with
        | .nilIface => unsupported (.noEntry "extern/reflectlite: a nil value of one interface type handed on as a value of another")
        | _ => storeVar dst a val
      else storeVar dst a (.iface src val)
    else panicString ("reflectlite.Set: value of type " ++ (← Rtype.spelt src) ++ " is not assignable to type " ++ (← Rtype.spelt dst))
    pure (.tuple #[])) := rfl
theorem ea_parts25a (a : Addr) (w : World) : (ReflectliteValue.parts (.agg #[.pointer (some ⟨9, 56, none⟩), .pointer (some a), .int .u64 408])).run Tryz.prog w = .ok (some (56, a, 408)) w := by kernel_rfl
theorem ea_parts25 (a : Addr) (w : World) : (ReflectliteValue.parts (.agg #[.pointer (some ⟨9, 56, none⟩), .pointer (some a), .int .u64 152])).run Tryz.prog w = .ok (some (56, a, 152)) w := by kernel_rfl
theorem ea_direct25 (w : World) : (Rtype.directlyAssignable 56 56).run Tryz.prog w = .ok true w := by kernel_rfl
theorem ea_size25 (w : World) : (sizeOf 56).run Tryz.prog w = .ok 1 w := by kernel_rfl
/-- (Value).Set: the *p.E variable at 'ta' gets what the Value's own variable 'b' holds. -/
theorem ea_set25 (ta b : Addr) (e : ByteArray) (old : Value) (W : World) (hb : W.cell? b = some (.string e)) (ht : W.cell? ta = some old) (hf : W.frozen? ta = false) :
    (ReflectliteValue.set #[.agg #[.pointer (some ⟨9, 56, none⟩), .pointer (some ta), .int .u64 408], .agg #[.pointer (some ⟨9, 56, none⟩), .pointer (some b), .int .u64 152]]).run Tryz.prog W
      = .ok (.tuple #[]) (W.setCell ta (.string e)) := by
  rw [ea_rls]
  simp only [Sem.run_bind, ea_parts25a, ea_parts25, Result.andThen]
  simp [ReflectliteValue.flagAddr, loadVar, isAgg, underlying, Tryz.underlying56, hb, Result.andThen, ea_direct25, storeVar, Value.cells, storeCells, Addr.add]
  rw [run_store Tryz.prog W ta _ _ (by rfl)]
  simp [ht, hf]

set_option maxHeartbeats 4000000 in
theorem as_hit (e : ByteArray) (t : Addr) (old : Value) (w : World) (hg : w.cell? ⟨0, 0, none⟩ = some (.iface 120 (.agg #[.pointer (some ⟨9, 53, none⟩)]))) (ht0 : w.cell? t = some old) (hf0 : w.frozen? t = false) :
    Calls Tryz.prog 36 #[.iface 56 (.string e), .iface 58 (.pointer (some t))] w fun ev w' => ev = .returned (.bool true) ∧ w' = ((((w.alloc (.cells #[.pointer (some t)] 58)).alloc (.cells #[.pointer (some ⟨9, 58, none⟩), .pointer (some ⟨w.heap.size, 0, none⟩), .int .u64 150] 89)).alloc (.cells #[.pointer (some ⟨9, 58, none⟩), .pointer (some ⟨w.heap.size, 0, none⟩), .int .u64 150] 89)).alloc (.cells #[.string e] 56)).setCell t (.string e) := by
  have h6 := @run_callFunc_extern Tryz.prog 65 _ (fun args => ReflectliteValue.unpack (args.getD 0 (.tuple #[]))) Tryz.func65 (by kernel_rfl) (by kernel_rfl) (by kernel_rfl) (by kernel_rfl)
  have h7 := @run_callFunc_extern Tryz.prog 66 _ (ReflectliteValue.methodAny (ReflectliteValue.valueError "reflectlite.Value.Type" 0) (fun t _ _ _ => ReflectliteType.toType t)) Tryz.func66 (by kernel_rfl) (by kernel_rfl) (by kernel_rfl) (by kernel_rfl)
  have h8 := @run_callFunc_extern Tryz.prog 67 _ (ReflectliteValue.method (ReflectliteValue.valueError "reflectlite.Value.IsNil" 0) ReflectliteValue.isNil) Tryz.func67 (by kernel_rfl) (by kernel_rfl) (by kernel_rfl) (by kernel_rfl)
  have h27 := @run_callFunc_extern Tryz.prog 225 _ (ReflectliteType.abiMethod fun t => do pure (.int .u8 (← Rtype.kind t))) Tryz.func225 (by kernel_rfl) (by kernel_rfl) (by kernel_rfl) (by kernel_rfl)
  have h37 := @run_callFunc_extern Tryz.prog 236 _ (ReflectliteType.method ReflectliteType.elem) Tryz.func236 (by kernel_rfl) (by kernel_rfl) (by kernel_rfl) (by kernel_rfl)
  have h38 := @run_callFunc_extern Tryz.prog 237 _ (ReflectliteType.relation "Implements" ReflectliteType.implements_) Tryz.func237 (by kernel_rfl) (by kernel_rfl) (by kernel_rfl) (by kernel_rfl)
  have h10 := @run_callFunc_extern Tryz.prog 89 _ ReflectliteType.typeOf Tryz.func89 (by kernel_rfl) (by kernel_rfl) (by kernel_rfl) (by kernel_rfl)
  have h35 := @run_callFunc_extern Tryz.prog 234 _ (ReflectliteType.relation "AssignableTo" ReflectliteType.assignableTo) Tryz.func234 (by kernel_rfl) (by kernel_rfl) (by kernel_rfl) (by kernel_rfl)
  have h11 := @run_callFunc_extern Tryz.prog 90 _ (ReflectliteValue.method (ReflectliteValue.valueError "reflectlite.Value.Elem" 0) ReflectliteValue.elem) Tryz.func90 (by kernel_rfl) (by kernel_rfl) (by kernel_rfl) (by kernel_rfl)
  have h12 := @run_callFunc_extern Tryz.prog 91 _ ReflectliteValue.set Tryz.func91 (by kernel_rfl) (by kernel_rfl) (by kernel_rfl) (by kernel_rfl)
  have tO := ea_typeOf25
  have mA := ea_methodAssignableTo
  have a25 := ea_assignable25
  have v25 := ea_valueOf25
  have f6 := ea_valueOf27
  have f7 := ea_type27
  have mK := ea_methodKind
  have mE := ea_methodElem
  have mI := ea_methodImplements
  have k27 := ea_kind27
  have k25 := ea_kind25
  have e27 := ea_elem27
  have i25 := ea_implements25
  have n8 := ea_isNil27 ⟨w.heap.size, 0, none⟩ t ((w.alloc (.cells #[.pointer (some t)] 58)).alloc (.cells #[.pointer (some ⟨9, 58, none⟩), .pointer (some ⟨w.heap.size, 0, none⟩), .int .u64 150] 89)) (by simp)
  have hlt : 0 < w.heap.size := by
    rcases Nat.eq_zero_or_pos w.heap.size with h0 | h
    · simp [World.cell?, h0] at hg
    · exact h
  have hg2 : ((w.alloc (.cells #[.pointer (some t)] 58)).alloc (.cells #[.pointer (some ⟨9, 58, none⟩), .pointer (some ⟨w.heap.size, 0, none⟩), .int .u64 150] 89)).cell? ⟨0, 0, none⟩ = some (.iface 120 (.agg #[.pointer (some ⟨9, 53, none⟩)])) := by
    rw [World.cell?_alloc_lt _ _ ⟨0, 0, none⟩ (by simp), World.cell?_alloc_lt _ _ ⟨0, 0, none⟩ hlt]; exact hg
  have htl : t.block < w.heap.size := by
    rcases Nat.lt_or_ge t.block w.heap.size with h | h
    · exact h
    · simp [World.cell?, Array.getElem?_eq_none h] at ht0
  have el := ea_elemV27 ⟨w.heap.size, 0, none⟩ t (((w.alloc (.cells #[.pointer (some t)] 58)).alloc (.cells #[.pointer (some ⟨9, 58, none⟩), .pointer (some ⟨w.heap.size, 0, none⟩), .int .u64 150] 89)).alloc (.cells #[.pointer (some ⟨9, 58, none⟩), .pointer (some ⟨w.heap.size, 0, none⟩), .int .u64 150] 89)) (by rw [World.cell?_alloc_lt _ _ ⟨w.heap.size, 0, none⟩ (by simp; omega)]; simp)
  have st := ea_set25 t ⟨w.heap.size + 1 + 1 + 1, 0, none⟩ e old ((((w.alloc (.cells #[.pointer (some t)] 58)).alloc (.cells #[.pointer (some ⟨9, 58, none⟩), .pointer (some ⟨w.heap.size, 0, none⟩), .int .u64 150] 89)).alloc (.cells #[.pointer (some ⟨9, 58, none⟩), .pointer (some ⟨w.heap.size, 0, none⟩), .int .u64 150] 89)).alloc (.cells #[.string e] 56))
    (by rw [World.cell?_alloc_at _ _ _ _ (by simp)]; rfl)
    (by rw [World.cell?_alloc_lt _ _ t (by simp; omega), World.cell?_alloc_lt _ _ t (by simp; omega), World.cell?_alloc_lt _ _ t (by simp; omega), World.cell?_alloc_lt _ _ t htl]; exact ht0)
    (by rw [World.frozen?_alloc_old _ _ t (by simp; omega), World.frozen?_alloc_old _ _ t (by simp; omega), World.frozen?_alloc_old _ _ t (by simp; omega), World.frozen?_alloc_old _ _ t (Nat.ne_of_lt htl)]; exact hf0)
  go_enter Tryz.func36, Tryz.ntmps36
  go_wp2
  refine wp_loop_rounds 1 ?_
  rw [rounds_succ]
  go_wp2
  go_ret
  exact ⟨rfl, rfl⟩
end Go.Proofs.YtoaiaindcmihjaaGreatDoor
/-
  errors.As, at a target of the error's own type (from XOA, that wip/tools/genas.py writes): true, and nothing below the target's block has changed.
-/
namespace Go.Proofs.YtoaiaindcmihjaaGreatDoor
open Go.RowKit

/-- What errors.errorType holds: error's own description. -/
abbrev GE (w : World) : Prop := w.cell? ⟨0, 0, none⟩ = some (.iface 120 (.agg #[.pointer (some ⟨9, 53, none⟩)]))
theorem GE.below {w w' : World} (h : GE w) (hb : Below w.heap.size w w') : GE w' := (hb.cell (World.block_lt_of_cell? w _ h)).trans h
theorem as_hitB {B : Nat} (e : ByteArray) (t : Addr) (old : Value) (w : World) (hg : GE w) (ht : w.cell? t = some old) (hf : w.frozen? t = false) (hB : B ≤ t.block) (hw : B ≤ w.heap.size) :
    Calls Tryz.prog 36 #[.iface 56 (.string e), .iface 58 (.pointer (some t))] w fun ev w' => ev = .returned (.bool true) ∧ Below B w w' := by
  refine (as_hit e t old w hg ht hf).mono ?_
  rintro ev w' ⟨rfl, rfl⟩
  refine ⟨rfl, Below.setCell (Below.alloc (Below.alloc (Below.alloc (Below.alloc (Below.refl B w) hw _) ?_ _) ?_ _) ?_ _) hB _⟩ <;> simp [World.size_alloc] <;> omega
end Go.Proofs.YtoaiaindcmihjaaGreatDoor
/-
  impl.namesIn, impl.ReadTree.
-/
namespace Go.Proofs.YtoaiaindcmihjaaGreatDoor
open Go.RowKit

theorem isNoDigit_any (x : Nat) (w : World) (hx : x ≤ 1114111) : Calls Tryz.prog 64 #[.int .i32 (x : Int)] w fun e w' => e = .returned (.bool (isN x)) ∧ w = w' := by
  by_cases h : x < 48
  · have h1 : (x : Int) < 48 := by omega
    have hN : isN x = true := by unfold isN; rw [decide_eq_true h]; rfl
    rw [hN]
    go_enter Tryz.func64, Tryz.ntmps64
    go_wp2
    go_ret
    exact ⟨rfl, rfl⟩
  · have h1 : ¬ (x : Int) < 48 := by omega
    have hN : isN x = decide ((57 : Int) < x) := by unfold isN; rw [decide_eq_false h, Bool.false_or, decide_eq_decide]; omega
    rw [hN]
    go_enter Tryz.func64, Tryz.ntmps64
    go_wp2
    go_ret
    exact ⟨rfl, rfl⟩
theorem isNoDigit_grows (w : World) : PredGrows Tryz.prog 64 #[] isN w := fun W x hx _ =>
  (isNoDigit_any x W hx).mono (by rintro e w' ⟨rfl, rfl⟩; exact ⟨rfl, Below.refl _ _⟩)
/-- The fields of a text, as lists of bytes. -/
noncomputable def Fld (s : List UInt8) : List (List UInt8) := (Go.Lib.goFieldsP isN (B8 s)).map (·.data.toList)
theorem Fld_TXT {l : List Int} (hv : VNm l = true) : Fld (TXT l) = (lvs l 6 0 0).map (fun x => dec x.toNat) := by
  unfold Fld; rw [fields_TXT hv, List.map_map]
  exact List.map_id _
theorem Fld_nil : Fld [] = [] := by
  unfold Fld; rw [fields_ascii [] (fun c h => by cases h)]; rfl
theorem Fld_len (s : List UInt8) : ∀ p ∈ Fld s, p.length ≤ s.length := by
  intro p hp
  unfold Fld Go.Lib.goFieldsP at hp
  rw [List.map_map] at hp
  obtain ⟨x, _, rfl⟩ := List.mem_map.1 hp
  show ((B8 s).extract x.1 x.2).data.toList.length ≤ _
  rw [Go.Lib.extract_data]
  rw [List.length_take, List.length_drop]
  show _ ≤ s.toArray.toList.length
  simp; omega
theorem spans_count (s : ByteArray) : ∀ (f pos : Nat) (st : Option Nat) (acc : List (Nat × Nat)), (Go.Lib.closeSpans s (Go.Lib.spansFromP isN s f pos st acc)).length ≤ acc.length + f + 1 := by
  intro f
  induction f with
  | zero => intro pos st acc; cases st <;> simp [Go.Lib.spansFromP, Go.Lib.closeSpans]
  | succ f ih =>
    intro pos st acc
    simp only [Go.Lib.spansFromP]
    split
    · split
      · cases st with
        | none => exact Nat.le_trans (ih _ _ _) (by omega)
        | some a => exact Nat.le_trans (ih _ _ _) (by simp; omega)
      · cases st with
        | none => exact Nat.le_trans (ih _ _ _) (by omega)
        | some a => exact Nat.le_trans (ih _ _ _) (by omega)
    · cases st <;> simp [Go.Lib.closeSpans] <;> omega
theorem Fld_count (s : List UInt8) : (Fld s).length ≤ s.length + 1 := by
  unfold Fld Go.Lib.goFieldsP Go.Lib.spansOfP
  rw [List.length_map, List.length_map]
  have := spans_count (B8 s) (B8 s).size 0 none []
  have hs : (B8 s).size = s.length := rfl
  simp only [List.length_nil, Nat.zero_add] at this
  omega
theorem fields_any (s : List UInt8) (w : World) (hs : s.length ≤ 400) : Calls Tryz.prog 63 #[.string (B8 s), .func (.func 64) #[] #[]] w fun e w' => (∃ a, e = .returned (.slice a (Fld s).length (Fld s).length) ∧ ReadsX w' a (Fld s)) ∧ Below w.heap.size w w' := by
  have hl : (Fld s).length = (Go.Lib.goFieldsP isN (B8 s)).length := by unfold Fld; rw [List.length_map]
  have c := Any.strings_FieldsFunc_grows Tryz.fieldsA 64 #[] (enters_of Tryz.func64 (by kernel_rfl) rfl) isN (B8 s) w (by show s.length ≤ _; omega) (isNoDigit_grows w) (by kernel_rfl) (by kernel_rfl)
  refine c.mono ?_
  rintro e w' ⟨A, rfl, hA, hrow, hb⟩
  rw [← hl] at hrow ⊢
  refine ⟨⟨_, rfl, ?_⟩, hb⟩
  by_cases h0 : Fld s = []
  · exact .inl h0
  · refine .inr ⟨A, 0, rfl, (World.ownsRow.lt hrow A rfl).2, fun i hi => ?_⟩
    rw [Nat.zero_add, World.ownsRow.cellAt hrow i (by omega)]
    have hi2 : i < (Go.Lib.goFieldsP isN (B8 s)).length := by rw [← hl]; exact hi
    rw [List.getElem?_map, List.getElem?_eq_getElem hi2]
    simp only [Option.map_some]
    congr 2
    simp [Fld, List.getD, hi2]
end Go.Proofs.YtoaiaindcmihjaaGreatDoor
/-
  impl.namesIn, impl.ReadTree.
-/
namespace Go.Proofs.YtoaiaindcmihjaaGreatDoor
open Go.RowKit

/-- The names of a text by its fields. -/
theorem RT_Fld (s : List UInt8) : RT s = match rds (Fld s) with | some N => if TXT (srt N) = s then some (srt N) else none | none => none :=
  RT_fields (fun l hv h => by rw [← h]; exact Fld_TXT hv) (fun h => by rw [h]; exact Fld_nil)
theorem RT_400 {s : List UInt8} (h : 400 < s.length) : RT s = none := by
  unfold RT; rw [if_neg (by omega)]
/-- How namesIn ends: the names, or the error of its own type. -/
def NIn (w w' : World) (e : Ending) (s : List UInt8) : Prop :=
  (∃ v R, e = .returned (.tuple #[v, .nilIface]) ∧ RT s = some R ∧ Own w' w.heap.size v R) ∨ (RT s = none ∧ ∃ S, e = .returned (.tuple #[.slice none 0 0, .iface 56 (.string S)]))
set_option maxHeartbeats 8000000 in
set_option maxRecDepth 100000 in
theorem namesIn_any (s : List UInt8) (w : World) (hG : GN w) : Calls Tryz.prog 35 #[.string (B8 s)] w fun e w' => NIn w w' e s ∧ Below w.heap.size w w' := by
  have hsz := B8_size s
  have hl := B8_list s
  have cf := fun h => fields_any s w h
  have hRT := RT_Fld s
  have hF := Fld_len s
  have hFc := Fld_count s
  obtain ⟨F, hFF⟩ : ∃ F, F = Fld s := ⟨_, rfl⟩
  rw [← hFF] at cf hRT hF hFc
  obtain ⟨S, hS⟩ : ∃ S, S = B8 s := ⟨_, rfl⟩
  rw [← hS] at hsz hl cf ⊢
  obtain ⟨M, hM⟩ : ∃ M, M = s.length := ⟨_, rfl⟩
  rw [← hM] at hsz cf hF hFc
  have HM := Lib.hid hM
  have HRT := Lib.hid hRT
  have HF := Lib.hid hF
  have HFC := Lib.hid hFc
  have HG := Lib.hid hG
  clear hFF hS hM hRT hF hG
  by_cases h400 : M ≤ 400
  rotate_left
  · have h1 : (M : Int) > 400 := by omega
    have hN : RT s = none := RT_400 (by rw [← HM.out]; omega)
    have HN := Lib.hid hN
    clear cf hN
    go_enter Tryz.func35, Tryz.ntmps35
    go_wp2
    go_ret2
    exact ⟨.inr ⟨HN.out, _, rfl⟩, Below.refl _ _⟩
  have h1 : ¬ (M : Int) > 400 := by omega
  have CF := Lib.hid (cf h400)
  clear cf
  go_enter Tryz.func35, Tryz.ntmps35
  go_wp2_with fail
  refine CF.out.mono ?_
  rintro en w1 ⟨⟨a, rfl, rx⟩, b1⟩
  have G1 := HG.out.below b1
  have cn := readNumbers_any a F F.length w1 rx (by omega) (fun p hp => by have := HF.out p hp; omega) G1
  have CN := Lib.hid cn
  have hz1 := b1.size
  obtain ⟨K, hK⟩ : ∃ K, K = F.length := ⟨_, rfl⟩
  rw [← hK] at CN
  rw [← hK]
  clear cn CF rx hFc hK
  go_wp2_with fail
  refine CN.out.mono ?_
  rintro en w2 ⟨v, rfl, o2, b2⟩
  have B2 := b1.trans (b2.mono b1.size)
  clear CN
  cases hN : rds F with
  | none =>
    have hR := HRT.out
    rw [hN] at hR o2
    have HR := Lib.hid hR
    simp only [Option.getD_none] at o2
    have cs := sortI_any v [] w1.heap.size w2 o2 (by simp)
    have CS := Lib.hid cs
    obtain ⟨sa, sc, rfl, _, _, _, _⟩ := o2.form
    rw [show (none : Option (List Int)).isSome = false from rfl]
    clear cs hN hR
    go_wp2_with fail
    refine CS.out.mono ?_
    rintro en w3 ⟨rfl, o3, g3⟩
    have B3 := Below.grownB B2 o2 g3 B2.size hz1
    clear g3 o2 o3 CS
    go_wp2
    go_ret2
    exact ⟨.inr ⟨HR.out, _, rfl⟩, B3⟩
  | some N =>
    have hR := HRT.out
    rw [hN] at hR o2
    simp only at hR
    simp only [Option.getD_some] at o2
    have hNl := rds_len hN
    have hNi := rds_in64 hN
    have hM2 : N.length ≤ 1000 := by rw [hNl]; have := HFC.out; omega
    have HR := Lib.hid hR
    have HNI := Lib.hid (show ∀ x ∈ srt N, In64 x from fun x hx => hNi x (srt_mem.1 hx))
    have hsl := srt_len N
    have cs := sortI_any v N w1.heap.size w2 o2 (by omega)
    have CS := Lib.hid cs
    obtain ⟨sa, sc, rfl, _, hlc, _, _⟩ := o2.form
    rw [show (some N : Option (List Int)).isSome = true from rfl]
    obtain ⟨L, hL⟩ : ∃ L, L = srt N := ⟨_, rfl⟩
    rw [← hL] at hsl HR HNI CS
    have ct := fun wx (h : Reads wx sa L) => implTreeText_e sa L sc wx h HNI.out (by omega) (by omega)
    rw [hsl] at ct
    obtain ⟨T, hT⟩ : ∃ T, T = TXT L := ⟨_, rfl⟩
    rw [← hT] at ct HR
    have hTl := B8_list T
    obtain ⟨ST, hST⟩ : ∃ ST, ST = B8 T := ⟨_, rfl⟩
    rw [← hST] at ct hTl
    have CT := Lib.hid ct
    have HSL := Lib.hid hsl
    clear cs hN hR hNi hNl ct hT hST hL hsl
    go_wp2_with fail
    refine CS.out.mono ?_
    rintro en w3 ⟨rfl, o3, g3⟩
    have B3 := Below.grownB B2 o2 g3 B2.size hz1
    have hz3 := B3.size
    have o3' : Own w3 w1.heap.size (.slice sa L.length sc) L := by rw [HSL.out]; exact o3
    have r3 := o3'.reads
    clear g3 o2 CS o3'
    by_cases hTs : T = s
    · have hR1 : RT s = some L := by rw [HR.out, if_pos hTs]
      have HR1 := Lib.hid hR1
      have hb : (T == s) = true := by rw [hTs]; simp
      have hb2 : (T != s) = false := by rw [hTs]; simp
      clear hTs hR1
      go_wp2_with fail
      refine (CT.out _ r3).mono ?_
      rintro en w4 ⟨rfl, b4⟩
      have B4 := B3.trans (b4.mono B3.size)
      have o4 := (o3.below b4).mono (base' := w.heap.size) hz1
      go_wp2
      go_ret2
      exact ⟨.inl ⟨_, L, rfl, HR1.out, o4⟩, B4⟩
    · have hR1 : RT s = none := by rw [HR.out, if_neg hTs]
      have HR1 := Lib.hid hR1
      have hb : (T == s) = false := by simpa using hTs
      have hb2 : (T != s) = true := by simpa using hTs
      clear hTs hR1
      go_wp2_with fail
      refine (CT.out _ r3).mono ?_
      rintro en w4 ⟨rfl, b4⟩
      have B4 := B3.trans (b4.mono B3.size)
      go_wp2
      go_ret2
      exact ⟨.inr ⟨HR1.out, _, rfl⟩, B4⟩
/-- What ReadTree asks of the world. -/
abbrev GW (w : World) : Prop := GE w ∧ GN w
set_option maxHeartbeats 4000000 in
set_option maxRecDepth 100000 in
theorem implReadTree_e (s : List UInt8) (w : World) (hG : GW w) (_hs : s.length ≤ 9223372036854775807) : Calls Tryz.prog 11 #[.string (B8 s)] w fun e w' => ∃ v, e = .returned (.tuple #[v, .bool (RT s).isSome]) ∧ Own w' w.heap.size v ((RT s).getD []) ∧ Below w.heap.size w w' := by
  have cn := namesIn_any s w hG.2
  obtain ⟨S, hS⟩ : ∃ S, S = B8 s := ⟨_, rfl⟩
  rw [← hS] at cn ⊢
  obtain ⟨R, hR⟩ : ∃ R, R = RT s := ⟨_, rfl⟩
  rw [← hR]
  have HR := Lib.hid hR
  have CN := Lib.hid cn
  have HG := Lib.hid hG
  clear hS hR cn hG
  go_enter Tryz.func11, Tryz.ntmps11
  go_wp2_with fail
  refine CN.out.mono ?_
  rintro en w1 ⟨h, b1⟩
  have hz1 := b1.size
  have E1 := GE.below HG.out.1 b1
  clear CN
  have b2 := b1.alloc hz1 (.cells #[.string ⟨#[]⟩] 56)
  have bb := (Below.refl w1.heap.size w1).alloc (Nat.le_refl _) (.cells #[.string ⟨#[]⟩] 56)
  have hh : (w1.alloc (.cells #[.string ⟨#[]⟩] 56)).heap[w1.heap.size]? = some (.cells #[.string ⟨#[]⟩] 56 (0, 0)) := heap_alloc_new w1 _
  obtain ⟨w2, e2⟩ : ∃ w2, w2 = w1.alloc (.cells #[.string ⟨#[]⟩] 56) := ⟨_, rfl⟩
  rw [← e2] at hh b2 bb
  have hc2 : w2.cell? ⟨w1.heap.size, 0, none⟩ = some (.string ⟨#[]⟩) := by rw [cell_of_row w2 _ 0 _ _ _ hh]; rfl
  have hf2 : w2.frozen? ⟨w1.heap.size, 0, none⟩ = false := frozen_of_row w2 _ 0 _ _ hh
  have E2 := Lib.hid e2
  have G2 := GE.below E1 bb
  have hz2 := b2.size
  rcases h with ⟨v, L, rfl, hRT, o1⟩ | ⟨hRT, X, rfl⟩
  · obtain rfl : R = some L := by rw [HR.out, hRT]
    have o2 := o1.below bb
    have cA := as_nil (.iface 58 (.pointer (some ⟨w1.heap.size, 0, none⟩))) w2
    have CA := Lib.hid cA
    clear e2 hh o1 cA hRT
    go_wp2_with fail
    rw [← E2.out]
    refine CA.out.mono ?_
    rintro en w3 ⟨rfl, rfl⟩
    go_wp2
    go_ret2
    exact ⟨_, rfl, o2, b2⟩
  · obtain rfl : R = none := by rw [HR.out, hRT]
    have cA := as_hitB (B := w1.heap.size) X ⟨w1.heap.size, 0, none⟩ _ w2 G2 hc2 hf2 (Nat.le_refl _) bb.size
    have CA := Lib.hid cA
    clear e2 hh cA hRT
    go_wp2_with fail
    rw [← E2.out]
    refine CA.out.mono ?_
    rintro en w3 ⟨rfl, b3⟩
    have B3 := b1.trans ((bb.trans b3).mono hz1)
    go_wp2
    go_ret2
    exact ⟨_, rfl, Own.nil _ _, B3⟩
end Go.Proofs.YtoaiaindcmihjaaGreatDoor
/-
  The draws of chapter 1 that give homes, and AllLooks' two numbers.
-/
namespace Go.Proofs.YtoaiaindcmihjaaGreatDoor
open Go.RowKit

theorem bytes_of_row {w : World} {a : Option Addr} {len cap : Nat} {zs : List Int}
    (h : (a = none ∧ len = 0 ∧ cap = 0 ∧ zs = []) ∨
      ∃ x, a = some x ∧ len ≤ cap ∧ cap ≤ maxLen ∧ zs.length = cap ∧ (∀ i, i < zs.length → w.cell? (x.add i) = some (.int .u8 (zs.getD i 0))) ∧ ∀ n ∈ zs, (Lit.int .u8 n).wf = true) :
    Bytes w w.heap.size a len ∧ len ≤ 9223372036854775807 ∧ len ≤ cap := by
  rcases h with ⟨rfl, rfl, rfl, rfl⟩ | ⟨x, rfl, h1, h2, h3, h4, h5⟩
  · exact ⟨.inl rfl, by omega, by omega⟩
  · unfold maxLen at h2
    refine ⟨?_, by omega, h1⟩
    by_cases h0 : len = 0
    · exact .inl h0
    · obtain ⟨b, off, spot⟩ := x
      have hc := h4 0 (by omega)
      have hspot : spot = none := by simpa [Addr.add] using World.cell?_spot hc
      subst hspot
      refine .inr ⟨b, off, rfl, ?_, fun i hi => ?_⟩
      · have := World.block_lt_of_cell? w _ hc
        simpa [Addr.add] using this
      · have hm : zs.getD i 0 ∈ zs := by
          have hi2 : i < zs.length := by omega
          simp only [List.getD, List.getElem?_eq_getElem hi2, Option.getD_some]
          exact List.getElem_mem hi2
        have h6 := h5 _ hm
        clear hm
        have h7 := h4 i (by omega)
        rw [Addr.add_lit] at h7
        generalize zs.getD i 0 = y at h6 h7
        refine ⟨y, ?_, ?_, h7⟩
        all_goals (simp [Lit.wf, IntKind.min, IntKind.max, IntKind.signed, IntKind.bits] at h6; omega)

/-- A row of one's own stands above a smaller number too. -/
theorem Own.base {w : World} {base base' : Nat} {v : Value} {l : List Int} (h : Own w base v l) (hb : base' ≤ base) : Own w base' v l := by
  refine ⟨h.1, ?_⟩
  rcases h.2 with h | ⟨g, cap, cur, h1, h2, h3⟩
  · exact .inl h
  · exact .inr ⟨g, cap, cur, h1, Nat.le_trans hb h2, h3⟩

end Go.Proofs.YtoaiaindcmihjaaGreatDoor
