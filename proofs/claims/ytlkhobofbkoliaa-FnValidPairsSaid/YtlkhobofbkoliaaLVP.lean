/-
  laws.FnValidPairs: the walk.
-/
import Derived.Test.YtlkhobofbkoliaaDp
import Derived.Test.YtlkhobofbkoliaaQR
import Derived.Test.YtlkhobofbkoliaaG6
import Derived.Deep.AppendLies
import Derived.Deep.RegionLaw
namespace Go.Proofs.Ytlkhobofbkoliaa
open Go.RowKit

theorem exch_take_succ {l : List (Int × Int)} {k : Nat} (h : k < l.length) : exch (l.take (k + 1)) = exch (l.take k) ++ [(pB l k, pA l k)] := by
  rw [List.take_succ_eq_append_getElem h, pA_eq h, pB_eq h]
  unfold exch
  rw [List.map_append]
  rfl

/-- 'append(s, p)' of one pair, as a step of a region that draws its order. -/
theorem step_pair {wr : World} {ops : Array Oper} {o : Oper} {a : Act} {K : Act → World → Prop} {Q : Exit → Act → World → Prop} {E : Prop} (hgd : o.guard = none) (s x : Operand)
    (ho : o.op = .call { callee := .builtin .append, args := #[s, x], argTypes := #[39, 39] })
    (base : Nat) (v : Value) (l : List (Int × Int)) (y z : Int) (hs : a.eval s = v) (hown : OwnP wr base v l) (H : Nat) (hx : a.eval x = .slice (some ⟨H, 0, none⟩) 1 1) (hH : wr.heap.size = H)
    (hl : l.length < 1000000000000) (hbase : base ≤ wr.heap.size)
    (h : ∀ v' w', OwnP w' base v' (l ++ [(y, z)]) → wr.grownBy w' v.ownBlock → K (a.put o.dst v') w') :
    if Region.wanted o (yielded ops a.tmps) = true then Oper.wp Try.prog o a (wr.alloc (.cells #[.int .i64 y, .int .i64 z] 44)) K Q else E := by
  subst hH
  obtain ⟨i0, hi, hz0, hz1, hz2⟩ := info_parts infoHomes
  refine step_append_lies _ hgd s x 39 ho base 44 i0 (.agg #[.int .i64 0, .int .i64 0]) 2 16 Try.underlying39 hi hz0 hz1 hz2 rfl (by decide) v l.length (flat l) hs (World.ownsRow.alloc hown _) ⟨wr.heap.size, 0, none⟩ 1 1 [.int .i64 y, .int .i64 z] hx rfl pair_cell (fun u hu => by simp at hu; rcases hu with rfl | rfl <;> rfl) (by omega) (by unfold maxLen; omega) (by omega) (by simp; omega) (wr.heap.size + 1) (World.size_alloc _ _) fun g cap w' h1 h2 _ _ => h _ w' ?_ ?_
  · unfold OwnP
    rw [List.length_append, flat_append]
    exact h1
  · refine ⟨h2.os, h2.tape, h2.output, Nat.le_trans (by simp) h2.size, fun k hk hne => ?_⟩
    rw [h2.block k (by simp; omega) hne]; exact Below.heap_alloc _ _ _ hk

set_option maxHeartbeats 4000000 in
set_option maxRecDepth 100000 in
theorem lawFnValidPairs (a : Option Addr) (n cap : Nat) (w : World) (hBy : Bytes w w.heap.size a n) (hn : n ≤ 9223372036854775807) (hc : n ≤ cap) :
    Calls Try.prog 5 #[.slice a n cap] w fun e w' => e = .returned (.bool true) ∧ Below w.heap.size w w' := by
  by_cases hbig : 1048576 < n
  · go_enter Try.func5, Try.ntmps5
    go_wp2
    go_ret
    exact ⟨rfl, Below.refl _ _⟩
  go_enter Try.func5, Try.ntmps5
  go_wp2_with fail
  refine (drawValidPairs_any a n cap w hBy hn hc).mono ?_
  rintro e w1 ⟨m, v, l, rfl, hm, ho, hl, hb⟩
  obtain ⟨av, cv, rfl, hr, _, _, _⟩ := ho.form
  have hm64 : In64 m := by unfold In64; omega
  have z1 := hb.size
  clear ho
  go_wp2_with fail
  refine (implValidPairs_any m _ l _ _ hm64 hr (by omega)).mono ?_
  rintro e w2 ⟨rfl, hb2⟩
  have B2 := hb.trans (hb2.mono z1)
  have z2 := B2.size
  have hr2 := hr.below hb2
  go_wp2_with fail
  refine (specValidPairs_any m _ l _ _ hm64 hr2 (by omega)).mono ?_
  rintro e w3 ⟨rfl, hb3⟩
  have B3 := B2.trans (hb3.mono z2)
  have z3 := B3.size
  have hr3 := hr2.below hb3
  clear hb2 hb3 hr2 B2 hr hb
  by_cases hV : VP m l = true
  · have hex := exch_VP hV
    have hIR := exch_IRm hV
    have HEX := Lib.hid hex
    have HIR := Lib.hid hIR
    have eb : (true != true) = false := by decide
    rw [hV]
    have HV := Lib.hid hV
    have ho0 : OwnP (w3.alloc (.cells #[] 44)) w3.heap.size (.slice (some ⟨w3.heap.size, 0, none⟩) 0 0) (exch (l.take 0)) := OwnP.lit0 w3 _ (Nat.le_refl _)
    have hb0 := (Below.refl w3.heap.size w3).alloc (Nat.le_refl _) (.cells #[] 44)
    clear hV hex hIR
    go_wp2_with fail
    go_loopw [6, 7] (fun v i wr => ∃ k : Nat, k ≤ l.length ∧ i = .int .i64 k ∧ OwnP wr w3.heap.size v (exch (l.take k)) ∧ Below w3.heap.size w3 wr) (fun _ i _ => l.length - (intOf i).toNat)
    case atStart => exact ⟨0, Nat.zero_le _, rfl, ho0, hb0⟩
    case round =>
      clear ho0 hb0
      obtain ⟨k, hk, rfl, ho, hb⟩ := hrel
      have hz := hb.size
      by_cases hlt : k < l.length
      · obtain ⟨b, off, x, y, rfl, hbb, hcx, hcy, hx, hy⟩ := hr3.get hlt
        have c1 : wr.cell? ⟨b, off + k * 2, none⟩ = some (.int .i64 x) := (hb.cell (by exact hbb)).trans hcx
        have c2 : wr.cell? ⟨b, off + k * 2 + 1, none⟩ = some (.int .i64 y) := (hb.cell (by exact hbb)).trans hcy
        have he := exch_take_succ hlt
        rw [hx.out, hy.out] at he
        have HE := Lib.hid he
        have hll : (exch (l.take k)).length ≤ 20 := by rw [exch_len]; simp; omega
        clear hcx hcy he hx hy
        go_wp2
        go_region_law (refine step_pair rfl (.tmp 40) (.tmp 52) rfl w3.heap.size u6 (exch (l.take k)) y x rfl (show OwnP wr.drew _ _ _ from ho) _ rfl rfl (by omega) (by exact hz) ?_; intro v' w5 ho5 hg5)
        all_goals
          have hb5 : Below w3.heap.size w3 w5 := Below.grownP (hb.drew) (show OwnP wr.drew _ _ _ from ho) hg5 (by exact hz) (Nat.le_refl _)
          rw [← HE.out] at ho5
          clear hg5 ho hb
          go_wp2
          go_roundw
          case rel => exact ⟨k + 1, by omega, by go_num, ho5, hb5⟩
          case measure => simp [intOf]; omega
      · obtain rfl : k = l.length := by omega
        rw [List.take_length] at ho
        obtain ⟨a6, c6, rfl, hr6, _, _, _⟩ := ho.form
        have B4 := B3.trans (hb.mono z3)
        have z4 := B4.size
        have hr4 := hr3.below hb
        have c7 := implValidPairs_any m a6 (exch l) c6 wr hm64 hr6 (by rw [exch_len]; omega)
        rw [HEX.out, exch_len] at c7
        go_wp2_with fail
        rw [exch_len]
        refine c7.mono ?_
        rintro e w6 ⟨rfl, hb6⟩
        have B6 := B4.trans (hb6.mono z4)
        have z6 := B6.size
        have hr7 := hr6.below hb6
        have hr8 := hr4.below hb6
        have c8 := implIsRoomy_any m a6 (exch l) c6 w6 hm64 hr7 (by rw [exch_len]; omega)
        rw [HIR.out, exch_len] at c8
        clear c7 hb6
        go_wp2_with fail
        refine c8.mono ?_
        rintro e w7 ⟨rfl, hb7⟩
        have B7 := B6.trans (hb7.mono z6)
        have z7 := B7.size
        have hr9 := hr8.below hb7
        clear c8 hb7
        go_wp2_with fail
        refine (implIsRoomy_any m av l cv w7 hm64 hr9 (by omega)).mono ?_
        rintro e w8 ⟨rfl, hb8⟩
        have B8 := B7.trans (hb8.mono z7)
        go_wp2
        go_ret
        exact ⟨ret_bool (by simp), B8⟩
  · have eV : VP m l = false := by simpa using hV
    rw [eV]
    have HV := Lib.hid eV
    clear hV eV
    have eb : (false != false) = false := by decide
    have ec : (false == false) = true := by decide
    go_wp2_with fail
    refine (specValidPairs_any m _ l _ _ hm64 hr3 (by omega)).mono ?_
    rintro e w4 ⟨rfl, hb4⟩
    rw [HV.out]
    go_wp2
    go_ret
    exact ⟨rfl, B3.trans (hb4.mono z3)⟩
end Go.Proofs.Ytlkhobofbkoliaa
