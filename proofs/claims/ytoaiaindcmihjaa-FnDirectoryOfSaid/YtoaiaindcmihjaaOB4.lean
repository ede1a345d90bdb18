/-
  slices.Grow and slices.Concat of two slices of buckets.
-/
import Derived.Test.YtoaiaindcmihjaaBk
import Derived.Lib.AppendZerosOnto
import Derived.Lib.AppendZeros
namespace Go.Proofs.Ytoaiaindcmihjaa
open Go.RowKit

/-- A row of the cells of buckets, of the call's own. -/
def RwB (w : World) (base : Nat) (v : Value) (cs : List Bc) : Prop := w.ownsRow base 30 3 v cs.length (flat3 cs)
/-- The slice reads as the cells of buckets. -/
def RdB (w : World) (a : Option Addr) (cs : List Bc) : Prop := ∃ b off, a = some ⟨b, off, none⟩ ∧ b < w.heap.size ∧ ∀ j u, (flat3 cs)[j]? = some u → w.cell? ⟨b, off + j, none⟩ = some u
theorem RdB.below {w w' : World} (h : Below w.heap.size w w') {a : Option Addr} {cs : List Bc} (hc : RdB w a cs) : RdB w' a cs := by
  obtain ⟨b, off, ha, hb, hc⟩ := hc
  exact ⟨b, off, ha, Nat.lt_of_lt_of_le hb h.size, fun j u hu => (h.cell (p := ⟨b, off + j, none⟩) hb).trans (hc j u hu)⟩
def SlB (cs : List Bc) : Prop := ∀ c ∈ cs, ∃ a n C, c.2.2 = .slice a n C
theorem flat3_one {cs : List Bc} (h : SlB cs) : ∀ u ∈ flat3 cs, u.oneCell' = true := by
  intro u hu
  unfold flat3 at hu
  rw [List.mem_flatMap] at hu
  obtain ⟨c, hc, hu⟩ := hu
  obtain ⟨a, n, C, e⟩ := h c hc
  simp only [List.mem_cons, List.not_mem_nil, or_false] at hu
  rcases hu with rfl | rfl | rfl
  · rfl
  · rfl
  · rw [e]; rfl
theorem RwB.lt {w : World} {base : Nat} {v : Value} {cs : List Bc} (h : RwB w base v cs) : ∀ k, v.ownBlock = some k → base ≤ k ∧ k < w.heap.size := World.ownsRow.lt h
theorem RwB.below {w w' : World} {base : Nat} {v : Value} {cs : List Bc} (hb : Below w.heap.size w w') (h : RwB w base v cs) : RwB w' base v cs := by
  have hg : w.grownBy w' none := ⟨hb.os, hb.tape, hb.output, hb.size, fun i hi _ => hb.block i hi⟩
  refine World.ownsRow.kept h hg ?_
  cases v.ownBlock with
  | none => exact .inl rfl
  | some k => exact .inr (by simp)
/-- An own row of buckets, none among them not, at the head of a block. -/
theorem RwB.form {w : World} {base : Nat} {v : Value} {cs : List Bc} (h : RwB w base v cs) (h0 : cs ≠ []) : ∃ g C, v = .slice (some ⟨g, 0, none⟩) cs.length C ∧ cs.length ≤ C ∧ RdB w (some ⟨g, 0, none⟩) cs := by
  have h' := h
  have hne : cs.length ≠ 0 := fun e => h0 (List.eq_nil_of_length_eq_zero e)
  rcases h.2 with ⟨_, e⟩ | ⟨g, cap, cur, rfl, hbg, hg, hnc, r⟩
  · exact absurd e hne
  · exact ⟨g, cap, rfl, hnc, g, 0, rfl, (Array.getElem?_eq_some_iff.1 hg).1, fun j u hu => by
      have hj : j < (flat3 cs).length := (List.getElem?_eq_some_iff.1 hu).1
      rw [flat3_len] at hj
      rw [Nat.zero_add, World.ownsRow.cellAt h' j hj]; exact hu⟩
/-- 'append(s, t...)' of buckets onto a row of the call's own. -/
theorem push_bks {wr : World} {ops : Array Oper} {rest : List Oper} {o : Oper} {a : Act} {Q : Exit → Act → World → Prop} (hgd : o.guard = none) (s x : Operand)
    (ho : o.op = .call { callee := .builtin .append, args := #[s, x], argTypes := #[26, 26] })
    (base : Nat) (v : Value) (K : Nat) (cs : List Bc) (hK : cs.length = K) (hs : a.eval s = v) (hown : RwB wr base v cs) (ax : Option Addr) (cs2 : List Bc) (n C : Nat) (hn : cs2.length = n) (hx : a.eval x = .slice ax n C) (hr : RdB wr ax cs2) (h1 : SlB cs2)
    (hl : K < 1000000) (hl2 : n < 1000000) (hbase : base ≤ wr.heap.size)
    (h : ∀ v' w', RwB w' base v' (cs ++ cs2) → wr.grownBy w' v.ownBlock → wpList Try.prog ops Q rest (a.put o.dst v') w') :
    wpList Try.prog ops Q (o :: rest) a wr := by
  obtain ⟨b, off, rfl, hb, hc⟩ := hr
  subst hn
  subst hK
  obtain ⟨i0, hi, hz0, hz1, hz2⟩ := info_parts infoBucket
  refine wpList_append_own _ hgd s x 26 ho base 30 i0 (.agg #[.int .i64 0, .int .i64 0, .slice none 0 0]) 3 40 Try.underlying26 hi hz0 hz1 hz2 rfl (by decide) v cs.length (flat3 cs) hs hown ⟨b, off, none⟩ cs2.length C (flat3 cs2) hx (flat3_len cs2) (fun j u hu => by rw [Addr.add_lit]; exact hc j u hu) (flat3_one h1) (by unfold maxLen; omega) (by omega) hbase fun v' w' g1 g2 _ => ?_
  refine h v' w' ?_ g2
  unfold RwB
  rw [List.length_append, flat3_append]; exact g1
set_option maxRecDepth 100000 in
set_option maxHeartbeats 2000000 in
theorem growB_any (n : Nat) (w : World) (h1 : 1 ≤ n) (hn : n ≤ 200000) :
    Calls Try.prog 67 #[.slice none 0 0, .int .i64 (n : Int)] w fun e w' => ∃ v G, e = .returned v ∧ v = .slice (some ⟨w.heap.size, 0, none⟩) 0 G ∧ RwB w' w.heap.size v [] ∧ Below w.heap.size w w' := by
  obtain ⟨i0, hi, hz0, hz1, hz2⟩ := info_parts infoBucket
  have hold : (Builtin.firstCells i0.size 0 (.slice none 0 0)).run Try.prog w.drew = .ok ([] : List Value).toArray w.drew := by
    rw [hz1]; simp [Builtin.firstCells, loadCells, loadCellsFrom]
  have hrz := fun ty => Lib.run_append_grow_zeros (P := Try.prog) w 26 3 ty 30 i0 (.agg #[.int .i64 0, .int .i64 0, .slice none 0 0]) .i64 .i64 Try.underlying26 Try.underlying3 hi hz0 none 0 0 [] hold n (by omega) (by rw [hz1]; omega) (by omega) (by omega) (by rw [hz2]; omega) (by rw [hz2]; exact growslice_fits (by omega) (by omega))
  simp only [Nat.zero_add] at hrz
  have hGn := grownCap_ge w n 0 30
  have hGm := grownCap_le_maxLen w n 0 30 (by unfold maxLen; omega)
  obtain ⟨G, hG⟩ : ∃ G, G = grownCap w n 0 30 := ⟨_, rfl⟩
  rw [← hG] at hrz hGn hGm
  obtain ⟨CC, hCC⟩ : ∃ CC, CC = (([] : List Value).toArray ++ Builtin.zeroCells (Value.agg #[.int .i64 0, .int .i64 0, .slice none 0 0]).cells n ++ Builtin.zeroCells (Value.agg #[.int .i64 0, .int .i64 0, .slice none 0 0]).cells (G - n)) := ⟨_, rfl⟩
  have hCs : CC.size = G * 3 := by rw [hCC]; simp only [Array.size_append, size_zeroCells]; simp [Value.cells]; omega
  rw [← hCC] at hrz
  have hown : RwB (w.drew.alloc (.cells CC 30)) w.heap.size (.slice (some ⟨w.heap.size, 0, none⟩) 0 G) [] :=
    ⟨rfl, .inr ⟨w.heap.size, G, CC, rfl, Nat.le_refl _, heap_alloc_new w.drew _, Nat.zero_le _, hGm, by omega, by simp [flat3]⟩⟩
  have hB : Below w.heap.size w (w.drew.alloc (.cells CC 30)) := (Below.refl w.heap.size w).drew.alloc (Nat.le_refl _) _
  have hG63 : G ≤ 9223372036854775807 := hGm
  have g1 : ¬ (n : Int) < 0 := by omega
  have g2 : (n : Int) > 0 := by omega
  have HO := Lib.hid hown
  have HB := Lib.hid hB
  clear hold hG hCC hCs hown hB
  go_enter Try.func67, Try.ntmps67
  go_wp2_with (at_builtin; refine Lib.wpList_append_run _ rfl _ _ _ _ rfl _ _ rfl rfl _ _ (hrz _) ?_)
  go_ret
  exact ⟨_, rfl, ⟨G, rfl⟩, HO.out, HB.out⟩
set_option maxHeartbeats 8000000 in
set_option maxRecDepth 100000 in
theorem concatB_any (gs : Nat) (a1 : Option Addr) (l1 : List Bc) (c1 : Nat) (a2 : Option Addr) (l2 : List Bc) (c2 : Nat) (w : World) (hr1 : RdB w a1 l1) (hr2 : RdB w a2 l2) (hs1 : SlB l1) (hs2 : SlB l2) (h11 : 1 ≤ l1.length) (hl1 : l1.length ≤ 1000) (hl2 : l2.length ≤ 1000)
    (hc0 : w.cell? ⟨gs, 0, none⟩ = some (.slice a1 l1.length c1)) (hc1 : w.cell? ⟨gs, 1, none⟩ = some (.slice a2 l2.length c2)) :
    Calls Try.prog 61 #[.slice (some ⟨gs, 0, none⟩) 2 2] w fun e w' => ∃ v, e = .returned v ∧ RwB w' w.heap.size v (l1 ++ l2) ∧ Below w.heap.size w w' := by
  have hgs := World.block_lt_of_cell? w _ hc0
  obtain ⟨N, hN⟩ : ∃ N, N = l1.length := ⟨_, rfl⟩
  obtain ⟨M, hM⟩ : ∃ M, M = l2.length := ⟨_, rfl⟩
  have e1 : IntKind.i64.wrap ((N : Int)) = (N : Int) := IntWalk.i64_in _ (by omega)
  have e2 : IntKind.i64.wrap ((N : Int) + (M : Int)) = ((N + M : Nat) : Int) := by rw [IntWalk.i64_in _ (by omega)]; rfl
  have CG := Lib.hid (growB_any (N + M) w (by omega) (by omega))
  obtain ⟨N1, hN1⟩ : ∃ N1, N1 = N + M := ⟨_, rfl⟩
  rw [← hN1] at CG e2
  rw [← hN] at hc0 h11 hl1
  rw [← hM] at hc1 hl2
  have HN := Lib.hid hN
  have HM := Lib.hid hM
  have hN1b : N1 ≤ 3000 := by omega
  clear hN hM hN1
  go_enter Try.func61, Try.ntmps61
  go_wp2
  go_loop [3, 11] (fun sv iv => (iv = .int .i64 0 ∧ sv = .int .i64 0) ∨ (iv = .int .i64 1 ∧ sv = .int .i64 N) ∨ (iv = .int .i64 2 ∧ sv = .int .i64 N1)) (fun _ iv => 2 - (intOf iv).toNat)
  case atStart => exact .inl ⟨rfl, rfl⟩
  case round =>
    rcases hrel with ⟨rfl, rfl⟩ | ⟨rfl, rfl⟩ | ⟨rfl, rfl⟩
    · go_wp2
      go_round
      case rel => exact .inr (.inl ⟨rfl, rfl⟩)
      case measure => simp [intOf]
    · go_wp2
      go_round
      case rel => exact .inr (.inr ⟨rfl, rfl⟩)
      case measure => simp [intOf]
    · go_wp2_with fail
      refine CG.out.mono ?_
      rintro e w1 ⟨v, G, rfl, rfl, ho, b1⟩
      have c0 := (b1.cell (p := ⟨gs, 0, none⟩) hgs).trans hc0
      have c1' := (b1.cell (p := ⟨gs, 1, none⟩) hgs).trans hc1
      go_wp2_with fail
      go_loopw [6, 27] (fun vv iv wr => ∃ a3 c3 L, vv = .slice a3 L.length c3 ∧ RwB wr w.heap.size (.slice a3 L.length c3) L ∧ Below w.heap.size w wr ∧ ((iv = .int .i64 0 ∧ Hid (L = [])) ∨ (iv = .int .i64 1 ∧ Hid (L = l1)) ∨ (iv = .int .i64 2 ∧ Hid (L = l1 ++ l2)))) (fun _ iv _ => 2 - (intOf iv).toNat)
      case atStart => exact ⟨_, G, [], rfl, ho, b1, .inl ⟨rfl, rfl⟩⟩
      case round =>
        clear ho b1 c0 c1'
        obtain ⟨a3, c3, L, rfl, ho, hB, hcase⟩ := hrel
        have c0 := (hB.cell (p := ⟨gs, 0, none⟩) hgs).trans hc0
        have c1' := (hB.cell (p := ⟨gs, 1, none⟩) hgs).trans hc1
        obtain ⟨K, hK⟩ : ∃ K, K = L.length := ⟨_, rfl⟩
        rw [← hK] at ho
        rw [← hK]
        rcases hcase with ⟨rfl, hL⟩ | ⟨rfl, hL⟩ | ⟨rfl, hL⟩
        · have hKs : K < 1000000 := by rw [hK, hL.out]; simp
          have HKK := Lib.hid hK
          clear hK
          go_wp2_with (at_builtin; refine push_bks rfl _ _ rfl w.heap.size (.slice a3 K c3) K L HKK.out.symm rfl ho a1 l1 N c1 HN.out.symm rfl (hr1.below hB) hs1 hKs (by omega) hB.size ?_)
          intro v2 w2 ho2 g2
          have b2 := hB.grown g2 hB.size (fun k hk => (RwB.lt ho k hk).1)
          have hLL : L ++ l1 = l1 := by rw [hL.out]; rfl
          rw [hLL] at ho2
          obtain ⟨g5, C5, rfl, _, _⟩ := ho2.form (fun e => by rw [e] at HN; have := HN.out; simp at this; omega)
          have HO2 := Lib.hid ho2
          clear hLL ho2
          go_wp2
          go_roundw
          case rel => exact ⟨_, _, l1, rfl, HO2.out, b2, .inr (.inl ⟨rfl, rfl⟩)⟩
          case measure => simp [intOf]
        · have hKs : K < 1000000 := by rw [hK, hL.out, ← HN.out]; omega
          have HKK := Lib.hid hK
          clear hK
          go_wp2_with (at_builtin; refine push_bks rfl _ _ rfl w.heap.size (.slice a3 K c3) K L HKK.out.symm rfl ho a2 l2 M c2 HM.out.symm rfl (hr2.below hB) hs2 hKs (by omega) hB.size ?_)
          intro v2 w2 ho2 g2
          have b2 := hB.grown g2 hB.size (fun k hk => (RwB.lt ho k hk).1)
          have hLL : L ++ l2 = l1 ++ l2 := by rw [hL.out]
          rw [hLL] at ho2
          obtain ⟨g5, C5, rfl, _, _⟩ := ho2.form (fun e => by have := congrArg List.length e; rw [List.length_append, ← HN.out] at this; simp at this; omega)
          have HO2 := Lib.hid ho2
          clear hLL ho2
          go_wp2
          go_roundw
          case rel => exact ⟨_, _, l1 ++ l2, rfl, HO2.out, b2, .inr (.inr ⟨rfl, rfl⟩)⟩
          case measure => simp [intOf]
        · rw [hL.out] at ho
          clear hK
          go_wp2
          go_ret
          exact ⟨_, rfl, ho, hB⟩
end Go.Proofs.Ytoaiaindcmihjaa
