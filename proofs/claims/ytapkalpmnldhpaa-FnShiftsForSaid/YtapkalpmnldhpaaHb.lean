/-
  impl.shiftAll.
-/
import Derived.Test.YtapkalpmnldhpaaHa
import Derived.Deep.AppendLies
import Derived.Deep.RegionHeld3
import Derived.Deep.MidRow
namespace Go.Proofs.Ytapkalpmnldhpaa
open Go.RowKit

theorem ReadsS.tail {w : World} {b off : Nat} {x : List Int} {ts : List (List Int)} (h : ReadsS w (some ⟨b, off, none⟩) (x :: ts)) : ReadsS w (some ⟨b, off + 1, none⟩) ts := by
  rcases h with h | ⟨b', off', e, hb, hc⟩
  · cases h
  · cases e
    refine .inr ⟨b, off + 1, rfl, hb, fun r hr => ?_⟩
    obtain ⟨A, C, h1, h2, h3⟩ := hc (r + 1) (by simp; omega)
    have e2 : tr (x :: ts) (r + 1) = tr ts r := by simp [tr, List.getD]
    rw [e2] at h1 h2 h3
    exact ⟨A, C, by rw [← h1]; congr 2; omega, h2, h3⟩

/-- 'append([]int{s}, r...)'. -/
theorem cons_int {wr : World} {ops : Array Oper} {rest : List Oper} {o : Oper} {a : Act} {Q : Exit → Act → World → Prop} (hgd : o.guard = none) (s x : Operand)
    (ho : o.op = .call { callee := .builtin .append, args := #[s, x], argTypes := #[24, 24] })
    (y : Int) (base : Nat) (vr : Value) (l : List Int) (hs : a.eval s = .slice (some ⟨wr.heap.size, 0, none⟩) 1 1) (hx : a.eval x = vr) (hown : Own wr base vr l) (h0 : l ≠ []) (hl : l.length < 1000000)
    (h : ∀ v' w', Own w' wr.heap.size v' (y :: l) → Below wr.heap.size wr w' → wpList Try.prog ops Q rest (a.put o.dst v') w') :
    wpList Try.prog ops Q (o :: rest) a (wr.alloc (.cells #[.int .i64 y] 3)) := by
  obtain ⟨i0, hi, hz0, hz1, hz2⟩ := info_parts infoInt
  obtain ⟨g, cap, rfl, hT⟩ := hown.tab (fun e => h0 (List.eq_nil_of_length_eq_zero e))
  have hlit : Own (wr.alloc (.cells #[.int .i64 y] 3)) wr.heap.size (.slice (some ⟨wr.heap.size, 0, none⟩) 1 1) [y] := World.ownsRow_lit wr #[.int .i64 y] 1 (Nat.le_refl _) (by unfold maxLen; omega) rfl
  have hbl := hT.block
  refine wpList_append_own _ hgd s x 24 ho wr.heap.size 3 i0 (.int .i64 0) 1 8 Try.underlying24 hi hz0 hz1 hz2 rfl (by decide) _ 1 _ hs hlit ⟨g, 0, none⟩ l.length cap (l.map (Value.int .i64)) hx (by simp) ?c1 (ints_oneCell _ _) ?c3 ?c4 ?c5 fun v' w' h1 h2 _ => h v' w' ?_ ?_
  case c1 =>
    intro j u hu
    have hj : j < l.length := by simpa using (List.getElem?_eq_some_iff.1 hu).1
    rw [getD_map hj] at hu
    obtain rfl := Option.some.inj hu
    obtain ⟨q, hc, hq⟩ := hT.get hj
    rw [Addr.add_lit, World.cell?_alloc_past _ _ _ hbl.2, Nat.zero_add, hc, ← hq.out]
  case c3 => unfold maxLen; omega
  case c4 => omega
  case c5 => simp
  · unfold Own
    rw [List.length_cons, Nat.add_comm]
    exact h1
  · exact ((Below.refl _ _).alloc (Nat.le_refl _) _).grown h2 (by simp) (fun q hq => by simp [Value.ownBlock] at hq; omega)

/-- All numbers of the buckets are slots. -/
def Fine (M : Nat) (ts : List (List Int)) : Prop := ∀ r, r < ts.length → (tr ts r).length ≤ 100 ∧ ∀ i, i < (tr ts r).length → 0 ≤ (tr ts r).getD i 0 ∧ (tr ts r).getD i 0 < M
theorem Fine.tail {M : Nat} {x : List Int} {ts : List (List Int)} (h : Fine M (x :: ts)) : Fine M ts := by
  intro r hr
  have := h (r + 1) (by simp; omega)
  have e2 : tr (x :: ts) (r + 1) = tr ts r := by simp [tr, List.getD]
  rwa [e2] at this
theorem Fine.head {M : Nat} {x : List Int} {ts : List (List Int)} (h : Fine M (x :: ts)) : x.length ≤ 100 ∧ ∀ i, i < x.length → 0 ≤ x.getD i 0 ∧ x.getD i 0 < M := by
  have := h 0 (by simp)
  have e2 : tr (x :: ts) 0 = x := by simp [tr, List.getD]
  rwa [e2] at this

/-- shiftAll's answer. -/
def Shifted (w w' : World) (e : Ending) (o : Option (List Int)) : Prop := ∃ v, e = .returned (.tuple #[v, .bool o.isSome]) ∧ Own w' w.heap.size v (o.getD []) ∧ (o.getD [] = [] → v = .slice none 0 0) ∧ Below w.heap.size w w'


theorem range_new (w : World) (t : Nat) (cs : List Value) : (w.alloc (.cells cs.toArray t)).rangeAt w.heap.size 0 cs := fun j v hv => by
  rw [cell_of_row _ _ _ _ _ _ (heap_alloc_new w _)]
  simpa using hv
theorem range_below {B : Nat} {w w' : World} {b o : Nat} {cs : List Value} (h : Below B w w') (hb : b < B) (hr : w.rangeAt b o cs) : w'.rangeAt b o cs := fun j v hv => (h.cell (p := ⟨b, o + j, none⟩) hb).trans (hr j v hv)
theorem there_of {w : World} {t g : Nat} {l : List Bool} (h : BArr w t g l) {n : Nat} (hn : n ≤ l.length) : w.there g 0 n := fun j hj => by
  refine ⟨?_, frozen_of_row w g _ _ t h⟩
  rw [cell_of_row w g _ _ t _ h]
  simp
  omega
theorem cell_alloc_keep {w : World} {p : Addr} {v : Value} (h : w.cell? p = some v) (o : Obj) : (w.alloc o).cell? p = some v := by
  rw [World.cell?_alloc_lt _ _ _ (World.block_lt_of_cell? w _ h)]; exact h
theorem cell_set_keep {w : World} {b o : Nat} {v : Value} (h : w.cell? ⟨b, o, none⟩ = some v) (g k : Nat) (vs : List Value) (hne : b ≠ g) : (w.setCells g k vs).cell? ⟨b, o, none⟩ = some v := by
  rw [World.cell?_setCells_out g vs k w ⟨b, o, none⟩ (fun hb _ => absurd hb hne)]; exact h
theorem below_sets {B : Nat} {a : World} (g : Nat) (hg : B ≤ g) : ∀ (vs : List Value) (k : Nat) (w : World), Below B a w → Below B a (w.setCells g k vs)
  | [], _, _, h => h
  | v :: r, k, w, h => by
    rw [World.setCells]
    exact below_sets g hg r (k + 1) _ (h.setCell (p := ⟨g, k, none⟩) hg v)
theorem size_sets (g : Nat) : ∀ (vs : List Value) (k : Nat) (w : World), (w.setCells g k vs).heap.size = w.heap.size
  | [], _, _ => rfl
  | v :: r, k, w => by
    rw [World.setCells, size_sets g r (k + 1)]
    simp
theorem bools_oneCell {av : List Value} {T : List Bool} (h : av = T.map Value.bool) : ∀ v ∈ av, v.oneCell' = true := fun v hv => by
  subst h
  obtain ⟨q, _, rfl⟩ := List.mem_map.1 hv
  rfl

/-- What takeSlots answers. -/
def Got (M s : Nat) (l : List Int) (T : List Bool) (av : List Value) (ok : Bool) : Prop := ∃ T', av = T'.map Value.bool ∧ T'.length = 10 ∧ ((ok = true ∧ tryS M s l T = some T') ∨ (ok = false ∧ tryS M s l T = none))
theorem takeSlots_raw (M s : Nat) (al : Option Addr) (l : List Int) (cap : Nat) (cs : List Value) (T : List Bool) (hcs : cs = T.map Value.bool) (w : World) (h1 : 1 ≤ M) (h2 : M ≤ 10) (hs : s < M) (hr : Reads w al l) (hl : l.length ≤ 100) (hf : ∀ i, i < l.length → 0 ≤ l.getD i 0 ∧ l.getD i 0 < M) (hT : T.length = 10) :
    Calls Try.prog 83 #[.int .i64 M, .slice al l.length cap, .int .i64 s, .agg cs.toArray] w fun e w' => ∃ (av : List Value) (ok : Bool), e = .returned (.tuple #[.agg av.toArray, .bool ok]) ∧ Got M s l T av ok ∧ Below w.heap.size w w' := by
  subst hcs
  refine (takeSlots_any M s al l cap T w h1 h2 hs hr hl hf hT).mono ?_
  rintro e w' ⟨T', ok, rfl, hT', hc, hb⟩
  exact ⟨_, ok, rfl, ⟨T', rfl, hT', hc⟩, hb⟩

set_option maxHeartbeats 16000000 in
set_option maxRecDepth 20000 in
theorem shiftAll_raw (M : Nat) (h1 : 1 ≤ M) (h2 : M ≤ 10) : ∀ (ts : List (List Int)) (a : Option Addr) (cap : Nat) (cs : List Value) (T : List Bool) (w : World), cs = T.map Value.bool → T.length = 10 → ReadsS w a ts → ts.length ≤ cap → ts.length ≤ 10 → Fine M ts →
    Calls Try.prog 72 #[.int .i64 M, .slice a ts.length cap, .agg cs.toArray] w fun e w' => Shifted w w' e (shf M ts T) := by
  intro ts
  induction ts with
  | nil =>
    intro a cap cs T w hcs _ _ _ _ _
    clear hcs
    have b0 := (Below.refl w.heap.size w).alloc (Nat.le_refl _) (.cells cs.toArray 73)
    go_enter Try.func72, Try.ntmps72
    go_wp2
    go_ret2
    exact ⟨_, rfl, Own.nil _ _, fun _ => rfl, b0⟩
  | cons x bs ih =>
    intro a cap cs T w hcs hT hr hcap h10 hF
    obtain ⟨b, off, A, C, rfl, hbb, hc, hrow, hrc⟩ := hr.get (r := 0) (by simp)
    have e0 : tr (x :: bs) 0 = x := by simp [tr, List.getD]
    rw [e0] at hc hrow hrc
    have hc' : w.cell? ⟨b, off, none⟩ = some (.slice A x.length C) := by simpa using hc
    obtain ⟨f1, f2⟩ := hF.head
    have x0 : (w.alloc (.cells cs.toArray 73)).rangeAt w.heap.size 0 cs := range_new w _ cs
    have b0 := (Below.refl w.heap.size w).alloc (Nat.le_refl _) (.cells cs.toArray 73)
    have z0 : w.heap.size < (w.alloc (.cells cs.toArray 73)).heap.size := by simp
    obtain ⟨w1, e1⟩ : ∃ w1, w1 = w.alloc (.cells cs.toArray 73) := ⟨_, rfl⟩
    rw [← e1] at x0 b0 z0
    have E1 := Lib.hid e1
    have HF := Lib.hid hF
    have HR := Lib.hid hr
    have HIH := Lib.hid ih
    have HS := Lib.hid (shf_cons M x bs T)
    have HTT := Lib.hid hT
    have HCS := Lib.hid hcs
    have hlen : cs.length = 10 := by rw [hcs, List.length_map, hT]
    have HLEN := Lib.hid hlen
    have hone := bools_oneCell hcs
    obtain ⟨N, hN⟩ : ∃ N, N = (x :: bs).length := ⟨_, rfl⟩
    have hNb : N = bs.length + 1 := by rw [hN]; simp
    rw [← hN] at hcap h10 ⊢
    have HN := Lib.hid hNb
    have hd0 : ((N : Int) == 0) = false := by simp; omega
    have hN0 : (0 : Int) < (N : Int) := by omega
    have hN1 : (1 : Int) ≤ (N : Int) := by omega
    have hNc : (N : Int) ≤ (cap : Int) := by omega
    have hN2 : 0 < N := by omega
    have hN3 : 1 ≤ N := by omega
    have hu := und_b10
    have hi1 : (Try.prog.info? 73).map (·.size) = some cs.length := by rw [hlen]; exact inf_b10
    clear e1 hr hF ih hT hc hN hNb e0 hcs hlen
    go_enter Try.func72, Try.ntmps72
    go_wp2_with fail
    rw [← E1.out]
    go_loopw [8, 17] (fun _ i wr => ∃ s : Nat, s ≤ M ∧ i = .int .i64 s ∧ Hid (∀ q, q < s → shs M x bs T q = none) ∧ wr.rangeAt w.heap.size 0 cs ∧ w.heap.size < wr.heap.size ∧ Below w.heap.size w wr) (fun _ i _ => M - (intOf i).toNat)
    case atStart => exact ⟨0, Nat.zero_le _, rfl, fun q hq => by omega, x0, z0, b0⟩
    case round =>
      clear x0 b0 E1 z0
      obtain ⟨s, hs, rfl, hno, hX, hXlt, hB⟩ := hrel
      by_cases hlt : s < M
      · have hcw : wr.cell? ⟨b, off, none⟩ = some (.slice A x.length C) := (hB.cell (p := ⟨b, off, none⟩) hbb).trans hc'
        have hzB := hB.size
        have hcall : ∀ wx, Below wr.heap.size wr wx → Calls Try.prog 83 #[.int .i64 M, .slice A x.length C, .int .i64 s, .agg cs.toArray] wx fun e w' => ∃ (av : List Value) (ok : Bool), e = .returned (.tuple #[.agg av.toArray, .bool ok]) ∧ Hid (Got M s x T av ok) ∧ (Try.prog.info? 73).map (·.size) = some av.toArray.size ∧ Hid (av.length = 10) ∧ (∀ v ∈ av, v.oneCell' = true) ∧ Below wx.heap.size wx w' ∧ w'.cell? ⟨b, off, none⟩ = some (.slice A x.length C) ∧ w'.rangeAt w.heap.size 0 cs := by
          intro wx hb
          refine (takeSlots_raw M s A x C cs T HCS.out wx h1 h2 hlt ((hrow.below hB).below hb) f1 f2 HTT.out).mono ?_
          rintro e w' ⟨av, ok, rfl, hcs, b3⟩
          have hb4 := hb.trans (b3.mono hb.size)
          obtain ⟨T', ha, hT', _⟩ := id hcs
          have hal : av.length = 10 := by rw [ha, List.length_map, hT']
          exact ⟨av, ok, rfl, hcs, by simp only [List.size_toArray, hal]; exact inf_b10, hal, bools_oneCell ha, b3, (hb4.cell (p := ⟨b, off, none⟩) (by show b < wr.heap.size; omega)).trans hcw, range_below hb4 hXlt hX⟩
        have HC := Lib.hid hcall
        have bd0 : Below wr.heap.size wr wr.drew := (Below.refl _ _).drew
        have bd1 : Below wr.heap.size wr (wr.alloc (.cells #[.bool false, .bool false, .bool false, .bool false, .bool false, .bool false, .bool false, .bool false, .bool false, .bool false] 73)).drew := ((Below.refl _ _).alloc (Nat.le_refl _) _).drew
        have x9 : BArr (wr.alloc (.cells #[.bool false, .bool false, .bool false, .bool false, .bool false, .bool false, .bool false, .bool false, .bool false, .bool false] 73)).drew 73 wr.heap.size (List.replicate 10 false) := BArr.new wr _ (List.replicate 10 false)
        have X9 := Lib.hid x9
        have B1 := Lib.hid bd1
        have en0 : b ≠ wr.heap.size := by omega
        have en1 : w.heap.size ≠ wr.heap.size := by omega
        clear hcall x9 bd1
        go_upto_region 20 with fail
        go_cut [9, 10] (fun s9 s10 wx => ∃ (g9 : Nat) (av : List Value) (ok : Bool), s9 = .pointer (some ⟨g9, 0, none⟩) ∧ s10 = .bool ok ∧ wx.rangeAt g9 0 av ∧ g9 < wx.heap.size ∧ Hid (Got M s x T av ok) ∧ wx.rangeAt w.heap.size 0 cs ∧ w.heap.size < wx.heap.size ∧ Below w.heap.size w wx)
        case first =>
          go_region_held3 (fun w' => w'.cell? ⟨b, off, none⟩ = some (.slice A x.length C) ∧ w'.rangeAt w.heap.size 0 cs)
            (first | exact ⟨hcw, hX⟩ | exact ⟨u0, ur⟩ | exact ⟨cell_alloc_keep hcw _, World.rangeAt_alloc hX _⟩ | exact ⟨cell_alloc_keep u0 _, World.rangeAt_alloc ur _⟩ | exact ⟨cell_set_keep u0 _ _ _ en0, World.rangeAt_setCells_apart ur _ _ _ (.inl en1)⟩ | exact ⟨cell_set_keep (cell_alloc_keep u0 _) _ _ _ en2, World.rangeAt_setCells_apart (World.rangeAt_alloc ur _) _ _ _ (.inl en3)⟩)
            (first | (go_at_call 83; refine (HC.out _ (by first | exact bd0 | exact B1.out)).mono ?_; rintro e w3 ⟨av, ok, rfl, hcs, hi2, hal, ha1, b3, u0, ur⟩; have en2 : b ≠ w3.heap.size := (by have q1 := b3.size; simp at q1; omega); have en3 : w.heap.size ≠ w3.heap.size := (by have q1 := b3.size; simp at q1; omega); have th1 : (w3.alloc (.cells #[.bool false, .bool false, .bool false, .bool false, .bool false, .bool false, .bool false, .bool false, .bool false, .bool false] 73)).there w3.heap.size 0 av.toArray.size := (by rw [show av.toArray.size = 10 from (List.size_toArray.trans hal.out)]; exact there_of (BArr.new w3 _ (List.replicate 10 false)) (by simp)); try (have th2 : w3.there wr.heap.size 0 av.toArray.size := (by rw [show av.toArray.size = 10 from (List.size_toArray.trans hal.out)]; exact there_of (BArr.belowAll b3 X9.out) (by simp)))))
          · have hb3 : Below wr.heap.size wr w3 := bd0.trans (b3.mono bd0.size)
            have hz3 := hb3.size
            go_wp2_with fail
            go_meet
            refine ⟨_, av, ok, rfl, rfl, World.rangeAt_setCells_same _ _ _ _ th1, ?_, hcs, World.rangeAt_setCells_apart (World.rangeAt_alloc ur _) _ _ _ (.inl en3), ?_, below_sets _ (by omega) _ _ _ ((hB.trans (hb3.mono hzB)).alloc (by omega) _)⟩
            · rw [size_sets, World.size_alloc]; omega
            · rw [size_sets, World.size_alloc]; omega
          · have hb3 : Below wr.heap.size wr w3 := B1.out.trans (b3.mono B1.out.size)
            have hb4 := hB.trans (hb3.mono hzB)
            go_wp2_with fail
            go_meet
            have hz4 := (B1.out.trans (b3.mono B1.out.size)).size
            have hz5 := b3.size
            have hz6 : wr.heap.size < w3.heap.size := by simp at hz5; omega
            refine ⟨_, av, ok, rfl, rfl, World.rangeAt_setCells_same _ _ _ _ th2, ?_, hcs, World.rangeAt_setCells_apart ur _ _ _ (.inl en1), ?_, below_sets _ (by omega) _ _ _ hb4⟩
            · rw [size_sets]; exact hz6
            · rw [size_sets]; omega
        case rest =>
          clear hX hXlt hB X9 B1 bd0 HC en0 en1 hcw hzB
          obtain ⟨g9, av, ok, rfl, rfl, h9, h9lt, hgot, hX, hXlt, hB⟩ := hcut
          cases ok with
          | false =>
            have hno2 : ∀ q, q < s + 1 → shs M x bs T q = none := by
              intro q hq
              by_cases e : q < s
              · exact hno.out q e
              · obtain rfl : q = s := by omega
                obtain ⟨T', _, _, h | h⟩ := hgot.out
                · exact absurd h.1 (by simp)
                · exact shs_no h.2
            have HNO := Lib.hid hno2
            clear hno2 hgot
            go_wp2
            go_roundw
            case rel => exact ⟨s + 1, by omega, by go_num, HNO, hX, hXlt, hB⟩
            case measure => simp [intOf]; omega
          | true =>
            obtain ⟨T', hav, hT', h | h⟩ := hgot.out
            rotate_left
            · exact absurd h.1 (by simp)
            have htry := h.2
            have HTRY := Lib.hid htry
            have HAV := Lib.hid hav
            have HT' := Lib.hid hT'
            clear htry h hav hT' hgot
            have hN1c : N = bs.length + 1 := HN.out
            have hzB := hB.size
            have hcall : ∀ a' wx, Below wc.heap.size wc wx → (a' = some ⟨b, off + 1, none⟩ ∨ bs = []) → Calls Try.prog 72 #[.int .i64 M, .slice a' (N - 1) (cap - 1), .agg av.toArray] wx fun e w' => ∃ v ok2, e = .returned (.tuple #[v, .bool ok2]) ∧ Hid (ok2 = (shf M bs T').isSome ∧ Own w' wx.heap.size v ((shf M bs T').getD []) ∧ ((shf M bs T').getD [] = [] → v = .slice none 0 0)) ∧ Below wx.heap.size wx w' ∧ w'.rangeAt g9 0 av := by
              intro a' wx hb ha
              have hrd : ReadsS wx a' bs := by
                rcases ha with rfl | hbs
                · have hR2 := (HR.out.below hB).below hb
                  exact hR2.tail
                · exact .inl hbs
              have hbl : bs.length = N - 1 := by omega
              have := HIH.out a' (cap - 1) av T' wx HAV.out HT'.out hrd (by omega) (by omega) HF.out.tail
              rw [hbl] at this
              refine this.mono ?_
              rintro e w' ⟨v, rfl, hown, hnil, hb2⟩
              exact ⟨v, _, rfl, ⟨rfl, hown, hnil⟩, hb2, range_below (hb.trans (hb2.mono hb.size)) h9lt h9⟩
            have HC2 := Lib.hid hcall
            have hi3 : (Try.prog.info? 73).map (·.size) = some av.length := by rw [HAV.out, List.length_map, HT'.out]; exact inf_b10
            have bd0 : Below wc.heap.size wc wc.drew := (Below.refl _ _).drew
            have hbs1 : cap = 1 → bs = [] := fun e => List.eq_nil_of_length_eq_zero (by omega)
            have HB1 := Lib.hid hbs1
            clear hcall hN1c hbs1
            go_upto_region 8 with fail
            obtain ⟨z, hz⟩ : ∃ z, z = wc.heap.size := ⟨_, rfl⟩
            have hzw : w.heap.size ≤ z := by omega
            have HZ := Lib.hid hz
            clear hz
            go_cut [11, 12] (fun s11 s12 wx => s12 = .bool (shf M bs T').isSome ∧ Hid (Own wx z s11 ((shf M bs T').getD []) ∧ ((shf M bs T').getD [] = [] → s11 = .slice none 0 0)) ∧ wx.rangeAt w.heap.size 0 cs ∧ w.heap.size < wx.heap.size ∧ Below w.heap.size w wx)
            case first =>
              by_cases hcap1 : cap = 1
              · have hN' : N = 1 := by omega
                have hbs2 := HB1.out hcap1
                have HBN := Lib.hid hbs2
                subst hcap1
                subst hN'
                have HC3 := Lib.hid (fun a' wx hb => HC2.out a' wx hb (.inr HBN.out))
                clear HC2 hd0 hN0 hN1 hNc hN2 hN3 hcap h10 hbs2
                go_region_held3 (fun w' => w'.rangeAt g9 0 av) (first | exact h9 | exact ur)
                  (first | (go_at_call 72; refine (HC3.out _ _ bd0).mono ?_; rintro e w3 ⟨v, ok2, rfl, hd, b3, ur⟩))
                have hb3 : Below wc.heap.size wc w3 := bd0.trans (b3.mono bd0.size)
                have hz3 := hb3.size
                go_wp2_with fail
                go_meet
                exact ⟨by rw [hd.out.1], by rw [HZ.out]; exact hd.out.2, range_below hb3 hXlt hX, by omega, hB.trans (hb3.mono hzB)⟩
              · go_region_held3 (fun w' => w'.rangeAt g9 0 av) (first | exact h9 | exact ur)
                  (first | (go_at_call 72; refine (HC2.out _ _ bd0 (.inl rfl)).mono ?_; rintro e w3 ⟨v, ok2, rfl, hd, b3, ur⟩))
                have hb3 : Below wc.heap.size wc w3 := bd0.trans (b3.mono bd0.size)
                have hz3 := hb3.size
                go_wp2_with fail
                go_meet
                exact ⟨by rw [hd.out.1], by rw [HZ.out]; exact hd.out.2, range_below hb3 hXlt hX, by omega, hB.trans (hb3.mono hzB)⟩
            case rest =>
              clear hX hXlt hB h9 h9lt bd0
              obtain ⟨rfl, hd, hX, hXlt, hB⟩ := hcut
              obtain ⟨o, ho⟩ : ∃ o, o = shf M bs T' := ⟨_, rfl⟩
              rw [← ho] at hd
              have hyes := shs_yes HTRY.out (bs := bs)
              rw [← ho] at hyes ⊢
              have HYES := Lib.hid hyes
              clear ho hyes HC2 HB1
              cases o with
              | none =>
                have hno2 : ∀ q, q < s + 1 → shs M x bs T q = none := by
                  intro q hq
                  by_cases e : q < s
                  · exact hno.out q e
                  · obtain rfl : q = s := by omega
                    exact HYES.out
                have HNO := Lib.hid hno2
                clear hno2
                go_wp2
                go_roundw
                case rel => exact ⟨s + 1, by omega, by go_num, HNO, hX, hXlt, hB⟩
                case measure => simp [intOf]; omega
              | some r =>
                have hfin : shf M (x :: bs) T = some ((s : Int) :: r) := by rw [HS.out]; exact firstN_hit hno.out HYES.out hlt
                have HFIN := Lib.hid hfin
                clear hfin HYES HTRY HAV HT' hno hzB HZ hu hi3
                have hok : (some r).isSome = true := rfl
                rw [hok]
                have hd1 := hd.out.1
                have hd2 := hd.out.2
                simp only [Option.getD_some] at hd1 hd2
                have HO := Lib.hid hd1
                have HE := Lib.hid hd2
                clear hd hok hd1 hd2
                by_cases h0 : r = []
                · have hv := HE.out h0
                  subst hv
                  subst h0
                  go_wp2
                  go_ret2
                  refine ⟨.slice (some ⟨wc.heap.size, 0, none⟩) 1 1, by rw [HFIN.out]; rfl, ?_, fun e => ?_, hB.alloc hB.size _⟩
                  · rw [HFIN.out]
                    have ho : Own (wc.alloc (.cells #[.int .i64 (s : Int)] 3)) wc.heap.size (.slice (some ⟨wc.heap.size, 0, none⟩) 1 1) [(s : Int)] := World.ownsRow_lit wc #[.int .i64 (s : Int)] 1 (Nat.le_refl _) (by unfold maxLen; omega) rfl
                    exact ho.mono hB.size
                  · rw [HFIN.out] at e; simp at e
                · have H0 := Lib.hid h0
                  have hrl : r.length < 1000000 := by
                    have := shf_len (x :: bs) T _ HFIN.out
                    simp at this
                    have := HN.out
                    omega
                  have HRL := Lib.hid hrl
                  clear h0 hrl
                  go_wp2_with (at_builtin; go_loud (refine cons_int rfl _ _ rfl (s : Int) z u11 r rfl rfl HO.out H0.out HRL.out ?_))
                  intro v' w' ho hb
                  have hB3 := hB.trans (hb.mono hB.size)
                  go_wp2
                  go_ret2
                  refine ⟨v', by rw [HFIN.out]; rfl, ?_, fun e => ?_, hB3⟩
                  · rw [HFIN.out]; exact ho.mono hB.size
                  · rw [HFIN.out] at e; simp at e
      · obtain rfl : s = M := by omega
        have hn : shf s (x :: bs) T = none := by rw [HS.out]; exact firstN_none hno.out
        have HNO := Lib.hid hn
        clear hn
        go_wp2
        go_ret2
        exact ⟨_, by rw [HNO.out]; rfl, by rw [HNO.out]; exact Own.nil _ _, fun _ => rfl, hB⟩
end Go.Proofs.Ytapkalpmnldhpaa
