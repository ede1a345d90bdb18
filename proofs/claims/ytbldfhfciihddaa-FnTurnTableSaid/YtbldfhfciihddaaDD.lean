/-
  spec.DrawTurnTable.
-/
import Derived.Test.YtbldfhfciihddaaD9
import Derived.Test.YtbldfhfciihddaaD4
import Derived.Test.YtbldfhfciihddaaUd
import Derived.Deep.DeepCutAuto
import Derived.Deep.LoopGhost
namespace Go.Proofs.Ytbldfhfciihddaa
open Go.RowKit

theorem pair_cell {w : World} {x y : Int} : ∀ j u, ([Value.int .i64 x, Value.int .i64 y])[j]? = some u → (w.alloc (.cells #[.int .i64 x, .int .i64 y] 65)).cell? ((⟨w.heap.size, 0, none⟩ : Addr).add j) = some u := by
  intro j u hu
  have hj : j < 2 := by simpa using (List.getElem?_eq_some_iff.1 hu).1
  rw [Addr.add_lit, cell_of_row _ _ _ _ _ _ (heap_alloc_new _ _)]
  match j, hj, hu with
  | 0, _, hu => simpa using hu
  | 1, _, hu => simpa using hu

/-- 'append(s, p)' of one pair onto a slice of the call's own. -/
theorem push_pair {wr : World} {ops : Array Oper} {rest : List Oper} {o : Oper} {a : Act} {Q : Exit → Act → World → Prop} (hgd : o.guard = none) (s x : Operand)
    (ho : o.op = .call { callee := .builtin .append, args := #[s, x], argTypes := #[38, 38] })
    (base : Nat) (v : Value) (l : List (Int × Int)) (y z : Int) (hs : a.eval s = v) (hown : OwnP wr base v l) (H : Nat) (hx : a.eval x = .slice (some ⟨H, 0, none⟩) 1 1) (hH : wr.heap.size = H)
    (hl : l.length < 1000000000000) (hbase : base ≤ wr.heap.size)
    (h : ∀ v' w', OwnP w' base v' (l ++ [(y, z)]) → wr.grownBy w' v.ownBlock → wpList Try.prog ops Q rest (a.put o.dst v') w') :
    wpList Try.prog ops Q (o :: rest) a (wr.alloc (.cells #[.int .i64 y, .int .i64 z] 65)) := by
  subst hH
  obtain ⟨i0, hi, hz0, hz1, hz2⟩ := info_parts infoTurn
  refine wpList_append_own _ hgd s x 38 ho base 65 i0 (.agg #[.int .i64 0, .int .i64 0]) 2 16 Try.underlying38 hi hz0 hz1 hz2 rfl (by decide) v l.length (flat l) hs (World.ownsRow.alloc hown _) ⟨wr.heap.size, 0, none⟩ 1 1 [.int .i64 y, .int .i64 z] hx rfl pair_cell (fun u hu => by simp at hu; rcases hu with rfl | rfl <;> rfl) (by unfold maxLen; omega) (by omega) (by simp; omega) fun v' w' h1 h2 _ => h v' w' ?_ ?_
  · unfold OwnP
    rw [List.length_append, flat_append]
    exact h1
  · refine ⟨h2.os, h2.tape, h2.output, Nat.le_trans (by simp) h2.size, fun k hk hne => ?_⟩
    rw [h2.block k (by simp; omega) hne]; exact Below.heap_alloc _ _ _ hk
theorem OwnP.ne_g {w : World} {base : Nat} {v : Value} {l : List (Int × Int)} (h : OwnP w base v l) {g : Nat} (hg : g < base) : v.ownBlock = none ∨ v.ownBlock ≠ some g := by
  cases hv : v.ownBlock with
  | none => exact .inl rfl
  | some k =>
    have := h.lt k hv
    exact .inr (fun e => by cases e; omega)
theorem grownBy_ownP {a b c : World} {row : Option Nat} {base : Nat} {v : Value} {l : List (Int × Int)} (h : a.grownBy b row) (ho : OwnP b base v l) (hb : a.heap.size ≤ base) (k : b.grownBy c v.ownBlock) : a.grownBy c row :=
  ⟨k.os.trans h.os, k.tape.trans h.tape, k.output.trans h.output, Nat.le_trans h.size k.size, fun i hi hne => (k.block i (Nat.lt_of_lt_of_le hi h.size) (fun e => by have := (ho.lt i e.symm).1; omega)).trans (h.block i hi hne)⟩
theorem OwnP.lit0 (w : World) (base : Nat) (hb : base ≤ w.heap.size) : OwnP (w.alloc (.cells #[] 65)) base (.slice (some ⟨w.heap.size, 0, none⟩) 0 0) [] :=
  World.ownsRow_lit w #[] 0 hb (by unfold maxLen; omega) rfl
theorem OwnP.alloc {w : World} {base : Nat} {v : Value} {l : List (Int × Int)} (h : OwnP w base v l) (o : Obj) : OwnP (w.alloc o) base v l := World.ownsRow.alloc h o

theorem setCell_grown (w : World) (b i : Nat) (v : Value) : w.grownBy (w.setCell ⟨b, i, none⟩ v) (some b) :=
  ⟨rfl, rfl, rfl, by simp, fun k _ hk => heap_setCell_other _ _ _ _ (fun e => hk (by rw [e]))⟩
theorem ownP_ne_new {base : Nat} {v : Value} {b : Nat} (h : Hid (∀ k, v.ownBlock = some k → base ≤ k ∧ k < b)) : v.ownBlock = none ∨ v.ownBlock ≠ some b := by
  cases hv : v.ownBlock with
  | none => exact .inl rfl
  | some k =>
    have := h.out k hv
    exact .inr (fun e => by cases e; omega)

theorem OwnP.base {w : World} {base base' : Nat} {v : Value} {l : List (Int × Int)} (h : OwnP w base v l) (hb : base' ≤ base) : OwnP w base' v l := by
  refine ⟨h.1, ?_⟩
  rcases h.2 with h | ⟨g, cap, cur, h1, h2, h3⟩
  · exact .inl h
  · exact .inr ⟨g, cap, cur, h1, Nat.le_trans hb h2, h3⟩

theorem OwnP.row {w : World} {base : Nat} {v : Value} {l : List (Int × Int)} (h : OwnP w base v l) (hl : l.length ≠ 0) : ∃ g cap, v = .slice (some ⟨g, 0, none⟩) l.length cap := by
  rcases h.2 with ⟨_, h0⟩ | ⟨g, cap, cur, rfl, _⟩
  · exact absurd h0 hl
  · exact ⟨g, cap, rfl⟩

set_option maxHeartbeats 8000000 in
theorem drawTurnTable_any (a : Option Addr) (n cap : Nat) (w : World) (hB : Bytes w w.heap.size a n) (hn : n ≤ 9223372036854775807) (hc : n ≤ cap) :
    Calls Try.prog 42 #[.slice a n cap] w fun e w' => ∃ (v : Value) (l : List (Int × Int)), e = .returned v ∧ OwnP w' w.heap.size v l ∧ l.length ≤ 8 ∧ Below w.heap.size w w' := by
  go_enter Try.func42, Try.ntmps42
  go_wp2_with fail
  refine (newReader_any a n cap w hB hn hc).mono ?_
  rintro e w1 ⟨rfl, hR0, hb1, hs1⟩
  have hz1 := hb1.size
  have zg := hR0.lt
  clear hB hn hc
  have ho1 : OwnP (w1.alloc (.cells #[] 65)) w1.heap.size (.slice (some ⟨w1.heap.size, 0, none⟩) 0 0) [] := (OwnP.lit0 w1 w1.heap.size (Nat.le_refl _))
  have hR2 := hR0.below ((Below.refl w1.heap.size w1).alloc (Nat.le_refl _) (.cells #[] 65))
  have hg2 := World.grownBy_alloc w1 (.cells #[] 65) (some w.heap.size)
  obtain ⟨w0, e0⟩ : ∃ w0, w0 = w1.alloc (.cells #[] 65) := ⟨_, rfl⟩
  rw [← e0] at ho1 hR2 hg2
  have E0 := Lib.hid e0
  have z0 : w0.heap.size = w1.heap.size + 1 := by rw [e0]; simp
  have hone := one_litR w.heap.size 0 w0 [3, 4, 2, 5, 1, 6, 0, 7] 8 hR2 (by omega) (by simp) (by simp) rfl
  rw [z0] at hone
  have HONE := Lib.hid hone
  clear e0 hR0 hR2 hone
  go_wp2_with fail
  rw [← E0.out]
  refine HONE.out.mono ?_
  rintro e w2 ⟨nn, rfl, hnn, hR3, hg3⟩
  have hnn2 : 0 ≤ nn ∧ nn ≤ 7 := by simp at hnn; omega
  have ho2 := ho1.kept hg3 (by simp [Value.ownBlock]; omega)
  have hg4 := grownBy_trans hg2 hg3
  clear hnn hg3 hg2 ho1 HONE
  go_wp2
  go_loopg [4] 8 (fun n v wr => ∃ (l : List (Int × Int)) (q : Nat), l.length + n = 8 ∧ OwnP wr w1.heap.size v l ∧ Rdr wr w.heap.size q ∧ q ≤ 1 + 2 * l.length ∧ w1.grownBy wr (some w.heap.size))
  case atStart => exact ⟨[], 1, by simp, ho2, hR3, by simp, hg4⟩
  case round =>
    clear ho2 hR3 hg4
    obtain ⟨l, q, hln, ho, hR, hq, hg⟩ := hrel
    obtain ⟨a5, c5, rfl, _, _, _, _⟩ := ho.form
    have hz := hg.size
    have HLN := Lib.hid hln
    have hl8 : l.length ≤ 8 := by omega
    clear hln
    by_cases hlt : (l.length : Int) < nn
    · go_wp2_with fail
      refine (pick_any w.heap.size q _ _ hR (by omega) (by omega)).mono ?_
      rintro e wa ⟨x1, rfl, hx1, hRa, hga⟩
      replace ho := ho.kept hga (ho.ne_g zg)
      replace hg := grownBy_trans hg hga
      clear hx1 hga hR
      go_wp2_with fail
      refine (pick_any w.heap.size (q + 1) _ _ hRa (by omega) (by omega)).mono ?_
      rintro e wb ⟨x2, rfl, hx2, hRb, hgb⟩
      have hx2' := hx2.1 (by omega)
      replace ho := ho.kept hgb (ho.ne_g zg)
      replace hg := grownBy_trans hg hgb
      have hza := hg.size
      have ew : IntKind.i64.wrap (1 + x2) = 1 + x2 := IntWalk.i64_in _ (by omega)
      clear hx2 hgb hRa
      go_wp2_with (at_builtin; refine push_pair rfl (.tmp 16) (.tmp 23) rfl w1.heap.size _ l x1 (1 + x2) rfl ho _ rfl rfl (by omega) hza ?_)
      intro v' wf of gf
      have hRf := hRb.kept gf (fun k hk => by have := (ho.lt k hk).1; omega)
      have hgf := grownBy_ownP hg ho (Nat.le_refl _) gf
      clear gf ho hg hRb
      have hlt2 : l.length < 7 := by omega
      go_wp2
      go_roundg (gk - 1)
      case measure => have := HLN.out; omega
      case rel => exact ⟨l ++ [(x1, 1 + x2)], q + 2, by have := HLN.out; simp; omega, of, hRf, by simp; omega, hgf⟩
    · by_cases h0 : l.length = 0
      · have g0 : ¬ (l.length : Int) > 0 := by omega
        have hbe := hb1.grown hg hb1.size (fun k hk => by cases hk; omega)
        have hoE : OwnP _ _ _ _ := (by rw [h0] at ho; exact ho : OwnP wr w1.heap.size (.slice a5 0 c5) l).base hz1
        go_wp2
        go_ret
        first | exact ⟨_, rfl, l, hoE, hl8, hbe⟩ | exact ⟨_, l, rfl, hoE, hl8, hbe⟩
      · have g0 : (l.length : Int) > 0 := by omega
        go_wp2_with fail
        refine (pick_any w.heap.size q _ _ hR (by omega) (by omega)).mono ?_
        rintro e wa ⟨x1, rfl, hx1, hRa, hga⟩
        replace ho := ho.kept hga (ho.ne_g zg)
        replace hg := grownBy_trans hg hga
        have hza := hg.size
        have hga2 := hRa.lt
        clear hx1 hga hR
        by_cases hx0 : x1 = 0
        · have hd2 : (x1 == 0) = true := by simp [hx0]
          clear hx0
          obtain ⟨gl, c6, e6⟩ := ho.row h0
          obtain ⟨rfl, rfl⟩ : a5 = some ⟨gl, 0, none⟩ ∧ c5 = c6 := by cases e6; exact ⟨rfl, rfl⟩
          go_wp2_with fail
          refine (one_litR w.heap.size (q + 1) wa [0, 13] 2 hRa (by omega) (by simp) (by simp) rfl).mono ?_
          rintro e wb ⟨z, rfl, hzz, hR3, hg3⟩
          have hng := ho.ne_g zg
          have hob := ho.kept hg3 hng
          have hgb := grownBy_trans hg hg3
          clear hzz hg3 ho hg hRa hng
          obtain ⟨px, rest, rfl⟩ : ∃ p r, l = p :: r := by
            cases l with
            | nil => simp at h0
            | cons p r => exact ⟨p, r, rfl⟩
          obtain ⟨u1, hu1⟩ : ∃ u, wb.cell? ⟨gl, 1, none⟩ = some u := ⟨_, World.ownsRow.cellAt hob 1 (by simp; omega)⟩
          have hf1 := World.ownsRow.frozenAt hob 1
          obtain ⟨st, sg⟩ := World.ownsRow.stored hob 1 (.int .i64 z)
          have ho2 : OwnP (wb.setCell ⟨gl, 1, none⟩ (.int .i64 z)) w1.heap.size (.slice (some ⟨gl, 0, none⟩) (px :: rest).length c5) ((px.1, z) :: rest) := st
          have hg := grownBy_ownP hgb hob (Nat.le_refl _) (show wb.grownBy _ (Value.slice (some ⟨gl, 0, none⟩) (px :: rest).length c5).ownBlock from sg)
          have ho := ho2
          clear st sg ho2 hob hgb hR3
          have hbe := hb1.grown hg hb1.size (fun k hk => by cases hk; omega)
          have hoE := ho.base hz1
          go_wp2
          go_ret
          exact ⟨_, ((px.1, z) :: rest), rfl, hoE, by simpa using hl8, hbe⟩
        · have hd2 : (x1 == 0) = false := by simpa using hx0
          clear hx0
          have hbe := hb1.grown hg hb1.size (fun k hk => by cases hk; omega)
          have hoE := ho.base hz1
          go_wp2
          go_ret
          exact ⟨_, l, rfl, hoE, hl8, hbe⟩
end Go.Proofs.Ytbldfhfciihddaa
