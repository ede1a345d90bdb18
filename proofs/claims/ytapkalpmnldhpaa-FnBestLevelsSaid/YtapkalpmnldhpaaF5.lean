/-
  impl.familyOf: a slice of functions that grows; PairCount.
-/
import Derived.Test.YtapkalpmnldhpaaF4
import Derived.Deep.LoopGhost
namespace Go.Proofs.Ytapkalpmnldhpaa
open Go.RowKit

theorem infoFun : (Try.prog.info? 65).map (fun i => (i.zero, i.size, i.bytes)) = some (some (.agg #[.int .i64 0, .int .i64 0, .nilFunc]), 3, 24) := by kernel_rfl

/-- The three variables that a function captures, by their blocks. -/
structure FunHeap (w : World) (A B M : Nat) (a b m : Int) : Prop where
  ha : w.heap[A]? = some (.cells #[.int .i64 a] 3 (0, 0))
  hb : w.heap[B]? = some (.cells #[.int .i64 b] 3 (0, 0))
  hm : w.heap[M]? = some (.cells #[.int .i64 m] 3 (0, 0))
section
variable {w w' : World} {A B M : Nat} {a b m : Int}
theorem FunHeap.at_ (h : FunHeap w A B M a b m) : FunAt w A B M a b m :=
  ⟨by rw [cell_of_row w A 0 _ _ _ h.ha]; rfl, by rw [cell_of_row w B 0 _ _ _ h.hb]; rfl, by rw [cell_of_row w M 0 _ _ _ h.hm]; rfl⟩
theorem FunHeap.lt (h : FunHeap w A B M a b m) : A < w.heap.size ∧ B < w.heap.size ∧ M < w.heap.size :=
  ⟨(Array.getElem?_eq_some_iff.1 h.ha).1, (Array.getElem?_eq_some_iff.1 h.hb).1, (Array.getElem?_eq_some_iff.1 h.hm).1⟩
theorem FunHeap.below (hb : Below w.heap.size w w') (h : FunHeap w A B M a b m) : FunHeap w' A B M a b m := by
  obtain ⟨h1, h2, h3⟩ := h.lt
  exact ⟨(hb.block _ h1).trans h.ha, (hb.block _ h2).trans h.hb, (hb.block _ h3).trans h.hm⟩
theorem FunHeap.kept (h : FunHeap w A B M a b m) {row : Option Nat} (hg : w.grownBy w' row) (h1 : some A ≠ row) (h2 : some B ≠ row) (h3 : some M ≠ row) : FunHeap w' A B M a b m :=
  ⟨(hg.block _ h.lt.1 h1).trans h.ha, (hg.block _ h.lt.2.1 h2).trans h.hb, (hg.block _ h.lt.2.2 h3).trans h.hm⟩
end

set_option maxHeartbeats 1000000 in
theorem functionOf_heap (a b m : Int) (w : World) :
    Calls Try.prog 57 #[.int .i64 a, .int .i64 b, .int .i64 m] w fun e w' => ∃ A B M, e = .returned (.agg #[.int .i64 a, .int .i64 b, FnV A B M]) ∧ FunHeap w' A B M a b m ∧ Below w.heap.size w w' := by
  have a0 := heap_alloc_new w (.cells #[.int .i64 a] 3)
  obtain ⟨w1, e1⟩ : ∃ w1, w1 = w.alloc (.cells #[.int .i64 a] 3) := ⟨_, rfl⟩
  have z1 : w1.heap.size = w.heap.size + 1 := by rw [e1]; simp
  have q1 : Below w.heap.size w w1 := by rw [e1]; exact (Below.refl _ _).alloc (Nat.le_refl _) _
  rw [← e1] at a0
  have b0 := heap_alloc_new w1 (.cells #[.int .i64 b] 3)
  have a1 := (Below.heap_alloc w1 (.cells #[.int .i64 b] 3) w.heap.size (by omega)).trans a0
  have q2 := q1.alloc (by omega) (.cells #[.int .i64 b] 3)
  obtain ⟨w2, e2⟩ : ∃ w2, w2 = w1.alloc (.cells #[.int .i64 b] 3) := ⟨_, rfl⟩
  have z2 : w2.heap.size = w.heap.size + 2 := by rw [e2]; simp; omega
  rw [← e2] at a1 b0 q2
  have c0 := heap_alloc_new w2 (.cells #[.int .i64 m] 3)
  have a2 := (Below.heap_alloc w2 (.cells #[.int .i64 m] 3) w.heap.size (by omega)).trans a1
  have b1 := (Below.heap_alloc w2 (.cells #[.int .i64 m] 3) w1.heap.size (by omega)).trans b0
  have q3 := q2.alloc (by omega) (.cells #[.int .i64 m] 3)
  obtain ⟨w3, e3⟩ : ∃ w3, w3 = w2.alloc (.cells #[.int .i64 m] 3) := ⟨_, rfl⟩
  have z3 : w3.heap.size = w.heap.size + 3 := by rw [e3]; simp; omega
  rw [← e3] at a2 b1 c0 q3
  have E3 : Hid (w3 = ((w.alloc (.cells #[.int .i64 a] 3)).alloc (.cells #[.int .i64 b] 3)).alloc (.cells #[.int .i64 m] 3)) := by show w3 = _; rw [e3, e2, e1]
  rw [z1] at b1
  rw [z2] at c0
  have hF : FunHeap w3 w.heap.size (w.heap.size + 1) (w.heap.size + 2) a b m := ⟨a2, b1, c0⟩
  have HF := Lib.hid (fun (w4 : World) (h : Below w3.heap.size w3 w4) => hF.below h)
  have Q3 := Lib.hid q3
  have Z3 := Lib.hid z3
  clear a0 a1 a2 b0 b1 c0 q1 q2 q3 e1 e2 e3 z1 z2 z3 hF
  go_enter Try.func57, Try.ntmps57
  go_wp2
  refine bodyPost_ret (v := .agg #[.int .i64 a, .int .i64 b, FnV w.heap.size (w.heap.size + 1) (w.heap.size + 2)]) (by simp [results, Try.results57, go_sem]) rfl ⟨_, _, _, rfl, ?_, ?_⟩
  · rw [← E3.out]
    exact HF.out _ ((Below.refl _ _).alloc (Nat.le_refl _) _)
  · rw [← E3.out]
    exact Q3.out.alloc (by have := Z3.out; omega) _

/-- A slice of functions of the call's own: the first k of the family. -/
def OwnF (w : World) (base : Nat) (v : Value) (m : Int) (k : Nat) : Prop :=
  ∃ vs : List Value, w.ownsRow base 65 3 v k vs ∧ ∀ i, i < k → ∃ A B M, vs[i * 3]? = some (.int .i64 (fA i : Nat)) ∧ vs[i * 3 + 1]? = some (.int .i64 (fB i : Nat)) ∧ vs[i * 3 + 2]? = some (FnV A B M) ∧ FunHeap w A B M (fA i : Nat) (fB i : Nat) m
section
variable {w w' : World} {base : Nat} {v : Value} {m : Int} {k : Nat}
theorem OwnF.lt (h : OwnF w base v m k) : ∀ q, v.ownBlock = some q → base ≤ q ∧ q < w.heap.size := by
  obtain ⟨vs, h1, _⟩ := h
  exact World.ownsRow.lt h1
theorem OwnF.ne_int (h : OwnF w base v m k) {G : Nat} {c : Array Value} (hG : w.heap[G]? = some (.cells c 3 (0, 0))) : some G ≠ v.ownBlock := by
  obtain ⟨vs, h1, _⟩ := h
  rcases h1.2 with ⟨rfl, _⟩ | ⟨g, cap, cur, rfl, _, hg, _⟩
  · simp [Value.ownBlock]
  · intro e
    have : G = g := by simpa [Value.ownBlock] using e
    subst this
    rw [hg] at hG
    injection hG with hG
    injection hG with _ h3
    exact absurd h3 (by decide)
theorem OwnF.below (hb : Below w.heap.size w w') (h : OwnF w base v m k) : OwnF w' base v m k := by
  obtain ⟨vs, h1, h2⟩ := h
  refine ⟨vs, ⟨h1.1, ?_⟩, fun i hi => ?_⟩
  · rcases h1.2 with hn | ⟨g, cap, cur, hv, hbg, hg, r⟩
    · exact .inl hn
    · exact .inr ⟨g, cap, cur, hv, hbg, (hb.block g (Array.getElem?_eq_some_iff.1 hg).1).trans hg, r⟩
  · obtain ⟨A, B, M, e1, e2, e3, hF⟩ := h2 i hi
    exact ⟨A, B, M, e1, e2, e3, hF.below hb⟩
end

/-- 'append(s, f)' of one function. -/
theorem push_fun {wr : World} {ops : Array Oper} {rest : List Oper} {o : Oper} {act : Act} {Q : Exit → Act → World → Prop} (hgd : o.guard = none) (s x : Operand)
    (ho : o.op = .call { callee := .builtin .append, args := #[s, x], argTypes := #[67, 67] })
    (base : Nat) (v : Value) (m : Int) (k : Nat) (a b : Int) (ha : a = (fA k : Nat)) (hb : b = (fB k : Nat)) (A B M : Nat) (hs : act.eval s = v) (hown : OwnF wr base v m k) (hF : FunHeap wr A B M a b m) (H : Nat) (hx : act.eval x = .slice (some ⟨H, 0, none⟩) 1 1) (hH : wr.heap.size = H)
    (hl : k < 1000000) (hbase : base ≤ wr.heap.size)
    (h : ∀ v' w', OwnF w' base v' m (k + 1) → wr.grownBy w' v.ownBlock → wpList Try.prog ops Q rest (act.put o.dst v') w') :
    wpList Try.prog ops Q (o :: rest) act (wr.alloc (.cells #[.int .i64 a, .int .i64 b, FnV A B M] 65)) := by
  subst hH
  subst ha
  subst hb
  have hne : ∀ (A B M : Nat) (a b m : Int), FunHeap wr A B M a b m → some A ≠ v.ownBlock ∧ some B ≠ v.ownBlock ∧ some M ≠ v.ownBlock := fun A B M a b m h => ⟨hown.ne_int h.ha, hown.ne_int h.hb, hown.ne_int h.hm⟩
  obtain ⟨vs, h1, h2⟩ := hown
  obtain ⟨i0, hi, hz0, hz1, hz2⟩ := info_parts infoFun
  have hnews : ∀ j u, ([Value.int .i64 (fA k : Nat), Value.int .i64 (fB k : Nat), FnV A B M])[j]? = some u → (wr.alloc (.cells #[.int .i64 (fA k : Nat), .int .i64 (fB k : Nat), FnV A B M] 65)).cell? ((⟨wr.heap.size, 0, none⟩ : Addr).add j) = some u := by
    intro j u hu
    have hj : j < 3 := by simpa using (List.getElem?_eq_some_iff.1 hu).1
    rw [Addr.add_lit, cell_of_row _ _ _ _ _ _ (heap_alloc_new _ _)]
    match j, hj, hu with
    | 0, _, hu => simpa using hu
    | 1, _, hu => simpa using hu
    | 2, _, hu => simpa using hu
  refine wpList_append_own _ hgd s x 67 ho base 65 i0 (.agg #[.int .i64 0, .int .i64 0, .nilFunc]) 3 24 Try.underlying67 hi hz0 hz1 hz2 rfl (by decide) v k vs hs (World.ownsRow.alloc h1 _) ⟨wr.heap.size, 0, none⟩ 1 1 [.int .i64 (fA k : Nat), .int .i64 (fB k : Nat), FnV A B M] hx rfl hnews (fun u hu => by simp at hu; rcases hu with rfl | rfl | rfl <;> rfl) (by unfold maxLen; omega) (by omega) (by simp; omega) fun v' w' g1 g2 _ => ?_
  have hgb : wr.grownBy w' v.ownBlock := by
    refine ⟨g2.os, g2.tape, g2.output, Nat.le_trans (by simp) g2.size, fun k hk hne => ?_⟩
    rw [g2.block k (by simp; omega) hne]; exact Below.heap_alloc _ _ _ hk
  have hvl : vs.length = k * 3 := h1.1
  refine h v' w' ⟨vs ++ [.int .i64 (fA k : Nat), .int .i64 (fB k : Nat), FnV A B M], g1, fun r hr => ?_⟩ hgb
  by_cases e : r < k
  · obtain ⟨A', B', M', e1, e2, e3, hF'⟩ := h2 r e
    obtain ⟨n1, n2, n3⟩ := hne _ _ _ _ _ _ hF'
    exact ⟨A', B', M', by rw [List.getElem?_append_left (by omega)]; exact e1, by rw [List.getElem?_append_left (by omega)]; exact e2, by rw [List.getElem?_append_left (by omega)]; exact e3, hF'.kept hgb n1 n2 n3⟩
  · obtain rfl : r = k := by omega
    obtain ⟨n1, n2, n3⟩ := hne _ _ _ _ _ _ hF
    refine ⟨A, B, M, ?_, ?_, ?_, hF.kept hgb n1 n2 n3⟩
    · rw [List.getElem?_append_right (by omega), hvl]; simp
    · rw [List.getElem?_append_right (by omega), hvl, show r * 3 + 1 - r * 3 = 1 by omega]; rfl
    · rw [List.getElem?_append_right (by omega), hvl, show r * 3 + 2 - r * 3 = 2 by omega]; rfl

/-- The whole family in block G. -/
structure Fam (w : World) (G : Nat) (m : Int) : Prop where
  lt : G < w.heap.size
  el : ∀ t, t < 930 → ∃ A B M, w.cell? ⟨G, t * 3, none⟩ = some (.int .i64 (fA t : Nat)) ∧ w.cell? ⟨G, t * 3 + 1, none⟩ = some (.int .i64 (fB t : Nat)) ∧ w.cell? ⟨G, t * 3 + 2, none⟩ = some (FnV A B M) ∧ FunAt w A B M (fA t : Nat) (fB t : Nat) m
theorem Fam.below {w w' : World} {G : Nat} {m : Int} (hb : Below w.heap.size w w') (h : Fam w G m) : Fam w' G m := by
  refine ⟨Nat.lt_of_lt_of_le h.lt hb.size, fun t ht => ?_⟩
  obtain ⟨A, B, M, e1, e2, e3, hF⟩ := h.el t ht
  exact ⟨A, B, M, (hb.cell (p := ⟨G, t * 3, none⟩) h.lt).trans e1, (hb.cell (p := ⟨G, t * 3 + 1, none⟩) h.lt).trans e2, (hb.cell (p := ⟨G, t * 3 + 2, none⟩) h.lt).trans e3, hF.below hb⟩
theorem OwnF.fam {w : World} {base : Nat} {v : Value} {m : Int} (h : OwnF w base v m 930) : ∃ G cap, v = .slice (some ⟨G, 0, none⟩) 930 cap ∧ 930 ≤ cap ∧ cap ≤ maxLen ∧ Fam w G m := by
  obtain ⟨vs, h1, h2⟩ := h
  have hc := h1
  rcases h1.2 with ⟨_, h0⟩ | ⟨g, cap, cur, rfl, hb, hg, hn, hm, _⟩
  · omega
  · refine ⟨g, cap, rfl, hn, hm, (Array.getElem?_eq_some_iff.1 hg).1, fun t ht => ?_⟩
    obtain ⟨A, B, M, e1, e2, e3, hF⟩ := h2 t ht
    exact ⟨A, B, M, by rw [World.ownsRow.cellAt hc _ (by omega)]; exact e1, by rw [World.ownsRow.cellAt hc _ (by omega)]; exact e2, by rw [World.ownsRow.cellAt hc _ (by omega)]; exact e3, hF.at_⟩
theorem below_ownF {a b c : World} {B base : Nat} {v : Value} {m : Int} {k : Nat} (h : Below B a b) (ho : OwnF b base v m k) (hB : B ≤ b.heap.size) (hb : B ≤ base) (g : b.grownBy c v.ownBlock) : Below B a c :=
  h.grown g hB fun k hk => Nat.le_trans hb (ho.lt k hk).1

set_option maxHeartbeats 4000000 in
theorem familyOf_any (m : Int) (w : World) :
    Calls Try.prog 63 #[.int .i64 m] w fun e w' => ∃ G cap, e = .returned (.slice (some ⟨G, 0, none⟩) 930 cap) ∧ 930 ≤ cap ∧ cap ≤ maxLen ∧ Fam w' G m ∧ Below w.heap.size w w' := by
  obtain ⟨i0, hi, hz0, hz1, hz2⟩ := info_parts infoFun
  go_enter Try.func63, Try.ntmps63
  go_wp2_with (refine wpList_make_own _ rfl _ _ 67 rfl w.heap.size 65 i0 (.agg #[.int .i64 0, .int .i64 0, .nilFunc]) 3 Try.underlying67 hi hz0 hz1 .i64 .i64 _ 930 rfl rfl rfl ?c1 ?c2 ?c3 ?_)
  case c1 => rw [hz2]; omega
  case c2 => unfold maxLen; omega
  case c3 => exact Nat.le_refl _
  intro w1 hown hgrow
  have hb1 : Below w.heap.size w w1 := (Below.refl _ _).grown hgrow (Nat.le_refl _) (fun k h => by cases h)
  have ho1 : OwnF w1 w.heap.size (.slice (some ⟨w.heap.size, 0, none⟩) 0 930) m 0 := ⟨[], hown, fun i hi => by omega⟩
  clear hown hgrow hi hz0 hz1 hz2
  go_wp2
  go_loopw [3, 4] (fun v i wr => ∃ a : Nat, 1 ≤ a ∧ a ≤ 31 ∧ i = .int .i64 a ∧ OwnF wr w.heap.size v m ((a - 1) * 31) ∧ Below w.heap.size w wr) (fun _ i _ => 31 - (intOf i).toNat)
  case atStart => exact ⟨1, by omega, by omega, rfl, ho1, hb1⟩
  case round =>
    clear ho1 hb1
    obtain ⟨a, ha, ha', rfl, ho, hb⟩ := hrel
    by_cases hlt : a < 31
    · have da : decide ((a : Int) < 31) = true := by simp; omega
      go_wp2
      go_loopw [3, 11] (fun v i wq => ∃ b : Nat, b ≤ 31 ∧ i = .int .i64 b ∧ OwnF wq w.heap.size v m ((a - 1) * 31 + b) ∧ Below w.heap.size w wq) (fun _ i _ => 31 - (intOf i).toNat)
      case atStart => exact ⟨0, by omega, rfl, ho, hb⟩
      case round =>
        clear ho hb
        obtain ⟨b, hb', rfl, ho, hb⟩ := hrel
        by_cases hlt2 : b < 31
        · have db : decide ((b : Int) < 31) = true := by simp; omega
          go_wp2_with fail
          refine (functionOf_heap (a : Int) (b : Int) m wr).mono ?_
          rintro e w2 ⟨A, B, M, rfl, hF, b2⟩
          have ho2 := ho.below b2
          have hb2 := hb.trans (b2.mono hb.size)
          have z2 := hb2.size
          have eA := fA_at a b hlt2 ha
          have eB := fB_at a b hlt2
          have KA : Hid ((a : Int) = (fA ((a - 1) * 31 + b) : Nat)) := by show (a : Int) = _; rw [eA]
          have KB : Hid ((b : Int) = (fB ((a - 1) * 31 + b) : Nat)) := by show (b : Int) = _; rw [eB]
          clear ho hb b2 eA eB
          go_wp2_with (at_builtin; refine push_fun rfl (.tmp 14) (.tmp 19) rfl w.heap.size _ m _ (a : Int) (b : Int) KA.out KB.out A B M rfl ho2 hF _ rfl rfl (by omega) z2 ?_)
          intro v' we oe ge
          have hbe := below_ownF hb2 ho2 z2 (Nat.le_refl _) ge
          clear ge ho2 hb2 hF
          go_wp2
          go_roundw
          case rel => exact ⟨b + 1, by omega, by go_num, oe, hbe⟩
          case measure => simp [intOf]; omega
        · obtain rfl : b = 31 := by omega
          go_wp2
          go_roundw
          case rel => exact ⟨a + 1, by omega, by omega, by go_num, by rw [show (a + 1 - 1) * 31 = (a - 1) * 31 + 31 by omega]; exact ho, hb⟩
          case measure => simp [intOf]; omega
    · obtain rfl : a = 31 := by omega
      obtain ⟨G, cap, rfl, c1, c2, hFam⟩ := OwnF.fam ho
      go_wp2
      go_ret
      exact ⟨_, _, rfl, c1, c2, hFam, hb⟩
end Go.Proofs.Ytapkalpmnldhpaa
