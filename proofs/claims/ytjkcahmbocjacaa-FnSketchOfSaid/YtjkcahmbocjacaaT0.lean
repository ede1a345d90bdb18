/-
  Tallies: a map of counts; impl.tally's add and take.
-/
import Derived.Test.YtjkcahmbocjacaaBase
import Derived.Maps.OwnOps
import Derived.Maps.OwnSet
import Derived.Maps.RangeWalk
namespace Go.Proofs.Ytjkcahmbocjacaa
open Go.RowKit Go.Maps

theorem lawI : Keyed Try.prog 3 := int_keyed Try.underlying3
theorem zeroI (w : World) : (zeroValue 3).run Try.prog w = .ok (.int .i64 0) w := by kernel_rfl
theorem wf64 {x : Int} (h : In64 x) : (Lit.int .i64 x).wf = true := by
  unfold In64 at h
  simp [Lit.wf, IntKind.min, IntKind.max, IntKind.signed, IntKind.bits]; omega
/-- Block b is a tally: it counts c x of x, of m different ones. -/
def Tal (w : World) (b : Nat) (c : Int → Nat) (m : Nat) : Prop :=
  ∃ D : DataW Unit, w.ownsMap Try.prog 3 (plainElem Try.prog 3) b m D ∧ Maps.size D = m ∧ (∀ x, Maps.has D (.int .i64 x) = decide (0 < c x)) ∧ ∀ x, D.atKey (.int .i64 x) (.lit (.int .i64 0)) = .lit (.int .i64 (c x))
theorem own_tight {w : World} {b n : Nat} {D : DataW Unit} (h : w.ownsMap Try.prog 3 (plainElem Try.prog 3) b n D) : w.ownsMap Try.prog 3 (plainElem Try.prog 3) b (Maps.size D) D := by
  obtain ⟨es, clock, hb, F, hs, rfl⟩ := h
  refine ⟨es, clock, hb, F, ?_, rfl⟩
  rw [Maps.size_eq, length_read]
  exact Nat.le_refl _
theorem Tal.lt {w : World} {b m : Nat} {c : Int → Nat} (h : Tal w b c m) : b < w.heap.size := by
  obtain ⟨D, h1, _⟩ := h; exact h1.lt
theorem Tal.kept {w w' : World} {b m : Nat} {c : Int → Nat} {row : Option Nat} (h : Tal w b c m) (hg : w.grownBy w' row) (hne : some b ≠ row) : Tal w' b c m := by
  obtain ⟨D, h1, h2⟩ := h; exact ⟨D, h1.kept hg hne, h2⟩
theorem Tal.below {w w' : World} {b m B : Nat} {c : Int → Nat} (h : Tal w b c m) (hb : Below B w w') (hB : b < B) : Tal w' b c m := by
  obtain ⟨D, ⟨es, clock, h1, h2⟩, h3⟩ := h
  exact ⟨D, ⟨es, clock, (hb.block b hB).trans h1, h2⟩, h3⟩
theorem Tal.belowAll {w w' : World} {b m : Nat} {c : Int → Nat} (h : Tal w b c m) (hb : Below w.heap.size w w') : Tal w' b c m := h.below hb h.lt
theorem Tal.made (w : World) : Tal (w.alloc (.map #[] 0)) w.heap.size (fun _ => 0) 0 := by
  refine ⟨.map [], World.ownsMap_made _ _ _ _, rfl, fun x => rfl, fun x => rfl⟩
theorem Tal.congr {w : World} {b m : Nat} {c c' : Int → Nat} (h : Tal w b c m) (e : ∀ x, c' x = c x) : Tal w b c' m := by
  have : c' = c := funext e
  rw [this]; exact h
/-- A count is turned. -/
def upd (c : Int → Nat) (x : Int) (n : Nat) : Int → Nat := fun y => if y = x then n else c y
theorem litne {x y : Int} (h : y ≠ x) : (Lit.int .i64 y) ≠ (Lit.int .i64 x) := fun e => h (by injection e)
theorem tal_put {w w' : World} {b m n : Nat} {c : Int → Nat} {D : DataW Unit} {x : Int} {v : Nat} (hv : 0 < v) (h0 : w.ownsMap Try.prog 3 (plainElem Try.prog 3) b m D) (h1 : Maps.size D = m) (h2 : ∀ x, Maps.has D (.int .i64 x) = decide (0 < c x)) (h3 : ∀ x, D.atKey (.int .i64 x) (.lit (.int .i64 0)) = .lit (.int .i64 (c x)))
    (ho : w'.ownsMap Try.prog 3 (plainElem Try.prog 3) b n (D.put (.int .i64 x) (.lit (.int .i64 (v : Int))))) : Tal w' b (upd c x v) (if 0 < c x then m else m + 1) := by
  have hs := size_put (k := .int .i64 x) (h0.tidy lawI) (.lit (.int .i64 (v : Int)) : DataW Unit)
  rw [h2 x, h1] at hs
  have ht := own_tight ho
  rw [hs] at ht
  refine ⟨D.put (.int .i64 x) (.lit (.int .i64 (v : Int))), ?_, ?_, fun y => ?_, fun y => ?_⟩
  · by_cases e : 0 < c x
    · simpa [e] using ht
    · simpa [e] using ht
  · rw [hs]
    by_cases e : 0 < c x <;> simp [e]
  · unfold upd
    by_cases e : y = x
    · subst e; rw [if_pos rfl, has_put_same h0.isMap (show WideAt.IsKeyLit (.int .i64 y) from trivial)]; simp [hv]
    · rw [if_neg e, has_put_other (litne e), h2]
  · unfold upd
    by_cases e : y = x
    · subst e; rw [if_pos rfl, atKey_put_same h0.isMap (show WideAt.IsKeyLit (.int .i64 y) from trivial)]
    · rw [if_neg e, atKey_put_other (litne e), h3]
theorem tal_del {w w' : World} {b m n : Nat} {c : Int → Nat} {D : DataW Unit} {x : Int} (h0 : w.ownsMap Try.prog 3 (plainElem Try.prog 3) b m D) (h1 : Maps.size D = m) (h2 : ∀ x, Maps.has D (.int .i64 x) = decide (0 < c x)) (h3 : ∀ y, y ≠ x → D.atKey (.int .i64 y) (.lit (.int .i64 0)) = .lit (.int .i64 (c y))) (hx : 0 < c x)
    (ho : w'.ownsMap Try.prog 3 (plainElem Try.prog 3) b n (D.del (.int .i64 x))) : Tal w' b (upd c x 0) (m - 1) := by
  have hs := size_del (k := .int .i64 x) (h0.tidy lawI)
  rw [h2 x, h1, if_pos (by simp [hx])] at hs
  have e : Maps.size (D.del (.int .i64 x)) = m - 1 := by omega
  have ht := own_tight ho
  rw [e] at ht
  refine ⟨D.del (.int .i64 x), ht, e, fun y => ?_, fun y => ?_⟩
  · unfold upd
    by_cases e : y = x
    · subst e; rw [if_pos rfl, has_del_same]; rfl
    · rw [if_neg e, has_del_other (litne e), h2]
  · unfold upd
    by_cases e : y = x
    · subst e; rw [if_pos rfl, atKey_del_same]; rfl
    · rw [if_neg e, atKey_del_other (litne e), h3 y e]
set_option maxRecDepth 100000 in
set_option maxHeartbeats 2000000 in
theorem add_any (b : Nat) (c : Int → Nat) (m : Nat) (x : Int) (w : World) (h : Tal w b c m) (hx : In64 x) (hc : c x ≤ 1000) (hm : m ≤ 1000) :
    Calls Try.prog 79 #[.map (some b), .int .i64 x] w fun e w' => (∃ v, e = .returned v) ∧ Tal w' b (upd c x (c x + 1)) (if 0 < c x then m else m + 1) ∧ w.grownBy w' (some b) := by
  obtain ⟨D, h0, h1, h2, h3⟩ := h
  have hkey : keyOf Try.prog 3 (.int .i64 x) = some (.int .i64 x) := keyOf_int_mk Try.underlying3 (wf64 hx)
  have hat0 := h3 x
  obtain ⟨C, hC⟩ : ∃ C, C = c x := ⟨_, rfl⟩
  rw [← hC] at hat0 hc
  have hput := fun (w' : World) n ho => tal_put (w' := w') (n := n) (x := x) (v := C + 1) (by omega) h0 h1 h2 h3 ho
  rw [← hC] at hput ⊢
  obtain ⟨M, hM⟩ : ∃ M, M = if 0 < C then m else m + 1 := ⟨_, rfl⟩
  rw [← hM] at hput ⊢
  clear hM
  have HP := Lib.hid hput
  have HAT := Lib.hid hat0
  clear h1 h2 h3 hC hput hat0
  go_enter Try.func79, Try.ntmps79
  go_wp2_with (first
    | (at_lookup; refine wpList_lookup_own_int _ rfl _ _ 74 rfl 3 3 .i64 lawI Try.underlying74 Try.underlying3 (zeroI _) b m D rfl h0 _ _ rfl hkey ?_; intro cc hat hwc; obtain rfl : cc = (C : Int) := (by rw [HAT.out] at hat; injection hat with e; injection e with e1 e2; exact e2.symm))
    | (at_mapUpdate; refine wpList_mapUpdate_own _ rfl _ _ _ 74 rfl 3 3 lawI Try.underlying74 _ b m _ rfl h0 (by unfold maxLen; omega) _ _ _ rfl rfl hkey _ [] (plainElem_int Try.underlying3 (WalkArith.wf_i64 (by omega))) ?_; intro w1 hown1 hgrow1)
    | go_in)
  go_end0
  exact ⟨⟨_, rfl⟩, HP.out w1 _ hown1, hgrow1⟩
set_option maxRecDepth 100000 in
set_option maxHeartbeats 2000000 in
theorem take_none (b : Nat) (c : Int → Nat) (m : Nat) (x : Int) (w : World) (h : Tal w b c m) (hx : In64 x) (hc : c x = 0) :
    Calls Try.prog 107 #[.map (some b), .int .i64 x] w fun e w' => e = .returned (.bool false) ∧ w = w' := by
  obtain ⟨D, h0, h1, h2, h3⟩ := h
  have hkey : keyOf Try.prog 3 (.int .i64 x) = some (.int .i64 x) := keyOf_int_mk Try.underlying3 (wf64 hx)
  have hat0 := h3 x
  rw [hc] at hat0
  have HAT := Lib.hid hat0
  clear h1 h2 h3 hat0 hc
  go_enter Try.func107, Try.ntmps107
  go_wp2_with (first
    | (at_lookup; refine wpList_lookup_own_int _ rfl _ _ 74 rfl 3 3 .i64 lawI Try.underlying74 Try.underlying3 (zeroI _) b m _ rfl h0 _ _ rfl hkey ?_; intro cc hat hwc; obtain rfl : cc = (0 : Int) := (by rw [HAT.out] at hat; injection hat with e; injection e with e1 e2; exact e2.symm))
    | go_in)
  go_ret
  exact ⟨rfl, rfl⟩
set_option maxRecDepth 100000 in
set_option maxHeartbeats 4000000 in
theorem take_some (b : Nat) (c : Int → Nat) (m : Nat) (x : Int) (w : World) (h : Tal w b c m) (hx : In64 x) (hc : c x = 1) (hm : m ≤ 1000) :
    Calls Try.prog 107 #[.map (some b), .int .i64 x] w fun e w' => e = .returned (.bool true) ∧ Tal w' b (upd c x 0) (m - 1) ∧ w.grownBy w' (some b) := by
  obtain ⟨D, h0, h1, h2, h3⟩ := h
  have hkey : keyOf Try.prog 3 (.int .i64 x) = some (.int .i64 x) := keyOf_int_mk Try.underlying3 (wf64 hx)
  have hat0 := h3 x
  rw [hc] at hat0
  have HAT := Lib.hid hat0
  have HD : Hid (∀ (w1 : World) n1, w1.ownsMap Try.prog 3 (plainElem Try.prog 3) b n1 (D.put (.int .i64 x) (.lit (.int .i64 0))) → ∀ (w2 : World) n2, w2.ownsMap Try.prog 3 (plainElem Try.prog 3) b n2 ((D.put (.int .i64 x) (.lit (.int .i64 0))).del (.int .i64 x)) → Tal w2 b (upd c x 0) (m - 1)) := by
    intro w1 n1 ho1 w2 n2 ho2
    have hs := size_put (k := .int .i64 x) (h0.tidy lawI) (.lit (.int .i64 0) : DataW Unit)
    rw [h2 x, h1, hc, if_pos (by simp)] at hs
    have ht := own_tight ho1
    rw [hs] at ht
    refine tal_del (c := c) (n := n2) ht hs (fun y => ?_) (fun y hy => ?_) (by omega) ho2
    · by_cases e : y = x
      · subst e; rw [has_put_same h0.isMap (show WideAt.IsKeyLit (.int .i64 y) from trivial), hc]; rfl
      · rw [has_put_other (litne e), h2]
    · rw [atKey_put_other (litne hy), h3]
  have HAT2 : Hid (∀ z : DataW Unit, (D.put (.int .i64 x) (.lit (.int .i64 0))).atKey (.int .i64 x) z = .lit (.int .i64 0)) := fun z => atKey_put_same h0.isMap (show WideAt.IsKeyLit (.int .i64 x) from trivial) _ _
  clear h1 h2 h3 hat0 hc
  go_enter Try.func107, Try.ntmps107
  go_wp2_with (first
    | (at_lookup; refine wpList_lookup_own_int _ rfl _ _ 74 rfl 3 3 .i64 lawI Try.underlying74 Try.underlying3 (zeroI _) b m _ rfl h0 _ _ rfl hkey ?_; intro cc hat hwc; obtain rfl : cc = (1 : Int) := (by rw [HAT.out] at hat; injection hat with e; injection e with e1 e2; exact e2.symm))
    | (at_mapUpdate; refine wpList_mapUpdate_own _ rfl _ _ _ 74 rfl 3 3 lawI Try.underlying74 _ b m _ rfl h0 (by unfold maxLen; omega) _ _ _ rfl rfl hkey _ [] (plainElem_int Try.underlying3 (by decide)) ?_; intro w1 hown1 hgrow1)
    | (at_lookup; refine wpList_lookup_own_int _ rfl _ _ 74 rfl 3 3 .i64 lawI Try.underlying74 Try.underlying3 (zeroI _) b (m + 1) _ rfl hown1 _ _ rfl hkey ?_; intro cc hat hwc; obtain rfl : cc = (0 : Int) := (by rw [HAT2.out] at hat; injection hat with e; injection e with e1 e2; exact e2.symm))
    | (at_delete; refine wpList_delete_own _ rfl _ _ 74 3 rfl 3 lawI Try.underlying74 _ b (m + 1) _ rfl hown1 _ _ rfl hkey ?_; intro w2 hown2 hturn2)
    | go_in)
  go_ret
  exact ⟨rfl, HD.out w1 _ hown1 w2 _ hown2, hgrow1.andThen hturn2.grown (fun j e => .inr e)⟩
end Go.Proofs.Ytjkcahmbocjacaa
