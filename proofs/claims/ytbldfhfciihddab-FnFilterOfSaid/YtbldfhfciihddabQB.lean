/-
  slices.Backward, as impl.FilterOf ranges over it.
-/
import Derived.RangeFuncWrites
import Derived.RangeFuncBox
import Derived.RangeFuncCalls
import Derived.RangeFuncLeaves
import Derived.Shelf.Abstract
import Derived.WalkKit
import Derived.OwnWalkIn
import Derived.TacticsInMore
import Derived.LoopNIn
import Derived.LoopIn
import Derived.Test.YtbldfhfciihddabQF
import Derived.Test.YtbldfhfciihddabQT
import Derived.Test.YtbldfhfciihddabG11
namespace Go.Proofs.Ytbldfhfciihddab
open Go.RowKit Go.Shelf

attribute [local go_sem] Oper.semAt_some

/-- All blocks but g keep their cells. -/
def KeptBut (g : Nat) (W W' : World) : Prop := ∀ b o v, b ≠ g → W.cell? ⟨b, o, none⟩ = some v → W'.cell? ⟨b, o, none⟩ = some v
theorem KeptBut.refl (g : Nat) (W : World) : KeptBut g W W := fun _ _ _ _ h => h
theorem KeptBut.trans {g : Nat} {A B C : World} (h : KeptBut g A B) (k : KeptBut g B C) : KeptBut g A C := fun b o v hb hv => k b o v hb (h b o v hb hv)
theorem KeptBut.put {g : Nat} (W : World) (l : Nat) (o o' : Obj) (h : W.heap[l]? = some o) (hc : o.isCells = false) : KeptBut g W (W.putObj l o') :=
  fun _ _ _ _ hv => cell_kept hv (grownBy_putObj' W l o') (fun r e => by cases e; exact ⟨_, h, hc⟩)
theorem KeptBut.store (g s : Nat) (W : World) (v : Value) : KeptBut g W (W.setCell ⟨g, s, none⟩ v) := fun b o x hb hx => by
  exact (World.cell?_setCell_other (w := W) (a := ⟨g, s, none⟩) (b := ⟨b, o, none⟩) (v := v) (by intro e; exact hb (by cases e; rfl))).trans hx

/-- The numbers below n, from the last one on. -/
def dn (n : Nat) : Nat → List {i : Nat // i < n}
  | 0 => []
  | k + 1 => if h : n - 1 - k < n then dn n k ++ [⟨n - 1 - k, h⟩] else dn n k
theorem dn_len {n k : Nat} (hk : k ≤ n) : (dn n k).length = k := by
  induction k with
  | zero => rfl
  | succ k ih => rw [dn, dif_pos (by omega), List.length_append, ih (by omega)]; rfl
/-- The filter behind the keys of a list of places. -/
def flq (M : Nat) (ts : List (List Int)) (ps K S : List Nat) (l : List Nat) : List Nat :=
  l.foldl (fun L i => L.set (S.getD i 0) (ps.getD (K.getD i 0) 0 ^^^ xk L 0 (th ts (K.getD i 0)) 3)) (List.replicate M 0)
theorem flq_snoc (M : Nat) (ts : List (List Int)) (ps K S l : List Nat) (i : Nat) : flq M ts ps K S (l ++ [i]) = (flq M ts ps K S l).set (S.getD i 0) (ps.getD (K.getD i 0) 0 ^^^ xk (flq M ts ps K S l) 0 (th ts (K.getD i 0)) 3) := by
  simp [flq]
theorem flq_len (M : Nat) (ts : List (List Int)) (ps K S : List Nat) : ∀ l, (flq M ts ps K S l).length = M := by
  intro l
  unfold flq
  have : ∀ (l : List Nat) (L : List Nat), L.length = M → (l.foldl (fun L i => L.set (S.getD i 0) (ps.getD (K.getD i 0) 0 ^^^ xk L 0 (th ts (K.getD i 0)) 3)) L).length = M := by
    intro l
    induction l with
    | nil => intro L h; exact h
    | cons i l ih => intro L h; exact ih _ (by simpa using h)
  exact this l _ (by simp)
theorem flq_lt {M : Nat} {ts : List (List Int)} {ps K S : List Nat} (hp : ∀ x ∈ ps, x < 256) : ∀ l, ∀ x ∈ flq M ts ps K S l, x < 256 := by
  intro l
  unfold flq
  have : ∀ (l : List Nat) (L : List Nat), (∀ x ∈ L, x < 256) → ∀ x ∈ (l.foldl (fun L i => L.set (S.getD i 0) (ps.getD (K.getD i 0) 0 ^^^ xk L 0 (th ts (K.getD i 0)) 3)) L), x < 256 := by
    intro l
    induction l with
    | nil => intro L h; exact h
    | cons i l ih =>
      intro L h
      refine ih _ fun x hx => ?_
      rcases List.mem_or_eq_of_mem_set hx with hx | rfl
      · exact h x hx
      · exact Nat.xor_lt_two_pow (n := 8) (getD_lt hp (by omega) _) (xk_lt h (by omega) 3)
  exact this l _ (fun x hx => by simp at hx; omega)
theorem flq_dn (M : Nat) (ts : List (List Int)) (ps K S : List Nat) : ∀ j, j ≤ K.length → flq M ts ps K S ((dn K.length j).map (·.1)) = fl M ts ps K S j := by
  intro j
  induction j with
  | zero => intro _; rfl
  | succ j ih =>
    intro hj
    rw [dn, dif_pos (by omega), List.map_append, List.map_singleton, flq_snoc, ih (by omega), fl]
    congr 1
    simp only [xk, Nat.zero_xor]
    rw [← Nat.xor_assoc, ← Nat.xor_assoc]

set_option maxRecDepth 100000 in
set_option maxHeartbeats 2000000 in
/-- slices.Backward's closure, for every loop body that keeps all blocks but g. -/
theorem back1_in (n : Nat) (hn : 1 ≤ n) (l Bs g b off cap : Nat) (K : List Nat) (hK : K.length ≤ 100000) (hb : Bs ≠ g) (hb2 : b ≠ g) (J Jx : List {i : Nat // i < K.length} → World → Prop)
    (hY : ∀ pre x W, J pre W → pre.length < K.length → YieldAt Fence.wide (n - 1) Try.prog l #[.int .i64 (x.1 : Int), .int .i64 ((K.getD x.1 0 : Nat) : Int)] W fun e W' =>
      (e = .returned (.bool true) ∧ J (pre ++ [x]) W' ∧ KeptBut g W W') ∨ (e = .returned (.bool false) ∧ Jx (pre ++ [x]) W'))
    (W : World) (hBs : W.cell? ⟨Bs, 0, none⟩ = some (.slice (some ⟨b, off, none⟩) K.length cap)) (hc : ∀ j, j < K.length → W.cell? ⟨b, off + j, none⟩ = some (.int .i64 ((K.getD j 0 : Nat) : Int))) (h0 : J [] W) :
    CallsIn Fence.wide n Try.prog 32 #[.func (.yield l) #[] #[], .pointer (some ⟨Bs, 0, none⟩)] W fun e W' => (∃ v, e = .returned v) ∧
      ((∃ ys, ys = dn K.length K.length ∧ J ys W') ∨ (∃ pre, True ∧ Jx pre W')) := by
  obtain ⟨N, hN⟩ : ∃ N, N = K.length := ⟨_, rfl⟩
  have hw : IntKind.i64.wrap ((K.length : Int) - 1) = (K.length : Int) - 1 := IntWalk.i64_in _ (by omega)
  refine callsIn_of_wp Try.func32 rfl trivial ?_ rfl
  simp only [Try.ntmps32, List.size_toArray, List.length_cons, List.length_nil, Nat.reduceAdd, Nat.reduceSub, Array.replicate_succ, Array.replicate_zero, List.push_toArray, List.append_toArray, List.nil_append, List.cons_append]
  gi_wp2
  gi_loopw [3] (fun iv wr => ∃ (k i1 : Nat) (v : Int), k + i1 = K.length ∧ iv = .int .i64 v ∧ v = (i1 : Int) - 1 ∧ J (dn K.length k) wr ∧ KeptBut g W wr)
    (fun iv _ => (intOf iv + 1).toNat)
  case atStart => exact ⟨0, K.length, _, by omega, rfl, rfl, h0, KeptBut.refl _ _⟩
  case round =>
    obtain ⟨k, i1, v, hki, rfl, hv, hJs, hnx⟩ := hrel
    have HKI := Lib.hid hki
    have hBw := hnx _ _ _ hb hBs
    cases i1 with
    | zero =>
      obtain rfl : v = -1 := by omega
      obtain rfl : k = K.length := by omega
      clear hv hki
      gi_wp2
      go_end0
      exact ⟨⟨_, rfl⟩, .inl ⟨_, rfl, hJs⟩⟩
    | succ i =>
      obtain rfl : v = (i : Int) := by omega
      clear hv hki
      have hi : i < K.length := by have := HKI.out; omega
      have hi1 : (i : Int) < (K.length : Int) := by omega
      have hcw := hnx _ _ _ hb2 (hc i hi)
      have hiw : IntKind.i64.wrap ((i : Int) - 1) = (i : Int) - 1 := IntWalk.i64_in _ (by omega)
      obtain ⟨fn, tmps, assign, body, hy, hR⟩ := hY _ ⟨i, hi⟩ wr hJs (by rw [dn_len (by have := HKI.out; omega)]; have := HKI.out; omega)
      dsimp only at hy
      obtain ⟨y, hyy⟩ : ∃ y, y = K.getD i 0 := ⟨_, rfl⟩
      rw [← hyy] at hy hcw
      have HYY := Lib.hid hyy
      clear hyy
      have hdn : dn K.length k ++ [⟨i, hi⟩] = dn K.length (k + 1) := by
        have e : K.length - 1 - k = i := by have := HKI.out; omega
        rw [dn, dif_pos (by omega)]
        congr 2
        exact Subtype.ext e.symm
      have HDN := Lib.hid hdn
      clear hdn
      gi_wp2
      refine hR.mono ?_
      rintro e W3 (⟨rfl, hJ3, hk3⟩ | ⟨rfl, hJx3⟩)
      · gi_wp2
        go_roundw
        case rel => exact ⟨k + 1, i, _, by have := HKI.out; omega, by first | rfl | go_num, rfl, by rw [← HDN.out]; exact hJ3, hnx.trans hk3⟩
        case measure => simp [intOf]
      · gi_wp2
        refine bodyPost_ret (results_none rfl _ _ _) rfl ?_
        exact ⟨⟨_, rfl⟩, .inr ⟨_, trivial, hJx3⟩⟩
end Go.Proofs.Ytbldfhfciihddab
