/-
  'append([]int{}, x...)': a copy of a slice of ints.
-/
import Derived.Test.YtlkhobofbkoliaaBase
namespace Go.Proofs.Ytlkhobofbkoliaa
open Go.RowKit

theorem dup_int {wr : World} {ops : Array Oper} {rest : List Oper} {o : Oper} {a : Act} {Q : Exit → Act → World → Prop} (hgd : o.guard = none) (s x : Operand)
    (ho : o.op = .call { callee := .builtin .append, args := #[s, x], argTypes := #[23, 23] })
    (ax : Option Addr) (l : List Int) (n cap : Nat) (hn : l.length = n) (hs : a.eval s = .slice (some ⟨wr.heap.size, 0, none⟩) 0 0) (hx : a.eval x = .slice ax n cap) (hr : Reads wr ax l) (h0 : n ≠ 0) (hl : n < 1000000)
    (h : ∀ v' w', Own w' wr.heap.size v' l → Below wr.heap.size wr w' → wpList Try.prog ops Q rest (a.put o.dst v') w') :
    wpList Try.prog ops Q (o :: rest) a (wr.alloc (.cells #[] 3)) := by
  obtain ⟨i0, hi, hz0, hz1, hz2⟩ := info_parts infoInt
  subst hn
  rcases hr with rfl | ⟨b, off, rfl, hb, hc⟩
  · simp at h0
  have hown := Own.lit0 wr wr.heap.size (Nat.le_refl _)
  refine wpList_append_own _ hgd s x 23 ho wr.heap.size 3 i0 (.int .i64 0) 1 8 Try.underlying23 hi hz0 hz1 hz2 rfl (by decide) _ 0 _ hs hown ⟨b, off, none⟩ l.length cap (l.map (Value.int .i64)) hx (by simp) ?c1 (ints_oneCell _ _) ?c3 ?c4 ?c5 fun v' w' h1 h2 _ => h v' w' ?_ ?_
  case c1 =>
    intro j u hu
    have hj : j < l.length := by simpa using (List.getElem?_eq_some_iff.1 hu).1
    rw [getD_map hj] at hu
    obtain rfl := Option.some.inj hu
    rw [Addr.add_lit, World.cell?_alloc_past _ _ _ hb]
    exact hc j hj
  case c3 => unfold maxLen; simp; omega
  case c4 => simp; omega
  case c5 => simp
  · unfold Own
    simpa using h1
  · exact ((Below.refl _ _).alloc (Nat.le_refl _) _).grown h2 (by simp) (fun q hq => by simp [Value.ownBlock] at hq; omega)
end Go.Proofs.Ytlkhobofbkoliaa
