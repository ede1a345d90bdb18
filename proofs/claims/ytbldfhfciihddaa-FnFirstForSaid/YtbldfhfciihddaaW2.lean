/-
  laws.without.
-/
import Derived.Test.YtbldfhfciihddaaY3
import Derived.Deep.AppendLies
import Derived.Deep.RegionHeld3
import Derived.Deep.RegionWith
import Derived.Deep.RegionLaw
namespace Go.Proofs.Ytbldfhfciihddaa
open Go.RowKit

theorem run_append_none2 (w : World) (ty : TypeId) (v : Value) (base c : Nat) (L : List Int) (ax : Option Addr) (h : Own w base v L) :
    (Builtin.append_ #[23, 23] ty #[v, .slice ax 0 c]).run Try.prog w = .ok v w := by
  obtain ⟨i0, hi, hz0, hz1, hz2⟩ := info_parts infoInt
  rcases h.2 with ⟨rfl, _⟩ | ⟨g, cap, cur, rfl, _, _, hnc, _⟩
  · cases ax <;> simp [Builtin.append_, run_underlying Try.underlying23, sizeOf, typeInfo, hi, Builtin.lenOf, Builtin.firstCells, loadCells, loadCellsFrom]
  · exact run_append_none w ty g L.length cap c ax hnc
theorem step_all {wr : World} {ops : Array Oper} {o : Oper} {a : Act} {K : Act → World → Prop} {Q : Exit → Act → World → Prop} {E : Prop} (hgd : o.guard = none) (s x : Operand)
    (ho : o.op = .call { callee := .builtin .append, args := #[s, x], argTypes := #[23, 23] })
    (base : Nat) (v : Value) (L : List Int) (hs : a.eval s = v) (hown : Own wr base v L) (hb : base ≤ wr.heap.size)
    (ax : Option Addr) (l : List Int) (n cap : Nat) (hn : l.length = n) (hx : a.eval x = .slice ax n cap) (hr : Reads wr ax l) (hl : n < 2000000) (hL : L.length < 2000000)
    (h : ∀ v' w', Own w' base v' (L ++ l) → wr.grownBy w' v.ownBlock → K (a.put o.dst v') w') :
    if Region.wanted o (yielded ops a.tmps) = true then Oper.wp Try.prog o a wr K Q else E := by
  have hw : Region.wanted o (yielded ops a.tmps) = true := by simp [Region.wanted, hgd]
  rw [if_pos hw]
  by_cases h0 : n = 0
  · subst h0
    have hl0 : l = [] := List.eq_nil_of_length_eq_zero hn
    subst hl0
    unfold Oper.wp execOp
    simp only [ho, resolve, invoke, builtin, Sem.run_bind, Sem.run_pure, Result.andThen_ok, List.map_toArray, List.map_cons, List.map_nil, hs, hx, run_append_none2 _ _ _ _ _ _ _ hown]
    exact h v wr (by rw [List.append_nil]; exact hown) ⟨rfl, rfl, rfl, Nat.le_refl _, fun _ _ _ => rfl⟩
  · obtain ⟨i0, hi, hz0, hz1, hz2⟩ := info_parts infoInt
    subst hn
    rcases hr with rfl | ⟨b, off, rfl, hb2, hc⟩
    · simp at h0
    refine wp_append_own wr s x 23 ho base 3 i0 (.int .i64 0) 1 8 Try.underlying23 hi hz0 hz1 hz2 rfl (by decide) v L.length _ hs hown ⟨b, off, none⟩ l.length cap (l.map (Value.int .i64)) hx (by simp) ?c1 (ints_oneCell _ _) ?c3 ?c4 hb fun v' w' h1 h2 _ => h v' w' ?_ h2
    case c1 =>
      intro j u hu
      have hj : j < l.length := by simpa using (List.getElem?_eq_some_iff.1 hu).1
      rw [getD_map hj] at hu
      obtain rfl := Option.some.inj hu
      rw [Addr.add_lit]
      exact hc j hj
    case c3 => unfold maxLen; omega
    case c4 => omega
    · unfold Own
      rw [List.length_append, List.map_append]
      exact h1
theorem Reads.drop' {w : World} {b off : Nat} {l : List Int} (h : Reads w (some ⟨b, off, none⟩) l) (k : Nat) : Reads w (some ⟨b, off + k, none⟩) (l.drop k) := by
  rcases h with rfl | ⟨b', off', e, hb, hc⟩
  · exact .inl (by simp)
  · cases e
    refine .inr ⟨b, off + k, rfl, hb, fun i hi => ?_⟩
    rw [List.length_drop] at hi
    have := hc (k + i) (by omega)
    rw [← Nat.add_assoc] at this
    rw [this]
    simp [List.getD]

set_option maxHeartbeats 4000000 in
theorem without_any (a : Option Addr) (l : List Int) (cap : Nat) (i : Nat) (w : World) (hr : Reads w a l) (hl : l.length ≤ 1000) (hc : l.length ≤ cap) (hc2 : cap ≤ 9223372036854775807) (hi : i < l.length) :
    Calls Try.prog 25 #[.slice a l.length cap, .int .i64 (i : Int)] w fun e w' => ∃ v, e = .returned v ∧ Own w' w.heap.size v (l.eraseIdx i) ∧ Below w.heap.size w w' := by
  have he : l.eraseIdx i = l.take i ++ l.drop (i + 1) := List.eraseIdx_eq_take_drop_succ l i
  obtain ⟨b, off, y, rfl, hb, _, _⟩ := hr.get hi
  obtain ⟨j, hj⟩ : ∃ j, j = i + 1 := ⟨_, rfl⟩
  rw [← hj] at he
  have hw : IntKind.i64.wrap ((i : Int) + 1) = (j : Int) := by rw [IntWalk.i64_in _ (by omega)]; omega
  have i1 : (i : Int) ≤ (cap : Int) := by omega
  have i2 : (i : Int) ≤ (l.length : Int) := by omega
  have j1 : (j : Int) ≤ (l.length : Int) := by omega
  have j2 : (j : Int) ≤ (cap : Int) := by omega
  have ht := hr.take' i
  have hd := hr.drop' j
  have htl : (l.take i).length = i := by rw [List.length_take]; omega
  have hdl : (l.drop j).length = l.length - j := List.length_drop
  have HE := Lib.hid he
  have HJ := Lib.hid hj
  have HTL := Lib.hid htl
  have HDL := Lib.hid hdl
  have hlit := Own.lit0 w w.heap.size (Nat.le_refl _)
  have b1 := (Below.refl w.heap.size w).alloc (Nat.le_refl _) (.cells #[] 3)
  clear he hj htl hdl
  by_cases hjc : cap = j
  · have hlj : l.length = j := by omega
    have he2 : l.eraseIdx i = l.take i ++ [] := by rw [HE.out, List.drop_eq_nil_of_le (by omega)]
    have HE2 := Lib.hid he2
    have hij : (i : Int) ≤ (j : Int) := by omega
    have hj0 : 0 < j := by have := HJ.out; omega
    have hi7 : i < 2000000 := by omega
    rw [hlj, hjc]
    subst hjc
    clear he2 hlj i1 i2 j1 j2 hc hd HDL
    go_enter Try.func25, Try.ntmps25
    go_wp2_with fail
    go_region_law (first | (refine step_all rfl (.tmp 5) (.tmp 8) rfl w.heap.size (.slice (some ⟨w.heap.size, 0, none⟩) 0 0) [] rfl (hlit.below (Below.refl _ _).drew) (by simp) (some ⟨b, off, none⟩) (l.take i) i cap HTL.out rfl (ht.below b1.drew) hi7 (by simp) ?_; intro v1 w1 o1 g1; have B1 := b1.drew.grown g1 (by simp) (fun q hq => by simp [Value.ownBlock] at hq; omega)) | (refine step_all rfl (.tmp 9) (.tmp 13) rfl w.heap.size v1 (l.take i) rfl o1 B1.size _ [] 0 _ rfl rfl (Reads.nil _ _) (by omega) (by have := HTL.out; omega) ?_; intro v2 w2 o2 g2; have B2 := Below.grownB B1 o1 g2 B1.size (Nat.le_refl _)))
    all_goals
      rw [← HE2.out] at o2
      go_wp2
      go_ret
      exact ⟨_, rfl, o2, B2⟩
  · go_enter Try.func25, Try.ntmps25
    go_wp2_with fail
    go_region_law (first | (refine step_all rfl (.tmp 5) (.tmp 8) rfl w.heap.size (.slice (some ⟨w.heap.size, 0, none⟩) 0 0) [] rfl (hlit.below (Below.refl _ _).drew) (by simp) (some ⟨b, off, none⟩) (l.take i) i cap HTL.out rfl (ht.below b1.drew) (by omega) (by simp) ?_; intro v1 w1 o1 g1; have B1 := b1.drew.grown g1 (by simp) (fun q hq => by simp [Value.ownBlock] at hq; omega)) | (refine step_all rfl (.tmp 9) (.tmp 13) rfl w.heap.size v1 (l.take i) rfl o1 B1.size (some ⟨b, off + j, none⟩) (l.drop j) (l.length - j) (cap - j) HDL.out rfl (hd.below B1) (by omega) (by have := HTL.out; omega) ?_; intro v2 w2 o2 g2; have B2 := Below.grownB B1 o1 g2 B1.size (Nat.le_refl _)))
    all_goals
      rw [← HE.out] at o2
      go_wp2
      go_ret
      exact ⟨_, rfl, o2, B2⟩
end Go.Proofs.Ytbldfhfciihddaa
