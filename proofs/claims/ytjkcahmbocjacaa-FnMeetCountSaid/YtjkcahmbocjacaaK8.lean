/-
  spec.meetFrom.
-/
import Derived.Test.YtjkcahmbocjacaaK6
import Derived.Test.YtjkcahmbocjacaaV6
import Derived.Lib.AppendZerosOnto
import Derived.Lib.AppendZeros
namespace Go.Proofs.Ytjkcahmbocjacaa
open Go.RowKit

theorem run_append_noneB (w : World) (ty : TypeId) (g n cap c : Nat) (ax : Option Addr) (h : n ≤ cap) :
    (Builtin.append_ #[36, 36] ty #[.slice (some ⟨g, 0, none⟩) n cap, .slice ax 0 c]).run Try.prog w = .ok (.slice (some ⟨g, 0, none⟩) n cap) w := by
  obtain ⟨i0, hi, hz0, hz1, hz2⟩ := info_parts infoInt
  cases ax <;> simp [Builtin.append_, run_underlying Try.underlying36, sizeOf, typeInfo, hi, Builtin.lenOf, h, Builtin.firstCells, loadCells, loadCellsFrom, storeCells]
theorem push_allK {wr : World} {ops : Array Oper} {rest : List Oper} {o : Oper} {a : Act} {Q : Exit → Act → World → Prop} (hgd : o.guard = none) (s x : Operand)
    (ho : o.op = .call { callee := .builtin .append, args := #[s, x], argTypes := #[36, 36] })
    (base : Nat) (v : Value) (L : List Int) (hs : a.eval s = v) (hown : Own wr base v L) (hb : base ≤ wr.heap.size)
    (ax : Option Addr) (l : List Int) (n cap : Nat) (hn : l.length = n) (hx : a.eval x = .slice ax n cap) (hr : Reads wr ax l) (h0 : n ≠ 0) (hl : n < 2000000) (hL : L.length < 2000000)
    (h : ∀ v' w', Own w' base v' (L ++ l) → wr.grownBy w' v.ownBlock → wpList Try.prog ops Q rest (a.put o.dst v') w') :
    wpList Try.prog ops Q (o :: rest) a wr := by
  obtain ⟨i0, hi, hz0, hz1, hz2⟩ := info_parts infoInt
  subst hn
  rcases hr with rfl | ⟨b, off, rfl, hb2, hc⟩
  · simp at h0
  refine wpList_append_own _ hgd s x 36 ho base 3 i0 (.int .i64 0) 1 8 Try.underlying36 hi hz0 hz1 hz2 rfl (by decide) _ L.length _ hs hown ⟨b, off, none⟩ l.length cap (l.map (Value.int .i64)) hx (by simp) ?c1 (ints_oneCell _ _) ?c3 ?c4 hb fun v' w' h1 h2 _ => h v' w' ?_ h2
  case c1 =>
    intro j u hu
    have hj : j < l.length := by simpa using (List.getElem?_eq_some_iff.1 hu).1
    rw [getD_map hj] at hu
    obtain rfl := Option.some.inj hu
    rw [Addr.add_lit]
    exact hc j hj
  case c3 => unfold maxLen; omega
  case c4 => omega
  · unfold Own
    rw [List.length_append, List.map_append]
    exact h1

theorem run_append_noneK (w : World) (ty : TypeId) (v : Value) (base c : Nat) (L : List Int) (ax : Option Addr) (h : Own w base v L) :
    (Builtin.append_ #[36, 36] ty #[v, .slice ax 0 c]).run Try.prog w = .ok v w := by
  obtain ⟨i0, hi, hz0, hz1, hz2⟩ := info_parts infoInt
  rcases h.2 with ⟨rfl, _⟩ | ⟨g, cap, cur, rfl, _, _, hnc, _⟩
  · cases ax <;> simp [Builtin.append_, run_underlying Try.underlying36, sizeOf, typeInfo, hi, Builtin.lenOf, Builtin.firstCells, loadCells, loadCellsFrom]
  · exact run_append_noneB w ty g L.length cap c ax hnc
theorem push_allZ {wr : World} {ops : Array Oper} {rest : List Oper} {o : Oper} {a : Act} {Q : Exit → Act → World → Prop} (hgd : o.guard = none) (s x : Operand)
    (ho : o.op = .call { callee := .builtin .append, args := #[s, x], argTypes := #[36, 36] })
    (base : Nat) (v : Value) (L : List Int) (hs : a.eval s = v) (hown : Own wr base v L) (hb : base ≤ wr.heap.size)
    (ax : Option Addr) (l : List Int) (n cap : Nat) (hn : l.length = n) (hx : a.eval x = .slice ax n cap) (hr : Reads wr ax l) (hl : n < 2000000) (hL : L.length < 2000000)
    (h : ∀ v' w', Own w' base v' (L ++ l) → wr.grownBy w' v.ownBlock → wpList Try.prog ops Q rest (a.put o.dst v') w') :
    wpList Try.prog ops Q (o :: rest) a wr := by
  by_cases h0 : n = 0
  · subst h0
    have hl0 : l = [] := List.eq_nil_of_length_eq_zero hn
    subst hl0
    refine wpList_plain hgd fun _ hK => ?_
    unfold Oper.wp execOp
    simp only [ho, resolve, invoke, builtin, Sem.run_bind, Sem.run_pure, Result.andThen_ok, List.map_toArray, List.map_cons, List.map_nil, hs, hx, run_append_noneK _ _ _ _ _ _ _ hown]
    exact hK _ _ (h v wr (by rw [List.append_nil]; exact hown) ⟨rfl, rfl, rfl, Nat.le_refl _, fun _ _ _ => rfl⟩)
  · exact push_allK hgd s x ho base v L hs hown hb ax l n cap hn hx hr h0 hl hL h
theorem mfr_snoc (n a b f : Nat) (head : List Int) (k : Nat) (acc : Nat × Nat) : mfr n a b f head (List.range (k + 1)) acc = if head.contains (k : Int) then mfr n a b f head (List.range k) acc else ((mfr n a b f head (List.range k) acc).1 + (mf n a b f (head ++ [(k : Int)])).1, (mfr n a b f head (List.range k) acc).2 + (mf n a b f (head ++ [(k : Int)])).2) := by
  unfold mfr
  rw [List.range_succ, List.foldl_append]
  rfl
theorem mf_small (n a b : Nat) : ∀ f (head : List Int), (mf n a b f head).1 ≤ n ^ f ∧ (mf n a b f head).2 ≤ n ^ f := by
  intro f
  induction f with
  | zero => intro head; simp only [mf]; split <;> simp
  | succ f ih =>
    intro head
    rw [mf_succ]
    have key : ∀ k, (mfr n a b f head (List.range k) (0, 0)).1 ≤ k * n ^ f ∧ (mfr n a b f head (List.range k) (0, 0)).2 ≤ k * n ^ f := by
      intro k
      induction k with
      | zero => simp [mfr]
      | succ k ihk =>
        rw [mfr_snoc]
        have h1 := ih (head ++ [(k : Int)])
        have h2 : (k + 1) * n ^ f = k * n ^ f + n ^ f := Nat.succ_mul _ _
        split <;> (try simp only) <;> omega
    have := key n
    rw [Nat.pow_succ, Nat.mul_comm]
    exact this
theorem pow5_le {n f : Nat} (hn : n ≤ 5) (hf : f ≤ 5) : n ^ f ≤ 3125 := by
  have h1 : n ^ f ≤ 5 ^ f := Nat.pow_le_pow_left hn f
  have h2 : 5 ^ f ≤ 5 ^ 5 := Nat.pow_le_pow_right (by omega) hf
  exact Nat.le_trans h1 (Nat.le_trans h2 (by decide))
theorem mfr_small {n a b f : Nat} (head : List Int) (k : Nat) (hn : n ≤ 5) (hf : f ≤ 5) (hk : k ≤ 5) : (mfr n a b f head (List.range k) (0, 0)).1 ≤ 20000 ∧ (mfr n a b f head (List.range k) (0, 0)).2 ≤ 20000 := by
  have hp := pow5_le hn hf
  have key : ∀ M, n ^ f ≤ M → ∀ k, (mfr n a b f head (List.range k) (0, 0)).1 ≤ k * M ∧ (mfr n a b f head (List.range k) (0, 0)).2 ≤ k * M := by
    intro M hM k
    induction k with
    | zero => simp [mfr]
    | succ k ihk =>
      rw [mfr_snoc]
      have h1 := mf_small n a b f (head ++ [(k : Int)])
      have h2 : (k + 1) * M = k * M + M := Nat.succ_mul _ _
      split <;> (try simp only) <;> omega
  have h1 := key 3125 hp k
  have h2 : k * 3125 ≤ 5 * 3125 := Nat.mul_le_mul_right _ hk
  omega
set_option maxRecDepth 100000 in
set_option maxHeartbeats 8000000 in
theorem meetFrom_any (n a b : Nat) (hn : n ≤ 5) (ha : a ≤ 1000000) (hb : b ≤ 1000000) : ∀ (f : Nat) (ah : Option Addr) (head : List Int) (ch : Nat) (w : World), head.length + f = n → Reads w ah head → head.length ≤ ch → (∀ x ∈ head, 0 ≤ x ∧ x ≤ 40) →
    Calls Try.prog 95 #[.int .i64 (n : Int), .slice ah head.length ch, .int .i64 (a : Int), .int .i64 (b : Int)] w fun e w' => e = .returned (.tuple #[.int .i64 ((mf n a b f head).1 : Int), .int .i64 ((mf n a b f head).2 : Int)]) ∧ Below w.heap.size w w' := by
  intro f
  induction f with
  | zero =>
    intro ah head ch w hl hr hc hm
    have e0 : ((head.length : Int) == (n : Int)) = true := by simp; omega
    have ca := fun wx h => specFirstIn_any a ah head ch wx h (by omega) ha hm
    have cb := fun wx h => specFirstIn_any b ah head ch wx h (by omega) hb hm
    obtain ⟨A, hA⟩ : ∃ A, A = fi a head := ⟨_, rfl⟩
    obtain ⟨B, hB⟩ : ∃ B, B = fi b head := ⟨_, rfl⟩
    have hmf : mf n a b 0 head = if A = B then (1, 1) else (0, 1) := by rw [hA, hB]; rfl
    rw [← hA] at ca
    rw [← hB] at cb
    rw [hmf]
    have CA := Lib.hid ca
    have CB := Lib.hid cb
    clear ca cb hA hB hmf
    by_cases hAB : A = B
    · rw [if_pos hAB]
      subst hAB
      go_enter Try.func95, Try.ntmps95
      go_wp2_with fail
      refine (CA.out _ hr).mono ?_
      rintro e w' ⟨rfl, rfl⟩
      go_wp2_with fail
      refine (CB.out _ hr).mono ?_
      rintro e w' ⟨rfl, rfl⟩
      go_wp2
      go_ret2
      exact ⟨rfl, Below.refl _ _⟩
    · rw [if_neg hAB]
      have e1 : (A == B) = false := by simpa using hAB
      go_enter Try.func95, Try.ntmps95
      go_wp2_with fail
      refine (CA.out _ hr).mono ?_
      rintro e w' ⟨rfl, rfl⟩
      go_wp2_with fail
      refine (CB.out _ hr).mono ?_
      rintro e w' ⟨rfl, rfl⟩
      go_wp2
      go_ret2
      exact ⟨rfl, Below.refl _ _⟩
  | succ f ih =>
    intro ah head ch w hl hr hc hm
    have e0 : ((head.length : Int) == (n : Int)) = false := by
      rw [beq_eq_false_iff_ne]; omega
    rw [mf_succ]
    have IH := Lib.hid ih
    have HM := Lib.hid hm
    clear ih hm
    go_enter Try.func95, Try.ntmps95
    go_wp2
    go_loopw [10, 11, 12] (fun sv av iv wr => ∃ (k p q : Nat), k ≤ n ∧ iv = .int .i64 (k : Int) ∧ sv = .int .i64 (p : Int) ∧ av = .int .i64 (q : Int) ∧ Hid (mfr n a b f head (List.range k) (0, 0) = (p, q)) ∧ Below w.heap.size w wr) (fun _ _ iv _ => n - (intOf iv).toNat)
    case atStart => exact ⟨0, 0, 0, by omega, rfl, rfl, rfl, rfl, Below.refl _ _⟩
    case round =>
      rename World => wo
      obtain ⟨k, p, q, hk, rfl, rfl, rfl, hmr, hB⟩ := hrel
      have hpq := mfr_small (n := n) (a := a) (b := b) (f := f) head k hn (by omega) (by omega)
      rw [hmr.out] at hpq
      simp only at hpq
      by_cases hlt : k < n
      · have hk1 : (k : Int) < (n : Int) := by omega
        have hro := hr.below hB
        have ch0 := has_any ah head head.length ch (k : Int) wo hro rfl (by omega)
        have hsn := mfr_snoc n a b f head k (0, 0)
        rw [hmr.out] at hsn
        by_cases hin : inL head (k : Int) = true
        · rw [hin] at ch0
          rw [if_pos (show head.contains (k : Int) = true by simpa [inL] using hin)] at hsn
          have CH := Lib.hid ch0
          have HS := Lib.hid hsn
          clear ch0 hsn hin hmr
          go_wp2_with fail
          refine CH.out.mono ?_
          rintro e w' ⟨rfl, rfl⟩
          go_wp2
          go_roundw
          case rel => exact ⟨k + 1, p, q, by omega, by go_num, rfl, rfl, HS.out, hB⟩
          case measure => simp [intOf]; omega
        · rw [show inL head (k : Int) = false by simpa using hin] at ch0
          rw [if_neg (show ¬ head.contains (k : Int) = true by simpa [inL] using hin)] at hsn
          have CH := Lib.hid ch0
          have hms := mf_small n a b f (head ++ [(k : Int)])
          have hp5 := pow5_le (n := n) (f := f) hn (by omega)
          obtain ⟨P, hP⟩ : ∃ P, P = (mf n a b f (head ++ [(k : Int)])).1 := ⟨_, rfl⟩
          obtain ⟨Q, hQ⟩ : ∃ Q, Q = (mf n a b f (head ++ [(k : Int)])).2 := ⟨_, rfl⟩
          have hrec := fun ah2 ch2 wx h1 h2 => IH.out ah2 (head ++ [(k : Int)]) ch2 wx (by simp; omega) h1 h2 (fun x hx => by
            rcases List.mem_append.1 hx with h | h
            · exact HM.out x h
            · rw [List.mem_singleton] at h; subst h; omega)
          rw [← hP, ← hQ] at hsn hms hrec
          obtain ⟨hd2, hh2⟩ : ∃ hd2, hd2 = head ++ [(k : Int)] := ⟨_, rfl⟩
          rw [← hh2] at hrec
          have HH := Lib.hid hh2
          have HS := Lib.hid hsn
          have HR := Lib.hid hrec
          clear ch0 hsn hin hmr hP hQ hrec hh2
          have hlit := Own.lit0 wo wo.heap.size (Nat.le_refl _)
          have b1 := (Below.refl wo.heap.size wo).alloc (Nat.le_refl _) (.cells #[] 3)
          have hr2 := hro
          clear hro
          go_wp2_with fail
          refine CH.out.mono ?_
          rintro e w' ⟨rfl, rfl⟩
          go_wp2_with (at_builtin; refine push_allZ rfl _ _ rfl wo.heap.size (.slice (some ⟨wo.heap.size, 0, none⟩) 0 0) [] rfl hlit b1.size ah head head.length ch rfl rfl (hr2.below b1) (by omega) (by simp) ?_)
          intro v1 w1 o1 g1
          have hB1 := b1.grown g1 b1.size (fun j hj => (hlit.lt j hj).1)
          have z1 := hB1.size
          clear g1 hlit b1
          go_wp2_with (at_builtin; refine push_int rfl (.tmp 39) (.tmp 41) rfl wo.heap.size v1 head (k : Int) rfl o1 rfl (by omega) z1 ?_)
          intro v2 w2 o2 ne g2
          rw [← HH.out] at o2
          have hB2 := hB1.grown g2 hB1.size (fun j hj => (o1.lt j hj).1)
          obtain ⟨a2, c2, rfl, hrd, hlc, _, _⟩ := o2.form
          have CR := Lib.hid (HR.out a2 c2 w2 hrd hlc)
          clear o2 g2 o1 hB1 ne
          go_wp2_with fail
          refine CR.out.mono ?_
          rintro e w3 ⟨rfl, b3⟩
          have hB3 := hB.trans ((hB2.trans (b3.mono hB2.size)).mono hB.size)
          clear b3 hB2 hB CR hrd
          go_wp2
          go_roundw
          case rel => exact ⟨k + 1, p + P, q + Q, by omega, by go_num, by go_num, by go_num, HS.out, hB3⟩
          case measure => simp [intOf]; omega
      · obtain rfl : k = n := by omega
        have HM2 := Lib.hid (show mfr k a b f head (List.range k) (0, 0) = (p, q) from hmr.out)
        clear hmr hpq
        go_wp2
        go_ret2
        exact ⟨by rw [HM2.out]; rfl, hB⟩
end Go.Proofs.Ytjkcahmbocjacaa
