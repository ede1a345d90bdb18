/-
  spec.someTrips, and PeelKeys' draw.
-/
import Derived.Test.YtbldfhfciihddabD2
import Derived.Test.YtbldfhfciihddabTc
import Derived.Deep.DeepCutAuto
import Derived.Deep.LoopGhost
import Derived.Deep.AppendLies
namespace Go.Proofs.Ytbldfhfciihddab
open Go.RowKit

theorem tr_snoc_lt {ts : List (List Int)} {t : List Int} {r : Nat} (h : r < ts.length) : tr (ts ++ [t]) r = tr ts r := by
  unfold tr; simp [List.getD, List.getElem?_append_left h]
theorem tr_snoc_eq (ts : List (List Int)) (t : List Int) : tr (ts ++ [t]) ts.length = t := by
  unfold tr; simp [List.getD]
theorem bulk_snoc (ts : List (List Int)) (t : List Int) : bulk (ts ++ [t]) = bulk ts + 1 + t.length := by
  unfold bulk; simp; omega

/-- A slice of rows of the call's own, that grows. -/
def OwnT (w : World) (base : Nat) (v : Value) (ts : List (List Int)) : Prop :=
  ∃ vs : List Value, w.ownsRow base 24 1 v ts.length vs ∧ ∀ r, r < ts.length → ∃ G, vs[r]? = some (.slice (some ⟨G, 0, none⟩) (tr ts r).length (tr ts r).length) ∧ Tab w base G (tr ts r).length (tr ts r).length (tr ts r)
section
variable {w w' : World} {base : Nat} {v : Value} {ts : List (List Int)}
theorem OwnT.lt (h : OwnT w base v ts) : ∀ k, v.ownBlock = some k → base ≤ k ∧ k < w.heap.size := by
  obtain ⟨vs, h1, _⟩ := h
  exact World.ownsRow.lt h1
theorem OwnT.kept (h : OwnT w base v ts) {row : Option Nat} (hg : w.grownBy w' row) (hr : ∀ k, row = some k → k < base) : OwnT w' base v ts := by
  have hlt := h.lt
  obtain ⟨vs, h1, h2⟩ := h
  refine ⟨vs, World.ownsRow.kept h1 hg ?_, fun r hr' => ?_⟩
  · cases hv : v.ownBlock with
    | none => exact .inl rfl
    | some q =>
      refine .inr fun e => ?_
      have := hr q e.symm
      have := (hlt q hv).1
      omega
  · obtain ⟨G, h3, h4⟩ := h2 r hr'
    refine ⟨G, h3, World.ownsRow.kept h4 hg (.inr fun e => ?_)⟩
    have h5 := hr G (by rw [← e]; rfl)
    have h6 := h4.block.1
    omega
theorem OwnT.alloc (h : OwnT w base v ts) (o : Obj) : OwnT (w.alloc o) base v ts := h.kept (row := none) (World.grownBy_alloc w o none) (fun _ e => by cases e)
theorem OwnT.baseLe (h : OwnT w base v ts) {base' : Nat} (hb : base' ≤ base) : OwnT w base' v ts := by
  obtain ⟨vs, h1, h2⟩ := h
  refine ⟨vs, ?_, fun r hr' => ?_⟩
  · refine ⟨h1.1, ?_⟩
    rcases h1.2 with h | ⟨g, cap, cur, e1, e2, e3⟩
    · exact .inl h
    · exact .inr ⟨g, cap, cur, e1, Nat.le_trans hb e2, e3⟩
  · obtain ⟨G, h3, h4⟩ := h2 r hr'
    exact ⟨G, h3, h4.own.base hb⟩
theorem OwnT.lit0 (w : World) (base : Nat) (hb : base ≤ w.heap.size) : OwnT (w.alloc (.cells #[] 24)) base (.slice (some ⟨w.heap.size, 0, none⟩) 0 0) [] :=
  ⟨[], World.ownsRow_lit w #[] 0 hb (by unfold maxLen; omega) rfl, fun r hr => by simp at hr⟩
theorem OwnT.ne_row (h : OwnT w base v ts) {G n cap : Nat} {l : List Int} {base' : Nat} (ht : Tab w base' G n cap l) : v.ownBlock ≠ some G := by
  obtain ⟨vs, h1, _⟩ := h
  rcases h1.2 with ⟨rfl, _⟩ | ⟨g, c, cur, rfl, _, hg, _⟩
  · simp [Value.ownBlock]
  · intro e
    have : g = G := by simpa [Value.ownBlock] using e
    subst this
    rcases ht.2 with ⟨e, _⟩ | ⟨q, c2, cur2, e2, _, hg2, _⟩
    · cases e
    · injection e2 with e2
      injection e2 with e2
      injection e2 with e2
      subst e2
      rw [hg] at hg2
      injection hg2 with hg2
      injection hg2 with _ h3
      exact absurd h3 (by decide)
theorem OwnT.form (h : OwnT w base v ts) : ∃ a cap, v = .slice a ts.length cap ∧ ts.length ≤ cap ∧ cap ≤ maxLen ∧ ReadsS w a ts := by
  obtain ⟨vs, h1, h2⟩ := h
  have hl := h1.1
  have hc := h1
  rcases h1.2 with ⟨rfl, h0⟩ | ⟨g, cap, cur, rfl, hb, hg, hn, hm, _⟩
  · rw [h0]; exact ⟨none, 0, rfl, Nat.le_refl _, by unfold maxLen; omega, .inl (List.length_eq_zero_iff.1 h0)⟩
  · refine ⟨_, cap, rfl, hn, hm, .inr ⟨g, 0, rfl, (Array.getElem?_eq_some_iff.1 hg).1, fun r hr => ?_⟩⟩
    obtain ⟨G, h3, h4⟩ := h2 r hr
    refine ⟨_, _, ?_, Nat.le_refl _, h4.reads⟩
    rw [Nat.zero_add, World.ownsRow.cellAt hc r (by omega)]
    exact h3
end
theorem grownBy_ownT {a b c : World} {row : Option Nat} {base : Nat} {v : Value} {ts : List (List Int)} (h : a.grownBy b row) (ho : OwnT b base v ts) (hb : a.heap.size ≤ base) (k : b.grownBy c v.ownBlock) : a.grownBy c row :=
  ⟨k.os.trans h.os, k.tape.trans h.tape, k.output.trans h.output, Nat.le_trans h.size k.size, fun i hi hne => (k.block i (Nat.lt_of_lt_of_le hi h.size) (fun e => by have := (ho.lt i e.symm).1; omega)).trans (h.block i hi hne)⟩

/-- 'append(s, r)' of one row onto a slice of the call's own. -/
theorem push_row {wr : World} {ops : Array Oper} {rest : List Oper} {o : Oper} {a : Act} {Q : Exit → Act → World → Prop} (hgd : o.guard = none) (s x : Operand)
    (ho : o.op = .call { callee := .builtin .append, args := #[s, x], argTypes := #[23, 23] })
    (base : Nat) (v : Value) (ts : List (List Int)) (t : List Int) (hs : a.eval s = v) (hown : OwnT wr base v ts) (G n : Nat) (hn : t.length = n) (ht : Tab wr base G n n t) (H : Nat) (hx : a.eval x = .slice (some ⟨H, 0, none⟩) 1 1) (hH : wr.heap.size = H)
    (hl : ts.length < 1000000000) (hbase : base ≤ wr.heap.size)
    (h : ∀ v' w', OwnT w' base v' (ts ++ [t]) → wr.grownBy w' v.ownBlock → wpList Try.prog ops Q rest (a.put o.dst v') w') :
    wpList Try.prog ops Q (o :: rest) a (wr.alloc (.cells #[.slice (some ⟨G, 0, none⟩) n n] 24)) := by
  subst hH
  subst hn
  have hne := hown.ne_row ht
  have hnr : ∀ r, r < ts.length → ∀ G', Tab wr base G' (tr ts r).length (tr ts r).length (tr ts r) → v.ownBlock ≠ some G' := fun r _ G' h => hown.ne_row h
  obtain ⟨vs, h1, h2⟩ := hown
  obtain ⟨i0, hi, hz0, hz1, hz2⟩ := info_parts infoSl
  refine wpList_append_own _ hgd s x 23 ho base 24 i0 (.slice none 0 0) 1 24 Try.underlying23 hi hz0 hz1 hz2 rfl (by decide) v ts.length vs hs (World.ownsRow.alloc h1 _) ⟨wr.heap.size, 0, none⟩ 1 1 [.slice (some ⟨G, 0, none⟩) t.length t.length] hx rfl (cell_one_new _ _ _) (fun u hu => by simp at hu; subst hu; rfl) (by unfold maxLen; omega) (by omega) (by simp; omega) fun v' w' g1 g2 _ => ?_
  have hgb : wr.grownBy w' v.ownBlock := by
    refine ⟨g2.os, g2.tape, g2.output, Nat.le_trans (by simp) g2.size, fun k hk hne => ?_⟩
    rw [g2.block k (by simp; omega) hne]; exact Below.heap_alloc _ _ _ hk
  refine h v' w' ⟨vs ++ [.slice (some ⟨G, 0, none⟩) t.length t.length], by rw [List.length_append]; exact g1, fun r hr => ?_⟩ hgb
  have hvl : vs.length = ts.length := by simpa using h1.1
  by_cases e : r < ts.length
  · obtain ⟨G', h3, h4⟩ := h2 r e
    rw [tr_snoc_lt e]
    refine ⟨G', by rw [List.getElem?_append_left (by omega)]; exact h3, World.ownsRow.kept h4 hgb (.inr ?_)⟩
    exact fun e2 => hnr r e G' h4 (by rw [← e2]; rfl)
  · have : r = ts.length := by simp at hr; omega
    subst this
    rw [tr_snoc_eq]
    refine ⟨G, by rw [List.getElem?_append_right (by omega)]; simp [hvl], World.ownsRow.kept ht hgb (.inr ?_)⟩
    exact fun e2 => hne (by rw [← e2]; rfl)

/-- The next slot round the table, and how far c is from being none of a and b. -/
def nx (m c : Int) : Int := if c + 1 = m then 0 else c + 1
def wt (m a b c : Int) : Nat := if c = a then (if nx m a = b then 2 else 1) else if c = b then (if nx m b = a then 2 else 1) else 0
theorem tmod_nx {m c : Int} (h : 0 ≤ c) (h2 : c < m) : (c + 1).tmod m = nx m c := by
  rw [Int.tmod_eq_emod_of_nonneg (by omega)]
  unfold nx
  split
  · rename_i e; rw [e]; exact Int.emod_self
  · exact Int.emod_eq_of_lt (by omega) (by omega)
theorem nx_in {m c : Int} (h : 0 ≤ c) (h2 : c < m) : 0 ≤ nx m c ∧ nx m c < m := by unfold nx; split <;> omega
theorem wt_lt {m a b c : Int} (hm : 3 ≤ m) (hc : 0 ≤ c ∧ c < m) (h : c = a ∨ c = b) : wt m a b (nx m c) < wt m a b c := by
  unfold wt nx
  rcases h with rfl | rfl
  · repeat' split
    all_goals omega
  · repeat' split
    all_goals omega
theorem wt_le (m a b c : Int) : wt m a b c ≤ 2 := by unfold wt; repeat' split
                                                     all_goals omega
theorem tab_lit (w : World) (base : Nat) (l : List Int) (n : Nat) (hn : l.length = n) (h9 : n ≤ 1000) (hb : base ≤ w.heap.size) : Tab (w.alloc (.cells (l.map (Value.int .i64)).toArray 3)) base w.heap.size n n l := by
  subst hn
  have := World.ownsRow_lit (base := base) (e := 3) (size := 1) w (l.map (Value.int .i64)).toArray l.length hb (by unfold maxLen; omega) (by simp)
  simpa [Tab] using this

set_option maxHeartbeats 8000000 in
set_option maxRecDepth 100000 in
theorem someTrips_any (g p : Nat) (w : World) (hR : Rdr w g p) (hp : p ≤ 800000) :
    Calls Try.prog 19 #[.pointer (some ⟨g, 0, none⟩)] w fun e w' => ∃ (m : Int) (v : Value) (ts : List (List Int)) (q : Nat), e = .returned (.tuple #[.int .i64 m, v]) ∧ (0 ≤ m ∧ m ≤ 11) ∧ OwnT w' w.heap.size v ts ∧ bulk ts ≤ 40 ∧ Rdr w' g q ∧ q ≤ p + 100 ∧ w.grownBy w' (some g) := by
  have zg := hR.lt
  have hc1 : CellsAt (w.alloc (.cells #[.int .i64 8, .int .i64 10, .int .i64 7, .int .i64 6, .int .i64 5, .int .i64 9, .int .i64 4, .int .i64 3] 3)) w.heap.size 0 [8, 10, 7, 6, 5, 9, 4, 3] := CellsAt.lit w [8, 10, 7, 6, 5, 9, 4, 3]
  have hR1 := hR.below ((Below.refl w.heap.size w).alloc (Nat.le_refl _) (.cells #[.int .i64 8, .int .i64 10, .int .i64 7, .int .i64 6, .int .i64 5, .int .i64 9, .int .i64 4, .int .i64 3] 3))
  clear hR
  go_enter Try.func19, Try.ntmps19
  go_wp2_with fail
  refine (one_any g p _ _ [8, 10, 7, 6, 5, 9, 4, 3] _ hR1 (by omega) hc1 zg (by simp) (by simp) 8 rfl).mono ?_
  rintro e w1 ⟨m, rfl, hm, hR2, hg1'⟩
  have hm2 : 3 ≤ m ∧ m ≤ 10 := by simp at hm; omega
  have hg1 : w.grownBy w1 (some g) := grownBy_trans (World.grownBy_alloc w _ _) hg1'
  have z1 := hg1.size
  clear hm hg1' hc1 hR1
  have ho1 : OwnT (w1.alloc (.cells #[] 24)) w.heap.size (.slice (some ⟨w1.heap.size, 0, none⟩) 0 0) [] := OwnT.lit0 w1 w.heap.size z1
  have hR3 := hR2.below ((Below.refl w1.heap.size w1).alloc (Nat.le_refl _) (.cells #[] 24))
  have hg2 := grownBy_alloc' hg1 (.cells #[] 24)
  clear hR2 hg1
  obtain ⟨w2, hw2⟩ : ∃ w2, w2 = w1.alloc (.cells #[] 24) := ⟨_, rfl⟩
  rw [← hw2] at ho1 hR3 hg2
  have z2 := hg2.size
  have zg2 := hR3.lt
  have hc2 : CellsAt (w2.alloc (.cells #[.int .i64 4, .int .i64 5, .int .i64 3, .int .i64 6, .int .i64 2, .int .i64 1, .int .i64 0, .int .i64 8] 3)) w2.heap.size 0 [4, 5, 3, 6, 2, 1, 0, 8] := CellsAt.lit w2 [4, 5, 3, 6, 2, 1, 0, 8]
  have hR4 := hR3.below ((Below.refl w2.heap.size w2).alloc (Nat.le_refl _) (.cells #[.int .i64 4, .int .i64 5, .int .i64 3, .int .i64 6, .int .i64 2, .int .i64 1, .int .i64 0, .int .i64 8] 3))
  have ho2 := ho1.alloc (.cells #[.int .i64 4, .int .i64 5, .int .i64 3, .int .i64 6, .int .i64 2, .int .i64 1, .int .i64 0, .int .i64 8] 3)
  have hg3 := grownBy_alloc' hg2 (.cells #[.int .i64 4, .int .i64 5, .int .i64 3, .int .i64 6, .int .i64 2, .int .i64 1, .int .i64 0, .int .i64 8] 3)
  clear ho1 hR3 hg2
  subst hw2
  simp only [World.size_alloc] at hc2 zg2
  go_wp2_with fail
  refine (one_any g (p + 1) _ _ [4, 5, 3, 6, 2, 1, 0, 8] _ hR4 (by omega) hc2 zg2 (by simp) (by simp) 8 rfl).mono ?_
  rintro e w3 ⟨nn, rfl, hn, hR5, hg4⟩
  have hn2 : 0 ≤ nn ∧ nn ≤ 8 := by simp at hn; omega
  have ho3 := ho2.kept hg4 (fun k hk => by cases hk; exact zg)
  have hg5 := grownBy_trans hg3 hg4
  clear hn hg4 hg3 ho2 hR4 hc2 zg2 z2
  go_wp2_with fail
  go_loopg [5] 9 (fun n v wr => ∃ (ts : List (List Int)) (q : Nat), ts.length + n = 9 ∧ OwnT wr w.heap.size v ts ∧ bulk ts ≤ 4 * ts.length ∧ Rdr wr g q ∧ q ≤ p + 2 + 3 * ts.length ∧ w.grownBy wr (some g))
  case atStart => exact ⟨[], p + 2, rfl, ho3, by simp [bulk], hR5, by simp, hg5⟩
  case round =>
    clear ho3 hR5 hg5
    obtain ⟨ts, q, hln, ho, hbu, hR, hq, hg⟩ := hrel
    obtain ⟨a5, c5, rfl, _, _, _⟩ := ho.form
    have hz := hg.size
    have HLN := Lib.hid hln
    have HBU := Lib.hid hbu
    have hl9 : ts.length ≤ 9 := by omega
    clear hln hbu
    by_cases hlt : (ts.length : Int) < nn
    · go_wp2_with fail
      refine (pick_any g q _ _ hR (by omega) (by omega)).mono ?_
      rintro e wa ⟨a0, rfl, ha, hRa, hga⟩
      have ha := ha.1 (by omega)
      replace ho := ho.kept hga (fun k hk => by cases hk; exact zg)
      replace hg := grownBy_trans hg hga
      clear hga hR
      go_wp2_with fail
      refine (pick_any g (q + 1) _ _ hRa (by omega) (by omega)).mono ?_
      rintro e wb ⟨x1, rfl, hx1, hRb, hgb⟩
      have hx1 := hx1.1 (by omega)
      replace ho := ho.kept hgb (fun k hk => by cases hk; exact zg)
      replace hg := grownBy_trans hg hgb
      clear hgb hRa
      obtain ⟨b0, hb0⟩ : ∃ b0, (a0 + 1 + x1).tmod m = b0 := ⟨_, rfl⟩
      have hb : 0 ≤ b0 ∧ b0 < m := by
        rw [Int.tmod_eq_emod_of_nonneg (by omega)] at hb0
        have h1 := Int.emod_nonneg (a0 + 1 + x1) (b := m) (by omega)
        have h2 := Int.emod_lt_of_pos (a0 + 1 + x1) (b := m) (by omega)
        omega
      have hm0 : ¬ m = 0 := by omega
      go_wp2_with fail
      refine (pick_any g (q + 1 + 1) _ _ hRb (by omega) (by omega)).mono ?_
      rintro e wc ⟨x2, rfl, hx2, hRc, hgc⟩
      have hx2 := hx2.1 (by omega)
      replace ho := ho.kept hgc (fun k hk => by cases hk; exact zg)
      replace hg := grownBy_trans hg hgc
      have zc := hg.size
      clear hgc hRb hx1 hb0
      obtain ⟨c0, hc0⟩ : ∃ c0, (b0 + 1 + x2).tmod m = c0 := ⟨_, rfl⟩
      have hc : 0 ≤ c0 ∧ c0 < m := by
        rw [Int.tmod_eq_emod_of_nonneg (by omega)] at hc0
        have h1 := Int.emod_nonneg (b0 + 1 + x2) (b := m) (by omega)
        have h2 := Int.emod_lt_of_pos (b0 + 1 + x2) (b := m) (by omega)
        omega
      go_wp2_with fail
      clear hx2 hc0
      go_loop [9] (fun cv => ∃ c : Int, cv = .int .i64 c ∧ 0 ≤ c ∧ c < m) (fun cv => wt m a0 b0 (intOf cv))
      case atStart => exact ⟨c0, rfl, hc⟩
      case round =>
        clear hc
        obtain ⟨c, rfl, hcl, hch⟩ := hrel
        by_cases hca : c = a0 ∨ c = b0
        · have hwt := wt_lt hm2.1 ⟨hcl, hch⟩ hca
          have hnx := tmod_nx hcl hch
          have hin := nx_in hcl hch
          obtain ⟨d, hd⟩ : ∃ d, d = nx m c := ⟨_, rfl⟩
          rw [← hd] at hwt hnx hin
          have HWT := Lib.hid hwt
          clear hd hwt
          obtain ⟨da, hda⟩ : ∃ da, da = (c == a0) := ⟨_, rfl⟩
          obtain ⟨db, hdb⟩ : ∃ db, db = (c == b0) := ⟨_, rfl⟩
          have hor : da = true ∨ db = true := by rw [hda, hdb]; simpa using hca
          replace hda := hda.symm
          replace hdb := hdb.symm
          clear hca
          cases da with
          | true =>
            go_wp2
            go_round
            case rel => exact ⟨d, rfl, hin.1, hin.2⟩
            case measure => simpa [intOf] using HWT.out
          | false =>
            obtain rfl : db = true := by simpa using hor
            go_wp2
            go_round
            case rel => exact ⟨d, rfl, hin.1, hin.2⟩
            case measure => simpa [intOf] using HWT.out
        · have hda : (c == a0) = false := by rw [beq_eq_false_iff_ne]; intro e; exact hca (.inl e)
          have hdb : (c == b0) = false := by rw [beq_eq_false_iff_ne]; intro e; exact hca (.inr e)
          have HT : Tab (wc.alloc (.cells #[.int .i64 a0, .int .i64 b0, .int .i64 c] 3)) w.heap.size wc.heap.size 3 3 [a0, b0, c] := tab_lit wc w.heap.size [a0, b0, c] 3 rfl (by omega) zc
          have hRd := hRc.below ((Below.refl wc.heap.size wc).alloc (Nat.le_refl _) (.cells #[.int .i64 a0, .int .i64 b0, .int .i64 c] 3))
          have hod := ho.alloc (.cells #[.int .i64 a0, .int .i64 b0, .int .i64 c] 3)
          have hgd := grownBy_alloc' hg (.cells #[.int .i64 a0, .int .i64 b0, .int .i64 c] 3)
          have hgsz := hgd.size
          clear ho hg hRc hca
          go_wp2_with (at_builtin; refine push_row rfl (.tmp 54) (.tmp 59) rfl w.heap.size _ ts [a0, b0, c] rfl hod wc.heap.size 3 rfl HT _ rfl (by simp) (by omega) hgsz ?_)
          intro v' wf of gf
          have hRf := hRd.kept gf (fun k hk => by have := (hod.lt k hk).1; omega)
          have hgf := grownBy_ownT hgd hod (Nat.le_refl _) gf
          have hmu := HLN.out
          have hbu := HBU.out
          clear gf hod hgd hRd HT
          go_wp2
          go_roundg (gk - 1)
          case measure => omega
          case rel => exact ⟨ts ++ [[a0, b0, c]], q + 1 + 1 + 1, by simp; omega, of, by rw [bulk_snoc]; simp; omega, hRf, by simp; omega, hgf⟩
    · have hbu := HBU.out
      go_wp2_with fail
      refine (pick_any g q _ _ hR (by omega) (by omega)).mono ?_
      rintro e wa ⟨x1, rfl, hx1, hRa, hga⟩
      replace ho := ho.kept hga (fun k hk => by cases hk; exact zg)
      replace hg := grownBy_trans hg hga
      have za := hg.size
      have zga := hRa.lt
      clear hx1 hga hR
      by_cases h0 : x1 = 0
      · have hd0 : (x1 == 0) = true := by simp [h0]
        have hc : CellsAt (wa.alloc (.cells #[.int .i64 0, .int .i64 11, .int .i64 2] 3)) wa.heap.size 0 [0, 11, 2] := CellsAt.lit wa [0, 11, 2]
        have hR2 := hRa.below ((Below.refl wa.heap.size wa).alloc (Nat.le_refl _) (.cells #[.int .i64 0, .int .i64 11, .int .i64 2] 3))
        clear h0
        go_wp2_with fail
        refine (one_any g (q + 1) _ _ [0, 11, 2] _ hR2 (by omega) hc zga (by simp) (by simp) 3 rfl).mono ?_
        rintro e wb ⟨z, rfl, hz, hR3, hg3⟩
        have hz2 : 0 ≤ z ∧ z ≤ 11 := by simp at hz; omega
        have hob := (ho.alloc (.cells #[.int .i64 0, .int .i64 11, .int .i64 2] 3)).kept hg3 (fun k hk => by cases hk; exact zg)
        have hgb := grownBy_trans (grownBy_alloc' hg _) hg3
        clear hc hz hg3 ho hg hR2
        go_wp2
        go_ret2
        exact ⟨z, _, ts, q + 1 + 1, rfl, hz2, hob, by omega, hR3, by omega, hgb⟩
      · have hd0 : (x1 == 0) = false := by simpa using h0
        clear h0
        by_cases h1 : x1 = 1
        · have hd1 : (x1 == 1) = true := by simp [h1]
          clear h1
          have HT : Tab (wa.alloc (.cells #[.int .i64 0, .int .i64 0, .int .i64 1] 3)) w.heap.size wa.heap.size 3 3 [0, 0, 1] := tab_lit wa w.heap.size [0, 0, 1] 3 rfl (by omega) za
          have hRd := hRa.below ((Below.refl wa.heap.size wa).alloc (Nat.le_refl _) (.cells #[.int .i64 0, .int .i64 0, .int .i64 1] 3))
          have hod := ho.alloc (.cells #[.int .i64 0, .int .i64 0, .int .i64 1] 3)
          have hgd := grownBy_alloc' hg (.cells #[.int .i64 0, .int .i64 0, .int .i64 1] 3)
          have hgsz := hgd.size
          clear ho hg hRa
          go_wp2_with (at_builtin; refine push_row rfl (.tmp 72) (.tmp 74) rfl w.heap.size _ ts [0, 0, 1] rfl hod wa.heap.size 3 rfl HT _ rfl (by simp) (by omega) hgsz ?_)
          intro v' wf of gf
          have hRf := hRd.kept gf (fun k hk => by have := (hod.lt k hk).1; omega)
          have hgf := grownBy_ownT hgd hod (Nat.le_refl _) gf
          clear gf hod hgd hRd HT
          go_wp2
          go_ret2
          exact ⟨m, _, _, q + 1, rfl, by omega, of, by rw [bulk_snoc]; simp; omega, hRf, by omega, hgf⟩
        · have hd1 : (x1 == 1) = false := by simpa using h1
          clear h1
          by_cases h2 : x1 = 2
          · have hd2 : (x1 == 2) = true := by simp [h2]
            clear h2
            have HT : Tab (wa.alloc (.cells #[.int .i64 0, .int .i64 1] 3)) w.heap.size wa.heap.size 2 2 [0, 1] := tab_lit wa w.heap.size [0, 1] 2 rfl (by omega) za
            have hRd := hRa.below ((Below.refl wa.heap.size wa).alloc (Nat.le_refl _) (.cells #[.int .i64 0, .int .i64 1] 3))
            have hod := ho.alloc (.cells #[.int .i64 0, .int .i64 1] 3)
            have hgd := grownBy_alloc' hg (.cells #[.int .i64 0, .int .i64 1] 3)
            have hgsz := hgd.size
            clear ho hg hRa
            go_wp2_with (at_builtin; refine push_row rfl (.tmp 79) (.tmp 81) rfl w.heap.size _ ts [0, 1] rfl hod wa.heap.size 2 rfl HT _ rfl (by simp) (by omega) hgsz ?_)
            intro v' wf of gf
            have hRf := hRd.kept gf (fun k hk => by have := (hod.lt k hk).1; omega)
            have hgf := grownBy_ownT hgd hod (Nat.le_refl _) gf
            clear gf hod hgd hRd HT
            go_wp2
            go_ret2
            exact ⟨m, _, _, q + 1, rfl, by omega, of, by rw [bulk_snoc]; simp; omega, hRf, by omega, hgf⟩
          · have hd2 : (x1 == 2) = false := by simpa using h2
            clear h2
            go_wp2
            go_ret2
            exact ⟨m, _, ts, q + 1, rfl, by omega, ho, by omega, hRa, by omega, hg⟩

end Go.Proofs.Ytbldfhfciihddab
