/-
  Keys behind pointers and tables of them; impl.exchanged, choices, beside, keysOf, copyOf, numbersOf.
-/
import Derived.Test.YtlkhobofbkoliaaPd
import Derived.Test.YtlkhobofbkoliaaG3
import Derived.Deep.DeepCutAuto
import Derived.Deep.RegionWith
import Derived.Deep.OwnRows
import Derived.Laws.CopyOwn
namespace Go.Proofs.Ytlkhobofbkoliaa
open Go.RowKit

/-- Block q is the key k. -/
def KB (w : World) (l : List (Int × Int)) (q k : Nat) : Prop := w.heap[q]? = some (.cells #[.int .i64 k, .int .i64 (pA l k), .int .i64 (pB l k)] 119 (0, 0))
theorem KB.lt {w : World} {l : List (Int × Int)} {q k : Nat} (h : KB w l q k) : q < w.heap.size := (Array.getElem?_eq_some_iff.1 h).1
theorem KB.below {w w' : World} {l : List (Int × Int)} {q k : Nat} (hb : Below w.heap.size w w') (h : KB w l q k) : KB w' l q k := (hb.block q h.lt).trans h
theorem KB.store {w : World} {l : List (Int × Int)} {q k : Nat} (h : KB w l q k) {g : Nat} (hne : q ≠ g) (i : Nat) (v : Value) : KB (w.setCell ⟨g, i, none⟩ v) l q k := (heap_setCell_other w ⟨g, i, none⟩ q v hne).trans h
theorem KB.alloc {w : World} {l : List (Int × Int)} {q k : Nat} (h : KB w l q k) (o : Obj) : KB (w.alloc o) l q k := (Below.heap_alloc w o q h.lt).trans h
theorem KB.cells {w : World} {l : List (Int × Int)} {q k : Nat} (h : KB w l q k) : w.cell? ⟨q, 0, none⟩ = some (.int .i64 k) ∧ w.cell? ⟨q, 1, none⟩ = some (.int .i64 (pA l k)) ∧ w.cell? ⟨q, 2, none⟩ = some (.int .i64 (pB l k)) :=
  ⟨by rw [cell_of_row w q 0 _ _ _ h]; rfl, by rw [cell_of_row w q 1 _ _ _ h]; rfl, by rw [cell_of_row w q 2 _ _ _ h]; rfl⟩
/-- The first n keys lie in the blocks ka 0, ka 1, .. from base on. -/
def KF (w : World) (base : Nat) (l : List (Int × Int)) (n : Nat) (ka : Nat → Nat) : Prop := ∀ k, k < n → base ≤ ka k ∧ KB w l (ka k) k
theorem KF.below {w w' : World} {base : Nat} {l : List (Int × Int)} {n : Nat} {ka : Nat → Nat} (hb : Below w.heap.size w w') (h : KF w base l n ka) : KF w' base l n ka := fun k hk => ⟨(h k hk).1, (h k hk).2.below hb⟩

/-- What a slot with x holds: the pointer to the key, or none. -/
def ptr (ka : Nat → Nat) (x : Int) : Value := if x < 0 then .pointer none else .pointer (some ⟨ka x.toNat, 0, none⟩)
theorem ptr_neg (ka : Nat → Nat) {x : Int} (h : x < 0) : ptr ka x = .pointer none := by unfold ptr; rw [if_pos h]
theorem ptr_nat (ka : Nat → Nat) (k : Nat) : ptr ka k = .pointer (some ⟨ka k, 0, none⟩) := by unfold ptr; rw [if_neg (by omega)]; simp
/-- A table of pointers. -/
def PT (w : World) (base g n cap : Nat) (t : List Int) (ka : Nat → Nat) : Prop := w.ownsRow base 98 1 (.slice (some ⟨g, 0, none⟩) n cap) n (t.map (ptr ka))
section
variable {w : World} {base g n cap : Nat} {t : List Int} {ka : Nat → Nat}
theorem PT.len (h : PT w base g n cap t ka) : t.length = n := by simpa using h.1
theorem PT.get (h : PT w base g n cap t ka) {k : Nat} (hk : k < n) : w.cell? ⟨g, k, none⟩ = some (ptr ka (t.getD k 0)) := by
  rw [World.ownsRow.cellAt h k (by omega)]
  have := h.len
  simp [List.getD, this, hk]
theorem PT.frozen (h : PT w base g n cap t ka) (k : Nat) : w.frozen? ⟨g, k, none⟩ = false := World.ownsRow.frozenAt h k
theorem PT.store (h : PT w base g n cap t ka) (s : Nat) (x : Int) : PT (w.setCell ⟨g, s, none⟩ (ptr ka x)) base g n cap (t.set s x) ka := by
  unfold PT; rw [List.map_set]; exact (World.ownsRow.stored h s _).1
theorem PT.block (h : PT w base g n cap t ka) : base ≤ g ∧ g < w.heap.size := World.ownsRow.lt h g rfl
theorem PT.below {w' : World} (hb : Below w.heap.size w w') (h : PT w base g n cap t ka) : PT w' base g n cap t ka := by
  refine ⟨h.1, ?_⟩
  rcases h.2 with hn | ⟨q, c, cur, hv, hbg, hg, r⟩
  · exact .inl hn
  · exact .inr ⟨q, c, cur, hv, hbg, (hb.block q (Array.getElem?_eq_some_iff.1 hg).1).trans hg, r⟩
theorem PT.mono {base' : Nat} (h : PT w base g n cap t ka) (hb : base' ≤ base) : PT w base' g n cap t ka := by
  refine ⟨h.1, ?_⟩
  rcases h.2 with hn | ⟨q, c, cur, hv, hbg, r⟩
  · exact .inl hn
  · exact .inr ⟨q, c, cur, hv, by omega, r⟩
theorem PT.other {g' : Nat} (h : PT w base g n cap t ka) (hne : g ≠ g') (k : Nat) (v : Value) : PT (w.setCell ⟨g', k, none⟩ v) base g n cap t ka := by
  refine ⟨h.1, ?_⟩
  rcases h.2 with hn | ⟨q, c, cur, hv, hb, hg, r⟩
  · exact .inl hn
  · refine .inr ⟨q, c, cur, hv, hb, ?_, r⟩
    have e : q = g := by simp at hv; exact hv.1.symm
    subst e
    rw [heap_setCell_other w ⟨g', k, none⟩ q v hne]; exact hg
end
theorem infoPtr : (Try.prog.info? 98).map (fun i => (i.zero, i.size, i.bytes)) = some (some (.pointer none), 1, 8) := by kernel_rfl
theorem PT.zero (w : World) (base M : Nat) (ka : Nat → Nat) (hb : base ≤ w.heap.size) (hM : M ≤ 1000) : PT (w.alloc (.cells (madeCells #[.pointer none] M) 98)) base w.heap.size M M (List.replicate M (-1)) ka := by
  have e : ((List.replicate M (-1 : Int)).map (ptr ka)) = (madeCells #[.pointer none] M).toList := by rw [List.map_replicate, toList_madeCells_one]; rfl
  unfold PT
  rw [e]
  exact World.ownsRow_lit (base := base) (e := 98) (size := 1) w (madeCells #[.pointer none] M) M hb (by unfold maxLen; omega) (by simp [size_madeCells])

set_option maxHeartbeats 400000 in
theorem exchanged_any (x y : Int) (w : World) :
    Calls Try.prog 124 #[.agg #[.int .i64 x, .int .i64 y]] w fun e w' => e = .returned (.agg #[.int .i64 y, .int .i64 x]) ∧ Below w.heap.size w w' := by
  go_enter Try.func124, Try.ntmps124
  go_wp2
  exact bodyPost_ret (v := .agg #[.int .i64 y, .int .i64 x]) (by simp [results, Try.results124, go_sem]) rfl ⟨rfl, ((Below.refl _ _).alloc (Nat.le_refl _) _).alloc (by simp) _⟩

/-- The different homes. -/
def chs (x y : Int) : List Int := if x = y then [x] else [x, y]

theorem Tab.lit (w : World) (base : Nat) (l : List Int) (hb : base ≤ w.heap.size) (hl : l.length ≤ 1000) : Tab (w.alloc (.cells (l.map (Value.int .i64)).toArray 3)) base w.heap.size l.length l.length l := by
  have := World.ownsRow_lit (base := base) (e := 3) (size := 1) w (l.map (Value.int .i64)).toArray l.length hb (by unfold maxLen; omega) (by simp)
  simpa [Tab] using this
def ChsPost (x y : Int) (w : World) (l : List Int) (e : Ending) (w' : World) : Prop := ∃ g cap, e = .returned (.slice (some ⟨g, 0, none⟩) l.length cap) ∧ Tab w' w.heap.size g l.length cap l ∧ Below w.heap.size w w'

set_option maxHeartbeats 1000000 in
theorem choices_any (x y : Int) (w : World) :
    Calls Try.prog 116 #[.agg #[.int .i64 x, .int .i64 y]] w (ChsPost x y w (chs x y)) := by
  by_cases h : x = y
  · have h1 : (x == y) = true := by simp [h]
    have h2 : (y == x) = true := by simp [h]
    have hc : chs x y = [x] := by unfold chs; rw [if_pos h]
    rw [hc]
    clear hc h
    go_enter Try.func116, Try.ntmps116
    go_wp2
    go_region_with (go_at_call 124; refine (exchanged_any x y _).mono ?_; rintro e w1 ⟨rfl, hb1⟩; have q1 : w1.cell? ⟨w.heap.size, 0, none⟩ = some (.int .i64 x) := (hb1.cell (p := ⟨w.heap.size, 0, none⟩) (by simp)).trans (by simp [go_sem]); have q2 : w1.cell? ⟨w.heap.size, 1, none⟩ = some (.int .i64 y) := (hb1.cell (p := ⟨w.heap.size, 1, none⟩) (by simp)).trans (by simp [go_sem]))
    all_goals
      have hb2 : Below w.heap.size w w1 := Below.trans (((Below.refl w.heap.size w).alloc (Nat.le_refl _) (.cells #[.int .i64 x, .int .i64 y] 44)).drew) (hb1.mono (show w.heap.size ≤ _ by simp))
      have hz := hb2.size
      go_wp2
      go_ret
      exact ⟨_, _, rfl, Tab.lit w1 w.heap.size [x] hz (by simp), hb2.alloc hz _⟩
  · have h1 : (x == y) = false := by simp [h]
    have hc : chs x y = [x, y] := by unfold chs; rw [if_neg h]
    rw [hc]
    clear hc h
    go_enter Try.func116, Try.ntmps116
    go_wp2
    go_region_with (go_at_call 124; refine (exchanged_any x y _).mono ?_; rintro e w1 ⟨rfl, hb1⟩; have q1 : w1.cell? ⟨w.heap.size, 0, none⟩ = some (.int .i64 x) := (hb1.cell (p := ⟨w.heap.size, 0, none⟩) (by simp)).trans (by simp [go_sem]); have q2 : w1.cell? ⟨w.heap.size, 1, none⟩ = some (.int .i64 y) := (hb1.cell (p := ⟨w.heap.size, 1, none⟩) (by simp)).trans (by simp [go_sem]))
    all_goals
      have hb2 : Below w.heap.size w w1 := Below.trans (((Below.refl w.heap.size w).alloc (Nat.le_refl _) (.cells #[.int .i64 x, .int .i64 y] 44)).drew) (hb1.mono (show w.heap.size ≤ _ by simp))
      have hz := hb2.size
      go_wp2
      go_ret
      exact ⟨_, _, rfl, Tab.lit w1 w.heap.size [x, y] hz (by simp), hb2.alloc hz _⟩

set_option maxHeartbeats 400000 in
theorem beside_any (x y a : Int) (w : World) :
    Calls Try.prog 118 #[.agg #[.int .i64 x, .int .i64 y], .int .i64 a] w fun e w' => e = .returned (.int .i64 (if a = x then y else x)) ∧ Below w.heap.size w w' := by
  by_cases h : a = x
  · have h1 : (a == x) = true := by simp [h]
    rw [if_pos h]
    clear h
    go_enter Try.func118, Try.ntmps118
    go_wp2
    go_ret
    exact ⟨rfl, (Below.refl _ _).alloc (Nat.le_refl _) _⟩
  · have h1 : (a == x) = false := by simp [h]
    rw [if_neg h]
    clear h
    go_enter Try.func118, Try.ntmps118
    go_wp2
    go_ret
    exact ⟨rfl, (Below.refl _ _).alloc (Nat.le_refl _) _⟩

set_option maxHeartbeats 1000000 in
theorem copyOf_any (base g n cap : Nat) (t : List Int) (ka : Nat → Nat) (w : World) (hT : PT w base g n cap t ka) (hn : n ≤ 1000) :
    Calls Try.prog 117 #[.slice (some ⟨g, 0, none⟩) n cap] w fun e w' => e = .returned (.slice (some ⟨w.heap.size, 0, none⟩) n n) ∧ PT w' w.heap.size w.heap.size n n t ka ∧ Below w.heap.size w w' := by
  have hmk := run_make_row' (P := Try.prog) 92 98 (.pointer none) 8 Try.underlying92 infoPtr rfl .i64 .i64 n (by omega) (by omega)
  have hsz : (Try.prog.info? 98).map (·.size) = some 1 := by kernel_rfl
  obtain ⟨cs, hcs⟩ : ∃ cs, cs = t.map (ptr ka) := ⟨_, rfl⟩
  have hlen : cs.length = n := by rw [hcs]; simpa using hT.len
  have hbl := hT.block
  have hcell : ∀ j v, cs[j]? = some v → w.cell? ⟨g, j, none⟩ = some v := fun j v hv => by
    have hj : j < cs.length := (List.getElem?_eq_some_iff.1 hv).1
    rw [World.ownsRow.cellAt hT j (by omega), ← hcs]; exact hv
  have hone : ∀ v ∈ cs, v.oneCell' = true := fun v hv => by
    rw [hcs] at hv
    obtain ⟨x, _, rfl⟩ := List.mem_map.1 hv
    unfold ptr; split <;> rfl
  have HCS := Lib.hid hcs
  have HLEN := Lib.hid hlen
  have HCELL := Lib.hid hcell
  clear hcs hlen hcell
  go_enter Try.func117, Try.ntmps117
  go_wp2_with (with_reducible refine wpList_copy_splice rfl (.tmp 7) (.tmp 8) 92 92 rfl 98 Try.underlying92 hsz (some ⟨w.heap.size, 0, none⟩) (some ⟨g, 0, none⟩) n n n cap rfl rfl w.heap.size 0 (madeCells #[.pointer none] n).toList 98 ?c1 cs ?c2 ?c3 ?c4 hone w.heap.size w ?c5 (Nat.le_refl _) ?_)
  case c1 => rw [Array.toArray_toList]; exact heap_alloc_new w _
  case c2 => rw [HLEN.out]; simp
  case c3 => intro _; exact HCELL.out
  case c4 => rw [HLEN.out]; simp [size_madeCells]
  case c5 => exact (Below.refl _ _).alloc (Nat.le_refl _) _
  intro w2 hH hb2
  have hz : w.heap.size < w2.heap.size := (Array.getElem?_eq_some_iff.1 hH.out).1
  have hP : PT w2 w.heap.size w.heap.size n n t ka := by
    have e : splice (madeCells #[.pointer none] n).toList 0 cs = cs := by
      have e2 : (madeCells #[.pointer none] n).toList.length = n := by simp [size_madeCells]
      unfold splice
      rw [HLEN.out, List.drop_of_length_le (by omega)]; simp
    have h := hH.out
    rw [e] at h
    refine ⟨by rw [← HCS.out, HLEN.out]; simp, .inr ⟨w.heap.size, n, cs.toArray, rfl, Nat.le_refl _, h, Nat.le_refl _, by unfold maxLen; omega, by simp [HLEN.out], by rw [Nat.mul_one]; show List.take n cs = _; rw [← HLEN.out, List.take_length]; exact HCS.out⟩⟩
  clear hH
  go_wp2
  go_ret
  exact ⟨rfl, hP, hb2⟩

/-- The numbers while they are laid. -/
def nmb (M : Nat) (t : List Int) (k : Nat) : List Int := t.take k ++ List.replicate (M - k) 0
theorem nmb_len {M : Nat} {t : List Int} {k : Nat} (hk : k ≤ M) (ht : t.length = M) : (nmb M t k).length = M := by simp [nmb]; omega
theorem nmb_zero (M : Nat) (t : List Int) : nmb M t 0 = List.replicate M 0 := by simp [nmb]
theorem nmb_all {M : Nat} {t : List Int} (ht : t.length = M) : nmb M t M = t := by simp [nmb, ← ht]
theorem nmb_succ {M : Nat} {t : List Int} {k : Nat} (hk : k < M) (ht : t.length = M) : (nmb M t k).set k (t.getD k 0) = nmb M t (k + 1) := by
  have e : (t.take k).length = k := by simp; omega
  unfold nmb
  rw [List.set_append_right _ _ (by omega), e, Nat.sub_self, show M - k = (M - (k + 1)) + 1 by omega, List.replicate_succ, List.set_cons_zero, List.take_succ_eq_append_getElem (by omega), List.append_assoc]
  have : t.getD k 0 = t[k] := by simp [List.getD, ht, hk]
  rw [this]; rfl

theorem Tab.other {w : World} {base g n cap : Nat} {l : List Int} (h : Tab w base g n cap l) {g' : Nat} (hne : g ≠ g') (k : Nat) (v : Value) : Tab (w.setCell ⟨g', k, none⟩ v) base g n cap l := by
  unfold Tab at h ⊢
  refine ⟨h.1, ?_⟩
  rcases h.2 with hn | ⟨q, c, cur, hv, hb, hg, r⟩
  · exact .inl hn
  · refine .inr ⟨q, c, cur, hv, hb, ?_, r⟩
    have e : q = g := by simp at hv; exact hv.1.symm
    subst e
    rw [heap_setCell_other w ⟨g', k, none⟩ q v hne]; exact hg
theorem Tab.mono {w : World} {base base' g n cap : Nat} {l : List Int} (h : Tab w base g n cap l) (hb : base' ≤ base) : Tab w base' g n cap l := by
  have e := h.len
  have := h.own.mono hb
  unfold Own at this; rw [e] at this; exact this
theorem Tab.zero (w : World) (base M : Nat) (hb : base ≤ w.heap.size) (hM : M ≤ 1000) : Tab (w.alloc (.cells (madeCells #[.int .i64 0] M) 3)) base w.heap.size M M (List.replicate M 0) := by
  have e : ((List.replicate M (0 : Int)).map (Value.int .i64)) = (madeCells #[.int .i64 0] M).toList := by rw [List.map_replicate, toList_madeCells_one]
  unfold Tab
  rw [e]
  exact World.ownsRow_lit (base := base) (e := 3) (size := 1) w (madeCells #[.int .i64 0] M) M hb (by unfold maxLen; omega) (by simp [size_madeCells])

set_option maxHeartbeats 1000000 in
theorem numbersOf_any (base g n cap b0 N : Nat) (t : List Int) (ka : Nat → Nat) (l : List (Int × Int)) (w : World) (hT : PT w base g n cap t ka) (hK : KF w b0 l N ka) (hn : n ≤ 1000)
    (hok : ∀ s, s < n → t.getD s 0 = -1 ∨ ∃ k : Nat, k < N ∧ t.getD s 0 = k) :
    Calls Try.prog 94 #[.slice (some ⟨g, 0, none⟩) n cap] w fun e w' => ∃ v, e = .returned v ∧ Own w' w.heap.size v t ∧ Below w.heap.size w w' := by
  have hmk := run_make_row' (P := Try.prog) 23 3 (.int .i64 0) 8 Try.underlying23 infoInt rfl .i64 .i64 n (by omega) (by omega)
  have hlen := hT.len
  have HOK := Lib.hid hok
  have HLEN := Lib.hid hlen
  have hbl := hT.block
  clear hok hlen
  have hZ := Tab.zero w w.heap.size n (Nat.le_refl _) (by omega)
  have hb0 : Below w.heap.size w (w.alloc (.cells (madeCells #[.int .i64 0] n) 3)) := (Below.refl _ _).alloc (Nat.le_refl _) _
  rw [← nmb_zero n t] at hZ
  go_enter Try.func94, Try.ntmps94
  go_wp2
  go_loopw [11] (fun i wr => ∃ k : Nat, k ≤ n ∧ i = .int .i64 k ∧ Tab wr w.heap.size w.heap.size n n (nmb n t k) ∧ Below w.heap.size w wr) (fun i _ => n - (intOf i).toNat)
  case atStart => exact ⟨0, Nat.zero_le _, rfl, hZ, hb0⟩
  case round =>
    clear hZ hb0
    obtain ⟨k, hk, rfl, hZ, hb⟩ := hrel
    by_cases hlt : k < n
    · have hc := hT.get hlt
      have hc1 : wr.cell? ⟨g, k, none⟩ = some (ptr ka (t.getD k 0)) := (hb.cell (by exact hbl.2)).trans hc
      clear hc
      obtain ⟨z, hcz, hz⟩ := hZ.get hlt
      clear hz
      have hfz := hZ.frozen k
      rcases HOK.out k hlt with h1 | ⟨q, hq, h1⟩
      · have hst := hZ.store k (-1)
        have e := nmb_succ (M := n) (t := t) (k := k) hlt HLEN.out
        rw [h1] at e
        rw [e] at hst
        rw [h1, ptr_neg _ (by decide)] at hc1
        have hb2 := hb.setCell (p := ⟨w.heap.size, k, none⟩) (Nat.le_refl _) (.int .i64 (-1))
        clear h1 e
        go_wp2
        go_roundw
        case rel => exact ⟨k + 1, by omega, by go_num, hst, hb2⟩
        case measure => simp [intOf]; omega
      · have hst := (hZ.store k (-1)).store k q
        have e := nmb_succ (M := n) (t := t) (k := k) hlt HLEN.out
        rw [h1] at e
        rw [List.set_set, e] at hst
        rw [h1, ptr_nat] at hc1
        obtain ⟨k1, _, _⟩ := ((hK q hq).2).cells
        have k2 : wr.cell? ⟨ka q, 0, none⟩ = some (.int .i64 q) := (hb.cell (by exact (hK q hq).2.lt)).trans k1
        have hkl := (hK q hq).2.lt
        have hb2 := (hb.setCell (p := ⟨w.heap.size, k, none⟩) (Nat.le_refl _) (.int .i64 (-1))).setCell (p := ⟨w.heap.size, k, none⟩) (Nat.le_refl _) (.int .i64 q)
        clear h1 e k1
        go_wp2
        go_roundw
        case rel => exact ⟨k + 1, by omega, by go_num, hst, hb2⟩
        case measure => simp [intOf]; omega
    · obtain rfl : n = k := by omega
      rw [nmb_all HLEN.out] at hZ
      go_wp2
      go_ret
      exact ⟨_, rfl, hZ.own, hb⟩

/-- A slice of keys: rem of them from key i on. -/
def KS (w : World) (a : Option Addr) (i rem : Nat) (ka : Nat → Nat) : Prop := rem = 0 ∨ ∃ g, a = some ⟨g, i, none⟩ ∧ g < w.heap.size ∧ ∀ j, j < rem → w.cell? ⟨g, i + j, none⟩ = some (.pointer (some ⟨ka (i + j), 0, none⟩))

set_option maxHeartbeats 1000000 in
theorem keysOf_any (a : Option Addr) (l : List (Int × Int)) (cap : Nat) (w : World) (hr : ReadsP w a l) (hl : l.length ≤ 8) :
    Calls Try.prog 93 #[.slice a l.length cap] w fun e w' => ∃ ka g, e = .returned (.slice (some ⟨g, 0, none⟩) l.length l.length) ∧ KF w' w.heap.size l l.length ka ∧ KS w' (some ⟨g, 0, none⟩) 0 l.length ka ∧ Below w.heap.size w w' := by
  have hmk := run_make_row' (P := Try.prog) 92 98 (.pointer none) 8 Try.underlying92 infoPtr rfl .i64 .i64 l.length (by omega) (by omega)
  have hZ := PT.zero w w.heap.size l.length (fun _ => 0) (Nat.le_refl _) (by omega)
  have hb0 : Below w.heap.size w (w.alloc (.cells (madeCells #[.pointer none] l.length) 98)) := (Below.refl _ _).alloc (Nat.le_refl _) _
  go_enter Try.func93, Try.ntmps93
  go_wp2
  go_loopw [11] (fun i wr => ∃ (k : Nat) (ka : Nat → Nat), k ≤ l.length ∧ i = .int .i64 k ∧ KF wr w.heap.size l k ka ∧ (∀ j, j < k → wr.cell? ⟨w.heap.size, j, none⟩ = some (.pointer (some ⟨ka j, 0, none⟩)) ∧ w.heap.size < ka j) ∧ (∃ xs, wr.ownsRow w.heap.size 98 1 (.slice (some ⟨w.heap.size, 0, none⟩) l.length l.length) l.length xs) ∧ Below w.heap.size w wr) (fun i _ => l.length - (intOf i).toNat)
  case atStart => exact ⟨0, fun _ => 0, Nat.zero_le _, rfl, fun k hk => by omega, fun k hk => by omega, ⟨_, hZ⟩, hb0⟩
  case round =>
    clear hZ hb0
    obtain ⟨k, ka, hk, rfl, hK, hC, ⟨xs, hZ⟩, hb⟩ := hrel
    have HC := Lib.hid hC
    clear hC
    have hsz := hb.size
    have hbl := World.ownsRow.lt hZ w.heap.size rfl
    have hxl : xs.length = l.length := by simpa using hZ.1
    by_cases hlt : k < l.length
    · obtain ⟨b, off, x, y, rfl, hbb, hcx, hcy, hx, hy⟩ := hr.get hlt
      have c1 : wr.cell? ⟨b, off + k * 2, none⟩ = some (.int .i64 x) := (hb.cell (by exact hbb)).trans hcx
      have c2 : wr.cell? ⟨b, off + k * 2 + 1, none⟩ = some (.int .i64 y) := (hb.cell (by exact hbb)).trans hcy
      clear hcx hcy
      obtain ⟨z, hcz⟩ : ∃ z, wr.cell? ⟨w.heap.size, k, none⟩ = some z := ⟨_, by rw [World.ownsRow.cellAt hZ k (by omega)]; exact List.getElem?_eq_getElem (by omega)⟩
      have hfz := World.ownsRow.frozenAt hZ k
      clear hxl
      go_wp2
      go_roundw
      case rel =>
        have e0 : (wr.setCell ⟨w.heap.size, k, none⟩ (.pointer (some ⟨wr.heap.size + 1, 0, none⟩))).heap.size = wr.heap.size := by simp [World.setCell]
        refine ⟨k + 1, fun j => if j = k then wr.heap.size + 1 else ka j, by omega, by go_num, fun j hj => ?_, fun j hj => ?_, ⟨_, World.ownsRow.alloc (World.ownsRow.alloc (World.ownsRow.stored hZ k _).1 _) _⟩, ((hb.setCell (p := ⟨w.heap.size, k, none⟩) (Nat.le_refl _) _).alloc (by rw [e0]; exact hsz) _).alloc (by rw [World.size_alloc, e0]; omega) _⟩
        · by_cases e : j = k
          · subst e
            simp only [if_true]
            refine ⟨by omega, ?_⟩
            have hn := heap_alloc_new ((wr.setCell ⟨w.heap.size, j, none⟩ (.pointer (some ⟨wr.heap.size + 1, 0, none⟩))).alloc (.cells #[.int .i64 x, .int .i64 y] 44)) (.cells #[.int .i64 j, .int .i64 x, .int .i64 y] 119)
            rw [World.size_alloc, e0] at hn
            unfold KB
            rw [hx.out, hy.out]
            exact hn
          · simp only [if_neg e]
            have hj' : j < k := by omega
            have h1 := hK j hj'
            have h2 := (HC.out j hj').2
            exact ⟨h1.1, ((h1.2.store (by omega) k _).alloc _).alloc _⟩
        · have lt1 : w.heap.size < (wr.setCell ⟨w.heap.size, k, none⟩ (.pointer (some ⟨wr.heap.size + 1, 0, none⟩))).heap.size := by rw [e0]; exact hbl.2
          rw [World.cell?_alloc_lt _ _ _ (by rw [World.size_alloc]; exact Nat.lt_succ_of_lt lt1), World.cell?_alloc_lt _ _ _ lt1]
          by_cases e : j = k
          · subst e
            simp only [if_true]
            exact ⟨World.cell?_setCell_same _ _ _ hcz, by omega⟩
          · simp only [if_neg e]
            have hj' : j < k := by omega
            have h2 := HC.out j hj'
            rw [World.cell?_setCell_other _ _ _ _ (fun hh => e (by injection hh with _ h3 _; exact h3.symm))]
            exact h2
      case measure => simp [intOf]; omega
    · obtain rfl : l.length = k := by omega
      go_wp2
      go_ret
      exact ⟨ka, w.heap.size, rfl, hK, .inr ⟨_, rfl, hbl.2, fun j hj => by rw [Nat.zero_add]; exact (HC.out j hj).1⟩, hb⟩
end Go.Proofs.Ytlkhobofbkoliaa
