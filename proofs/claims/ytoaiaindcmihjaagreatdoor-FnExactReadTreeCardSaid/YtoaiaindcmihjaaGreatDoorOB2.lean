/-
  impl.nameList.fits, endingIn, impl.part.halves.
-/
import Derived.Test.YtoaiaindcmihjaaGreatDoorOB1
import Derived.Test.YtoaiaindcmihjaaGreatDoorO5
namespace Go.Proofs.YtoaiaindcmihjaaGreatDoor
open Go.RowKit

/-- 'append(s, y)' of one int onto a slice of the call's own: the new element lies in a block of its own. -/
theorem push_nm {wr : World} {ops : Array Oper} {rest : List Oper} {o : Oper} {a : Act} {Q : Exit → Act → World → Prop} (hgd : o.guard = none) (s x : Operand)
    (ho : o.op = .call { callee := .builtin .append, args := #[s, x], argTypes := #[46, 46] })
    (base : Nat) (v : Value) (l : List Int) (y : Int) (hs : a.eval s = v) (hown : Own wr base v l) (hx : a.eval x = .slice (some ⟨wr.heap.size, 0, none⟩) 1 1)
    (hl : l.length < 1000000000000) (hbase : base ≤ wr.heap.size)
    (h : ∀ v' w', Own w' base v' (l ++ [y]) → v' ≠ .slice none 0 0 → wr.grownBy w' v.ownBlock → wpList Tryz.prog ops Q rest (a.put o.dst v') w') :
    wpList Tryz.prog ops Q (o :: rest) a (wr.alloc (.cells #[.int .i64 y] 3)) := by
  obtain ⟨i0, hi, hz0, hz1, hz2⟩ := info_parts infoInt
  refine wpList_append_own _ hgd s x 46 ho base 3 i0 (.int .i64 0) 1 8 Tryz.underlying46 hi hz0 hz1 hz2 rfl (by decide) v l.length (l.map (Value.int .i64)) hs (World.ownsRow.alloc hown _) ⟨wr.heap.size, 0, none⟩ 1 1 [.int .i64 y] hx rfl (cell_one_new _ _ _) (fun u hu => by simp at hu; subst hu; rfl) (by unfold maxLen; omega) (by omega) (by simp; omega) fun v' w' h1 h2 h3 => h v' w' ?_ ?_ ?_
  · unfold Own
    rw [List.length_append, List.map_append]
    exact h1
  · intro e
    have := (h3.1 e).2
    omega
  · refine ⟨h2.os, h2.tape, h2.output, Nat.le_trans (by simp) h2.size, fun k hk hne => ?_⟩
    rw [h2.block k (by simp; omega) hne]; exact Below.heap_alloc _ _ _ hk
theorem fits_any (a : Option Addr) (n cap : Nat) (m : Int) (w : World) : Calls Tryz.prog 55 #[.slice a n cap, .int .i64 m] w fun e w' => e = .returned (.bool (decide ((n : Int) ≤ m))) ∧ w = w' := by
  go_enter Tryz.func55, Tryz.ntmps55
  go_wp2
  go_ret
  exact ⟨rfl, rfl⟩
theorem flt_take {l : List Int} {d e i : Nat} (h : i < l.length) : (l.take (i + 1)).filter (fun x => decide (x.toNat % 2 ^ d = e)) = (l.take i).filter (fun x => decide (x.toNat % 2 ^ d = e)) ++ if (l.getD i 0).toNat % 2 ^ d = e then [l.getD i 0] else [] := by
  rw [take_snocN h, List.filter_append]
  by_cases g : (l.getD i 0).toNat % 2 ^ d = e
  · rw [if_pos g, List.filter_cons_of_pos (by rw [decide_eq_true g]), List.filter_nil]
  · rw [if_neg g, List.filter_cons_of_neg (by rw [decide_eq_false g]; simp), List.filter_nil]
set_option maxHeartbeats 8000000 in
set_option maxRecDepth 100000 in
/-- endingIn: the names of a list that end so. -/
theorem endingIn_any (a : Option Addr) (l : List Int) (cap d e : Nat) (w : World) (hr : Reads w a l) (hl : l.length ≤ 1000) (hi : ∀ x ∈ l, 0 ≤ x ∧ x ≤ 63) (hd : d ≤ 40) :
    Calls Tryz.prog 86 #[.slice a l.length cap, .int .i64 (d : Int), .int .i64 (e : Int)] w fun en w' => ∃ v, en = .returned v ∧ Own w' w.heap.size v (l.filter (fun x => decide (x.toNat % 2 ^ d = e))) ∧ Below w.heap.size w w' := by
  have cE := fun (Y : Nat) wx (h : Y ≤ 63) => endOf_any d Y wx hd (by omega)
  have CE := Lib.hid cE
  obtain ⟨M, hM⟩ : ∃ M, M = l.length := ⟨_, rfl⟩
  have HM := Lib.hid hM
  have HI := Lib.hid hi
  rw [← hM] at hl ⊢
  have b0 := Below.refl w.heap.size w
  clear hM hi cE
  go_enter Tryz.func86, Tryz.ntmps86
  go_wp2
  go_loopw [7, 12] (fun sv iv wr => ∃ i : Nat, i ≤ M ∧ iv = .int .i64 (i : Int) ∧ Own wr w.heap.size sv ((l.take i).filter (fun x => decide (x.toNat % 2 ^ d = e))) ∧ Below w.heap.size w wr) (fun _ iv _ => M - (intOf iv).toNat)
  case atStart => exact ⟨0, by omega, rfl, by simpa using Own.nil _ _, b0⟩
  case round =>
    clear b0
    rename World => wo
    obtain ⟨i, hi, rfl, ho, hB⟩ := hrel
    by_cases hlt : i < M
    · have hi1 : (i : Int) < (M : Int) := by omega
      obtain ⟨b, off, y, rfl, hb, hc0, hy⟩ := hr.get (k := i) (by have := HM.out; omega)
      have hcell : wo.cell? ⟨b, off + i, none⟩ = some (.int .i64 y) := (hB.cell (by exact hb)).trans hc0
      have hyr := HI.out y (by rw [← hy.out]; exact getD_mem (by have := HM.out; omega))
      have htk := flt_take (l := l) (d := d) (e := e) (i := i) (by have := HM.out; omega)
      rw [hy.out] at htk
      have hz1 := hB.size
      have hlen := List.length_filter_le (fun x => decide (x.toNat % 2 ^ d = e)) (l.take i)
      rw [List.length_take] at hlen
      obtain ⟨T, hT⟩ : ∃ T, T = (l.take i).filter (fun x => decide (x.toNat % 2 ^ d = e)) := ⟨_, rfl⟩
      rw [← hT] at htk ho hlen
      have hl9 : T.length ≤ 1000 := by omega
      obtain ⟨sa, sc, rfl, _, _, _, _⟩ := ho.form
      obtain ⟨Y, rfl⟩ : ∃ Y : Nat, y = Y := ⟨y.toNat, by omega⟩
      rw [Int.toNat_natCast] at htk
      have ct := fun wx => CE.out Y wx (by omega)
      obtain ⟨q, hq⟩ : ∃ q, q = Y % 2 ^ d := ⟨_, rfl⟩
      rw [← hq] at htk ct
      have D := Lib.hid ct
      clear hc0 ct hq hlen hT
      by_cases hqe : q = e
      · rw [if_pos hqe] at htk
        have HTK := Lib.hid htk
        have hd1 : ((q : Int) == (e : Int)) = true := by simp [hqe]
        clear htk hqe
        go_wp2_with fail
        refine (D.out _).mono ?_
        rintro en w' ⟨rfl, rfl⟩
        go_wp2_with (at_builtin; refine push_nm rfl (.tmp 21) (.tmp 23) rfl w.heap.size _ T (Y : Int) rfl ho rfl (by omega) hz1 ?_)
        intro v' wf of _ gf
        rw [← HTK.out] at of
        have hBf := hB.grown gf hB.size (fun k hk => (ho.lt k hk).1)
        clear gf ho hB
        go_wp2
        go_roundw
        case rel => exact ⟨i + 1, by omega, by go_num, of, hBf⟩
        case measure => simp [intOf]; omega
      · rw [if_neg hqe, List.append_nil] at htk
        have HTK := Lib.hid htk
        have hd1 : ((q : Int) == (e : Int)) = false := by simp; omega
        clear htk
        go_wp2_with fail
        refine (D.out _).mono ?_
        rintro en w' ⟨rfl, rfl⟩
        go_wp2
        go_roundw
        case rel => exact ⟨i + 1, by omega, by go_num, by rw [HTK.out]; exact ho, hB⟩
        case measure => simp [intOf]; omega
    · obtain rfl : i = M := by omega
      rw [show l.take i = l by rw [HM.out, List.take_length]] at ho
      obtain ⟨sa, sc, rfl, _, _, _, _⟩ := ho.form
      go_wp2
      go_ret
      exact ⟨_, rfl, ho, hB⟩
end Go.Proofs.YtoaiaindcmihjaaGreatDoor
