/-
  bits.Mul of 1 and 13, slices.Repeat of one number 13 times.
-/
import Derived.Test.YtbldfhfciihddaaY7
import Derived.Laws.CopyOwn
import Derived.Laws.Bits64
import Derived.Deep.RegionLaw
import Derived.Deep.OwnRows
namespace Go.Proofs.Ytbldfhfciihddaa
open Go.RowKit

set_option maxHeartbeats 1000000 in
set_option maxRecDepth 100000 in
theorem mul64_13 (w : World) :
    Calls Try.prog 96 #[.int .u64 1, .int .u64 13] w fun e w' => e = .returned (.tuple #[.int .u64 0, .int .u64 13]) ∧ w = w' := by
  go_enter Try.func96, Try.ntmps96
  go_wp2
  go_ret2
  exact ⟨rfl, rfl⟩

set_option maxHeartbeats 1000000 in
set_option maxRecDepth 100000 in
theorem mul_13 (w : World) :
    Calls Try.prog 88 #[.int .u64 1, .int .u64 13] w fun e w' => e = .returned (.tuple #[.int .u64 0, .int .u64 13]) ∧ w = w' := by
  go_enter Try.func88, Try.ntmps88
  go_wp2_with fail
  refine (mul64_13 _).mono ?_
  rintro e w' ⟨rfl, rfl⟩
  go_wp2
  go_ret2
  exact ⟨rfl, rfl⟩

/-- The row when n numbers are laid. -/
def rpr (n : Nat) : List Value := List.replicate n (.int .i64 (-1)) ++ List.replicate (13 - n) (.int .i64 0)
def ones (n : Nat) : List Value := List.replicate n (.int .i64 (-1))
theorem rpr_len {n : Nat} (h : n ≤ 13) : (rpr n).length = 13 := by simp [rpr]; omega
theorem rpr_get {n i : Nat} (h : i < n) (h13 : n ≤ 13) : (rpr n)[i]? = some (.int .i64 (-1)) := by
  unfold rpr
  rw [List.getElem?_append_left (by simpa using h), List.getElem?_replicate, if_pos h]
theorem rpr_splice {n m : Nat} (h : n + m ≤ 13) : splice (rpr n) n (ones m) = rpr (n + m) := by
  unfold splice rpr ones
  apply List.ext_getElem
  · simp; omega
  · intro i h1 h2
    simp only [List.length_append, List.length_take, List.length_drop, List.length_replicate] at h1
    by_cases a : i < n
    · rw [List.getElem_append_left (by simp; omega), List.getElem_take, List.getElem_append_left (by simpa using a), List.getElem_append_left (by simp; omega)]
      simp
    · rw [List.getElem_append_right (by simp; omega)]
      by_cases b : i < n + m
      · rw [List.getElem_append_left (by simp; omega), List.getElem_append_left (by simp; omega)]
        simp
      · rw [List.getElem_append_right (by simp; omega), List.getElem_append_right (by simp; omega)]
        rw [List.getElem_drop, List.getElem_append_right (by simp; omega)]
        simp
theorem ones_one (n : Nat) : ∀ v ∈ ones n, v.oneCell' = true := by
  intro v hv
  obtain ⟨_, rfl⟩ := List.mem_replicate.1 hv
  rfl

set_option maxHeartbeats 400000 in
set_option maxRecDepth 100000 in
theorem repeat_any (gs : Nat) (w : World) (hs : w.cell? ⟨gs, 0, none⟩ = some (.int .i64 (-1))) :
    Calls Try.prog 72 #[.slice (some ⟨gs, 0, none⟩) 1 1, .int .i64 13] w fun e w' => ∃ v, e = .returned v ∧ Own w' w.heap.size v (List.replicate 13 (-1)) ∧ Below w.heap.size w w' := by
  obtain ⟨i0, hi, hz0, hz1, hz2⟩ := info_parts infoInt
  have hsz : (Try.prog.info? 3).map (·.size) = some 1 := by rw [hi, Option.map_some, hz1]
  have hmk := run_make_row' (P := Try.prog) 23 3 (.int .i64 0) 8 Try.underlying23 infoInt rfl .i64 .i64 13 (by omega) (by omega)
  have hBB : madeCells #[.int .i64 0] 13 = (rpr 0).toArray := by
    apply Array.ext'
    rw [toList_madeCells_one]
    simp [rpr]
  rw [hBB, show ((13 : Nat) : Int) = 13 from rfl] at hmk
  have CM := Lib.hid (mul_13 w)
  have hgs := World.block_lt_of_cell? _ _ hs
  obtain ⟨wm, hwm⟩ : ∃ wm, wm = w.alloc (.cells (rpr 0).toArray 3) := ⟨_, rfl⟩
  have bm : Below w.heap.size w wm := by rw [hwm]; exact (Below.refl _ _).alloc (Nat.le_refl _) _
  have hm : wm.heap[w.heap.size]? = some (.cells (rpr 0).toArray 3 (0, 0)) := by rw [hwm]; exact heap_alloc_new w _
  have hsm := (bm.cell (p := ⟨gs, 0, none⟩) hgs).trans hs
  have HWM := Lib.hid hwm
  clear hwm hBB
  go_enter Try.func72, Try.ntmps72
  go_wp2_with fail
  refine CM.out.mono ?_
  rintro e w' ⟨rfl, rfl⟩
  go_upto_region 7 with fail
  rw [← HWM.out]
  have hsrc : ∀ j v, (ones 1)[j]? = some v → wm.cell? ((⟨gs, 0, none⟩ : Addr).add j) = some v := fun j v hj => by
    have h1 : j < 1 := by
      have := (List.getElem?_eq_some_iff.1 hj).1
      simpa [ones] using this
    obtain rfl : j = 0 := by omega
    have : v = .int .i64 (-1) := by simpa [ones] using hj.symm
    subst this
    exact hsm
  have hn1 : (ones 1).length = Nat.min 1 13 := rfl
  have hfit : 0 + (ones 1).length ≤ (rpr 0).length := by rw [rpr_len (by omega)]; decide
  go_wp2_with (refine wpList_copy_splice rfl (.tmp 31) (.tmp 32) 23 23 rfl 3 Try.underlying23 hsz (some ⟨w.heap.size, 0, none⟩) (some ⟨gs, 0, none⟩) 13 13 1 1 rfl rfl w.heap.size 0 (rpr 0) 3 hm (ones 1) hn1 (fun _ => ⟨rfl, ⟨gs, 0, none⟩, rfl, hsrc⟩) hfit (ones_one 1) w.heap.size w bm (Nat.le_refl _) ?_)
  intro w2 h2 b2
  have h2' := h2.out
  rw [rpr_splice (n := 0) (m := 1) (by omega)] at h2'
  have H2 := Lib.hid h2'
  have hone : (ones 1).length = 1 := rfl
  try rw [hone]
  clear h2 h2' hm hsm hsrc hn1 hfit hmk
  go_wp2
  go_loopw [8] (fun nv wr => ∃ n : Nat, nv = .int .i64 n ∧ (n = 1 ∨ n = 2 ∨ n = 4 ∨ n = 8 ∨ n = 13) ∧ Hid (wr.heap[w.heap.size]? = some (.cells (rpr n).toArray 3 (0, 0))) ∧ Below w.heap.size w wr) (fun nv _ => 13 - (intOf nv).toNat)
  case atStart => exact ⟨1, rfl, .inl rfl, H2, b2⟩
  case round =>
    obtain ⟨n, rfl, hn, hh, hB⟩ := hrel
    have hsr : ∀ m, m ≤ n → n ≤ 13 → ∀ j v, (ones m)[j]? = some v → wr.cell? ((⟨w.heap.size, 0, none⟩ : Addr).add j) = some v := fun m hmn hn13 j v hj => by
      have h1 : j < m := by
        have := (List.getElem?_eq_some_iff.1 hj).1
        simpa [ones] using this
      have hv : v = .int .i64 (-1) := by
        rw [ones, List.getElem?_replicate, if_pos h1] at hj
        exact (Option.some.inj hj).symm
      have hg := rpr_get (n := n) (i := j) (by omega) hn13
      rw [hv, Addr.add_lit, Nat.zero_add]
      have := hh.out
      simp [World.cell?, this, hg]
    have HSR := Lib.hid hsr
    clear hsr
    have hhd : wr.drew.heap[w.heap.size]? = some (.cells (rpr n).toArray 3 (0, 0)) := hh.out
    have hBd := hB.drew
    have HSD := Lib.hid (fun m h1 h2 => HSR.out m h1 h2 : ∀ m, m ≤ n → n ≤ 13 → ∀ j v, (ones m)[j]? = some v → wr.drew.cell? ((⟨w.heap.size, 0, none⟩ : Addr).add j) = some v)
    obtain ⟨cur, hcur⟩ : ∃ cur, cur = rpr n := ⟨_, rfl⟩
    have hcl : n ≤ 13 → cur.length = 13 := fun h => by rw [hcur]; exact rpr_len h
    have hsp : ∀ m, n + m ≤ 13 → splice cur n (ones m) = rpr (n + m) := fun m h => by rw [hcur]; exact rpr_splice h
    rw [← hcur] at hhd
    have HSP := Lib.hid hsp
    have HHD := Lib.hid hhd
    have HCL := Lib.hid hcl
    have HCUR := Lib.hid hcur
    clear hhd hsp hcl hcur hh
    rcases hn with rfl | rfl | rfl | rfl | rfl
    · obtain ⟨cs, hcs⟩ : ∃ cs, cs = ones 1 := ⟨_, rfl⟩
      have hcsl : cs.length = 1 := by rw [hcs]; rfl
      have hmin : cs.length = Nat.min 1 12 := by rw [hcsl]; rfl
      have hcs1 : ∀ v ∈ cs, v.oneCell' = true := by rw [hcs]; exact ones_one 1
      have hsrc : ∀ j v, cs[j]? = some v → wr.drew.cell? ((⟨w.heap.size, 0, none⟩ : Addr).add j) = some v := by rw [hcs]; exact HSD.out 1 (by omega) (by omega)
      have hspl : splice cur 1 cs = rpr 2 := by rw [hcs]; exact HSP.out 1 (by omega)
      have hfit : 1 + cs.length ≤ cur.length := by rw [hcsl, HCL.out (by omega)]; omega
      have HSPL := Lib.hid hspl
      have HSRC := Lib.hid hsrc
      have HCS1 := Lib.hid hcs1
      clear hcs hsrc hspl hcs1
      go_upto_region 9 with fail
      go_region_law (refine step_copy_splice rfl (.tmp 41) (.tmp 44) 23 23 rfl 3 Try.underlying23 hsz (some ⟨w.heap.size, 1, none⟩) (some ⟨w.heap.size, 0, none⟩) 12 12 1 13 (by simp [go_sem]) (by simp [go_sem]) w.heap.size 1 cur 3 HHD.out cs hmin (fun _ => ⟨rfl, ⟨w.heap.size, 0, none⟩, rfl, HSRC.out⟩) hfit HCS1.out w.heap.size w hBd (Nat.le_refl _) ?_; intro w4 h4 b4)
      all_goals
        have h5 := h4.out
        rw [HSPL.out] at h5
        have H5 := Lib.hid h5
        clear h5 h4
        go_simp
        go_wp2
        go_roundw
        case rel => exact ⟨2, by first | rfl | go_num | simp [hcsl], by omega, H5, b4⟩
        case measure => simp [intOf, hcsl]; decide
    · obtain ⟨cs, hcs⟩ : ∃ cs, cs = ones 2 := ⟨_, rfl⟩
      have hcsl : cs.length = 2 := by rw [hcs]; rfl
      have hmin : cs.length = Nat.min 2 11 := by rw [hcsl]; rfl
      have hcs1 : ∀ v ∈ cs, v.oneCell' = true := by rw [hcs]; exact ones_one 2
      have hsrc : ∀ j v, cs[j]? = some v → wr.drew.cell? ((⟨w.heap.size, 0, none⟩ : Addr).add j) = some v := by rw [hcs]; exact HSD.out 2 (by omega) (by omega)
      have hspl : splice cur 2 cs = rpr 4 := by rw [hcs]; exact HSP.out 2 (by omega)
      have hfit : 2 + cs.length ≤ cur.length := by rw [hcsl, HCL.out (by omega)]; omega
      have HSPL := Lib.hid hspl
      have HSRC := Lib.hid hsrc
      have HCS1 := Lib.hid hcs1
      clear hcs hsrc hspl hcs1
      go_upto_region 9 with fail
      go_region_law (refine step_copy_splice rfl (.tmp 41) (.tmp 44) 23 23 rfl 3 Try.underlying23 hsz (some ⟨w.heap.size, 2, none⟩) (some ⟨w.heap.size, 0, none⟩) 11 11 2 13 (by simp [go_sem]) (by simp [go_sem]) w.heap.size 2 cur 3 HHD.out cs hmin (fun _ => ⟨rfl, ⟨w.heap.size, 0, none⟩, rfl, HSRC.out⟩) hfit HCS1.out w.heap.size w hBd (Nat.le_refl _) ?_; intro w4 h4 b4)
      all_goals
        have h5 := h4.out
        rw [HSPL.out] at h5
        have H5 := Lib.hid h5
        clear h5 h4
        go_simp
        go_wp2
        go_roundw
        case rel => exact ⟨4, by first | rfl | go_num | simp [hcsl], by omega, H5, b4⟩
        case measure => simp [intOf, hcsl]; decide
    · obtain ⟨cs, hcs⟩ : ∃ cs, cs = ones 4 := ⟨_, rfl⟩
      have hcsl : cs.length = 4 := by rw [hcs]; rfl
      have hmin : cs.length = Nat.min 4 9 := by rw [hcsl]; rfl
      have hcs1 : ∀ v ∈ cs, v.oneCell' = true := by rw [hcs]; exact ones_one 4
      have hsrc : ∀ j v, cs[j]? = some v → wr.drew.cell? ((⟨w.heap.size, 0, none⟩ : Addr).add j) = some v := by rw [hcs]; exact HSD.out 4 (by omega) (by omega)
      have hspl : splice cur 4 cs = rpr 8 := by rw [hcs]; exact HSP.out 4 (by omega)
      have hfit : 4 + cs.length ≤ cur.length := by rw [hcsl, HCL.out (by omega)]; omega
      have HSPL := Lib.hid hspl
      have HSRC := Lib.hid hsrc
      have HCS1 := Lib.hid hcs1
      clear hcs hsrc hspl hcs1
      go_upto_region 9 with fail
      go_region_law (refine step_copy_splice rfl (.tmp 41) (.tmp 44) 23 23 rfl 3 Try.underlying23 hsz (some ⟨w.heap.size, 4, none⟩) (some ⟨w.heap.size, 0, none⟩) 9 9 4 13 (by simp [go_sem]) (by simp [go_sem]) w.heap.size 4 cur 3 HHD.out cs hmin (fun _ => ⟨rfl, ⟨w.heap.size, 0, none⟩, rfl, HSRC.out⟩) hfit HCS1.out w.heap.size w hBd (Nat.le_refl _) ?_; intro w4 h4 b4)
      all_goals
        have h5 := h4.out
        rw [HSPL.out] at h5
        have H5 := Lib.hid h5
        clear h5 h4
        go_simp
        go_wp2
        go_roundw
        case rel => exact ⟨8, by first | rfl | go_num | simp [hcsl], by omega, H5, b4⟩
        case measure => simp [intOf, hcsl]; decide
    · obtain ⟨cs, hcs⟩ : ∃ cs, cs = ones 5 := ⟨_, rfl⟩
      have hcsl : cs.length = 5 := by rw [hcs]; rfl
      have hmin : cs.length = Nat.min 8 5 := by rw [hcsl]; rfl
      have hcs1 : ∀ v ∈ cs, v.oneCell' = true := by rw [hcs]; exact ones_one 5
      have hsrc : ∀ j v, cs[j]? = some v → wr.drew.cell? ((⟨w.heap.size, 0, none⟩ : Addr).add j) = some v := by rw [hcs]; exact HSD.out 5 (by omega) (by omega)
      have hspl : splice cur 8 cs = rpr 13 := by rw [hcs]; exact HSP.out 5 (by omega)
      have hfit : 8 + cs.length ≤ cur.length := by rw [hcsl, HCL.out (by omega)]; omega
      have HSPL := Lib.hid hspl
      have HSRC := Lib.hid hsrc
      have HCS1 := Lib.hid hcs1
      clear hcs hsrc hspl hcs1
      go_upto_region 9 with fail
      go_region_law (refine step_copy_splice rfl (.tmp 41) (.tmp 44) 23 23 rfl 3 Try.underlying23 hsz (some ⟨w.heap.size, 8, none⟩) (some ⟨w.heap.size, 0, none⟩) 5 5 8 13 (by simp [go_sem]) (by simp [go_sem]) w.heap.size 8 cur 3 HHD.out cs hmin (fun _ => ⟨rfl, ⟨w.heap.size, 0, none⟩, rfl, HSRC.out⟩) hfit HCS1.out w.heap.size w hBd (Nat.le_refl _) ?_; intro w4 h4 b4)
      all_goals
        have h5 := h4.out
        rw [HSPL.out] at h5
        have H5 := Lib.hid h5
        clear h5 h4
        go_simp
        go_wp2
        go_roundw
        case rel => exact ⟨13, by first | rfl | go_num | simp [hcsl], by omega, H5, b4⟩
        case measure => simp [intOf, hcsl]; decide
    · have h13 := HHD.out
      rw [HCUR.out] at h13
      have ho : Own wr w.heap.size (.slice (some ⟨w.heap.size, 0, none⟩) 13 13) (List.replicate 13 (-1)) :=
        ⟨rfl, .inr ⟨w.heap.size, 13, (rpr 13).toArray, rfl, Nat.le_refl _, h13, Nat.le_refl _, by unfold maxLen; omega, by simp [rpr], by simp [rpr]⟩⟩
      have HO := Lib.hid ho
      clear ho h13 HHD HCUR
      go_wp2
      go_ret
      exact ⟨_, rfl, HO.out, hB⟩
end Go.Proofs.Ytbldfhfciihddaa
