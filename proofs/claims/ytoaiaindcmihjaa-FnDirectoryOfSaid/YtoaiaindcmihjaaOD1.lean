/-
  impl.DirectoryOf: its closure, slices.IndexFunc of buckets.
-/
import Derived.Test.YtoaiaindcmihjaaOB7
import Derived.Test.YtoaiaindcmihjaaND
import Derived.Deep.QuietTactic
namespace Go.Proofs.Ytoaiaindcmihjaa
open Go.RowKit

set_option maxHeartbeats 4000000 in
set_option maxRecDepth 100000 in
theorem dirHit_any (g : Nat) (x d e : Nat) (a : Option Addr) (n c : Nat) (w : World) (hx : x ≤ 1000) (hd : d ≤ 40) (hg : w.cell? ⟨g, 0, none⟩ = some (.int .i64 (x : Int))) :
    Calls Try.prog 46 #[.agg #[.int .i64 (d : Int), .int .i64 (e : Int), .slice a n c], .pointer (some ⟨g, 0, none⟩)] w fun en w' => en = .returned (.bool (decide (x % 2 ^ d = e))) ∧ Below w.heap.size w w' := by
  have hgl := World.block_lt_of_cell? w _ hg
  have b0 := (Below.refl w.heap.size w).alloc (Nat.le_refl _) (.cells #[.int .i64 (d : Int), .int .i64 (e : Int), .slice a n c] 30)
  obtain ⟨w1, e1⟩ : ∃ w1, w1 = w.alloc (.cells #[.int .i64 (d : Int), .int .i64 (e : Int), .slice a n c] 30) := ⟨_, rfl⟩
  have hh : w1.heap[w.heap.size]? = some (.cells #[.int .i64 (d : Int), .int .i64 (e : Int), .slice a n c] 30 (0, 0)) := by rw [e1]; exact heap_alloc_new w _
  rw [← e1] at b0
  have s0 : w1.cell? ⟨w.heap.size, 0, none⟩ = some (.int .i64 (d : Int)) := by rw [cell_of_row w1 _ 0 _ _ _ hh]; rfl
  have s1 : w1.cell? ⟨w.heap.size, 1, none⟩ = some (.int .i64 (e : Int)) := by rw [cell_of_row w1 _ 1 _ _ _ hh]; rfl
  have s2 : w1.cell? ⟨g, 0, none⟩ = some (.int .i64 (x : Int)) := (b0.cell (p := ⟨g, 0, none⟩) hgl).trans hg
  have cE := fun wx => endOf_any d x wx hd (by omega)
  obtain ⟨q, hq⟩ : ∃ q, q = x % 2 ^ d := ⟨_, rfl⟩
  rw [← hq] at cE ⊢
  have hqe : ((q : Int) == (e : Int)) = decide (q = e) := by
    by_cases h : q = e
    · rw [decide_eq_true h, h]; simp
    · rw [decide_eq_false h, beq_eq_false_iff_ne]; omega
  have HQ := Lib.hid hqe
  have CE := Lib.hid cE
  have E1 := Lib.hid e1
  have B0 := Lib.hid b0
  clear hqe cE hh e1 hq hg b0
  go_enter Try.func46, Try.ntmps46
  go_wp2_with fail
  rw [← E1.out]
  go_quiet ((with_reducible first | (go_at_call 47; exact quiet_pfN (CE.out _))))
  all_goals
    go_wp2
    go_ret
    exact ⟨ret_bool HQ.out, below_drewN B0.out _⟩
/-- The index of the bucket of a number. -/
theorem drk_single {bs : List Bk} {x i : Nat} (h1 : (drk bs x bs.length).length = 1) (hi : i < bs.length) (hh : hit x (bkt bs i) = true) : drk bs x bs.length = [(i : Int)] := by
  have hm : (i : Int) ∈ drk bs x bs.length := by
    unfold drk
    rw [List.mem_map]
    exact ⟨i, List.mem_filter.2 ⟨List.mem_range.2 hi, hh⟩, rfl⟩
  cases hd : drk bs x bs.length with
  | nil => rw [hd] at h1; simp at h1
  | cons y t =>
    rw [hd] at h1 hm
    have : t = [] := List.eq_nil_of_length_eq_zero (by simpa using h1)
    subst this
    rw [List.mem_singleton] at hm
    rw [hm]
theorem drk_some {bs : List Bk} {x : Nat} (h1 : (drk bs x bs.length).length = 1) : ∃ i : Nat, i < bs.length ∧ hit x (bkt bs i) = true := by
  cases hd : drk bs x bs.length with
  | nil => rw [hd] at h1; simp at h1
  | cons y t =>
    obtain ⟨j, _, h2, h3⟩ := drk_mem (bs := bs) (x := x) (k := bs.length) (i := y) (by rw [hd]; simp)
    exact ⟨j, h2, h3⟩
set_option maxHeartbeats 4000000 in
set_option maxRecDepth 100000 in
theorem indexB_any (g : Nat) (x : Nat) (a : Option Addr) (bs : List Bk) (cap : Nat) (w : World) (hr : ReadsB w a bs) (hl : bs.length ≤ 64) (hx : x ≤ 1000) (hd : ∀ b ∈ bs, b.1 ≤ 6) (hone : (drk bs x bs.length).length = 1) (hg : w.cell? ⟨g, 0, none⟩ = some (.int .i64 (x : Int))) :
    Calls Try.prog 45 #[.slice a bs.length cap, .func (.func 46) #[] #[.pointer (some ⟨g, 0, none⟩)]] w fun e w' => ∃ i : Nat, e = .returned (.int .i64 (i : Int)) ∧ drk bs x bs.length = [(i : Int)] ∧ Below w.heap.size w w' := by
  have hgl := World.block_lt_of_cell? w _ hg
  obtain ⟨M, hM⟩ : ∃ M, M = bs.length := ⟨_, rfl⟩
  have HM := Lib.hid hM
  have HD := Lib.hid hd
  have HONE := Lib.hid hone
  rw [← hM] at hl ⊢
  have b0 := Below.refl w.heap.size w
  clear hM hd hone
  go_enter Try.func45, Try.ntmps45
  go_wp2
  go_loopw [8] (fun iv wr => ∃ i : Nat, i ≤ M ∧ iv = .int .i64 i ∧ Hid (∀ j, j < i → hit x (bkt bs j) = false) ∧ Below w.heap.size w wr) (fun iv _ => M - (intOf iv).toNat)
  case atStart => exact ⟨0, by omega, rfl, fun j hj => by omega, b0⟩
  case round =>
    clear b0
    obtain ⟨i, hi, rfl, hf, hB⟩ := hrel
    by_cases hlt : i < M
    · obtain ⟨b, off, A, C, rfl, hb, h1, h2, h3, _, _⟩ := hr.get (r := i) (by have := HM.out; omega)
      have c1 := (hB.cell (p := ⟨b, off + i * 3, none⟩) hb).trans h1
      have c2 := (hB.cell (p := ⟨b, off + i * 3 + 1, none⟩) hb).trans h2
      have c3 := (hB.cell (p := ⟨b, off + i * 3 + 2, none⟩) hb).trans h3
      have cg := (hB.cell (p := ⟨g, 0, none⟩) hgl).trans hg
      have hd6 := HD.out _ (bkt_mem (r := i) (by have := HM.out; omega))
      have hi1 : (i : Int) < (M : Int) := by omega
      have hit' : hit x (bkt bs i) = decide (x % 2 ^ (bkt bs i).1 = (bkt bs i).2.1) := rfl
      have c := dirHit_any g x (bkt bs i).1 (bkt bs i).2.1 A (bkt bs i).2.2.length C wr hx (by omega) cg
      rw [← hit'] at c
      obtain ⟨m, hm⟩ : ∃ m, m = hit x (bkt bs i) := ⟨_, rfl⟩
      rw [← hm] at c
      have HMM := Lib.hid hm
      obtain ⟨dd, hdd⟩ : ∃ dd, dd = (bkt bs i).1 := ⟨_, rfl⟩
      obtain ⟨ee, hee⟩ : ∃ ee, ee = (bkt bs i).2.1 := ⟨_, rfl⟩
      obtain ⟨nn, hnn⟩ : ∃ nn, nn = (bkt bs i).2.2.length := ⟨_, rfl⟩
      rw [← hdd, ← hee, ← hnn] at c
      rw [← hdd] at c1
      rw [← hee] at c2
      rw [← hnn] at c3
      have CC := Lib.hid c
      clear c hm hit' h1 h2 h3 hdd hee hnn hd6
      cases m with
      | true =>
        have HR := Lib.hid (drk_single HONE.out (by have := HM.out; omega) HMM.out.symm)
        go_wp2_with fail
        refine CC.out.mono ?_
        rintro en w' ⟨rfl, b2⟩
        have B2 := hB.trans (b2.mono hB.size)
        go_wp2
        go_ret
        exact ⟨i, rfl, by have := HR.out; rw [← HM.out] at this; exact this, B2⟩
      | false =>
        have HF := Lib.hid (show ∀ j, j < i + 1 → hit x (bkt bs j) = false from fun j hj => by
          by_cases e : j = i
          · subst e; exact HMM.out.symm
          · exact hf.out j (by omega))
        go_wp2_with fail
        refine CC.out.mono ?_
        rintro en w' ⟨rfl, b2⟩
        have B2 := hB.trans (b2.mono hB.size)
        go_wp2
        go_roundw
        case rel => exact ⟨i + 1, by omega, by go_num, HF, B2⟩
        case measure => simp [intOf]; omega
    · obtain rfl : i = M := by omega
      obtain ⟨j, hj, hh⟩ := drk_some HONE.out
      have := hf.out j (by have := HM.out; omega)
      rw [hh] at this
      cases this
end Go.Proofs.Ytoaiaindcmihjaa
