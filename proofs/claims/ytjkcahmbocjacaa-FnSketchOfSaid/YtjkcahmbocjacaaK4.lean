/-
  impl.firstIn: slices.IndexFunc with its closure.
-/
import Derived.Test.YtjkcahmbocjacaaK3
namespace Go.Proofs.Ytjkcahmbocjacaa
open Go.RowKit

theorem and_pow (s t : Nat) : ((s &&& 2 ^ t : Nat) = 0) ↔ s.testBit t = false := by
  constructor
  · intro h
    have : (s &&& 2 ^ t).testBit t = false := by rw [h]; simp
    rw [Nat.testBit_and, Nat.testBit_two_pow_self] at this
    simpa using this
  · intro h
    apply Nat.eq_of_testBit_eq
    intro i
    rw [Nat.testBit_and, Nat.zero_testBit, Nat.testBit_two_pow]
    by_cases e : t = i
    · subst e; simp [h]
    · simp [e]
set_option maxHeartbeats 2000000 in
theorem firstIn1_any (g : Nat) (s t : Nat) (w : World) (hs : s < 1048576) (ht : t ≤ 40) (hg : w.cell? ⟨g, 0, none⟩ = some (.int .i64 (s : Int))) :
    Calls Try.prog 102 #[.int .i64 (t : Int), .pointer (some ⟨g, 0, none⟩)] w fun e w' => e = .returned (.bool (s.testBit t)) ∧ ∃ q, w' = w.drewN q := by
  obtain ⟨p, hp⟩ : ∃ p, p = 2 ^ t := ⟨_, rfl⟩
  have hpp := pow_small ht
  obtain ⟨e1, e2, e3⟩ := shl_one t p ht hp
  have hba := bits_and_i64_nat s p (by omega) (by omega)
  have hap := and_pow s t
  rw [← hp] at hap hpp
  obtain ⟨R, hR⟩ : ∃ R, R = s.testBit t := ⟨_, rfl⟩
  rw [← hR] at hap ⊢
  obtain ⟨m, hm⟩ : ∃ m, m = s &&& p := ⟨_, rfl⟩
  rw [← hm] at hap hba
  clear hm hR hp
  go_enter Try.func102, Try.ntmps102
  go_wp2
  go_quiet (fail)
  all_goals
    go_wp2
    go_ret
    exact ⟨ret_bool (by
      have hz : ((m : Int) != 0) = R := by
        cases R with
        | true => have : m ≠ 0 := fun h => by simpa using hap.1 h
                  simp; exact this
        | false => have : m = 0 := hap.2 rfl
                   rw [this]; rfl
      first | exact hz | (simp only [e1, hba]; exact hz) | (simp only [e2, hba]; exact hz) | (simp only [e3, hba]; exact hz)), _, rfl⟩
theorem fi_first {s : Nat} : ∀ {l : List Int} {i : Nat}, i < l.length → s.testBit (l.getD i 0).toNat = true → (∀ j, j < i → s.testBit (l.getD j 0).toNat = false) → fi s l = l.getD i 0 := by
  intro l
  induction l with
  | nil => intro i h; simp at h
  | cons x r ih =>
    intro i hi h1 h2
    simp only [fi]
    cases i with
    | zero => rw [if_pos (by simpa using h1)]; rfl
    | succ i =>
      have h0 := h2 0 (by omega)
      rw [if_neg (by simp at h0; simp [h0])]
      have := ih (i := i) (by simp at hi; omega) (by simpa using h1) (fun j hj => by have := h2 (j + 1) (by omega); simpa using this)
      rw [this]; simp
set_option maxHeartbeats 4000000 in
theorem indexSet_any (g : Nat) (s : Nat) (a : Option Addr) (l : List Int) (cap : Nat) (w : World) (hr : Reads w a l) (hl : l.length ≤ 1048586) (hs : s < 1048576) (hm : ∀ x ∈ l, 0 ≤ x ∧ x ≤ 40) (hex : ∃ x ∈ l, s.testBit x.toNat = true) (hg : w.cell? ⟨g, 0, none⟩ = some (.int .i64 (s : Int))) :
    Calls Try.prog 101 #[.slice a l.length cap, .func (.func 102) #[] #[.pointer (some ⟨g, 0, none⟩)]] w fun e w' => (∃ i : Nat, e = .returned (.int .i64 (i : Int)) ∧ i < l.length ∧ l.getD i 0 = fi s l) ∧ ∃ q, w' = w.drewN q := by
  go_enter Try.func101, Try.ntmps101
  go_wp2
  go_loopw [8] (fun iv wr => ∃ i q : Nat, i ≤ l.length ∧ iv = .int .i64 i ∧ Hid (∀ j, j < i → s.testBit (l.getD j 0).toNat = false) ∧ wr = w.drewN q) (fun iv _ => l.length - (intOf iv).toNat)
  case atStart => exact ⟨0, 0, by omega, rfl, fun j hj => by omega, rfl⟩
  case round =>
    obtain ⟨i, q, hi, rfl, hf, rfl⟩ := hrel
    by_cases hlt : i < l.length
    · obtain ⟨b, off, y, rfl, hb, hcell, hy⟩ := hr.get (k := i) (by omega)
      have hyb := hm (l.getD i 0) (by simp [List.getD, List.getElem?_eq_getElem hlt])
      rw [hy.out] at hyb
      obtain ⟨t, rfl⟩ : ∃ t : Nat, y = t := ⟨y.toNat, by omega⟩
      have hi1 : (i : Int) < (l.length : Int) := by omega
      have c := fun q => firstIn1_any g s t (w.drewN q) hs (by omega) hg
      obtain ⟨m, hmm⟩ : ∃ m, m = s.testBit t := ⟨_, rfl⟩
      rw [← hmm] at c
      have HMM : Hid (s.testBit (l.getD i 0).toNat = m) := by show _ = m; rw [hy.out, Int.toNat_natCast, hmm]
      have CC := Lib.hid c
      clear c hmm hy
      cases m with
      | true =>
        have HR := Lib.hid (fi_first hlt HMM.out hf.out)
        go_wp2_with fail
        refine (CC.out q).mono ?_
        rintro e w' ⟨rfl, q2, rfl⟩
        go_wp2
        go_ret
        exact ⟨⟨i, rfl, hlt, HR.out.symm⟩, _, rfl⟩
      | false =>
        have HF := Lib.hid (show ∀ j, j < i + 1 → s.testBit (l.getD j 0).toNat = false from fun j hj => by
          by_cases e : j = i
          · subst e; exact HMM.out
          · exact hf.out j (by omega))
        go_wp2_with fail
        refine (CC.out q).mono ?_
        rintro e w' ⟨rfl, q2, rfl⟩
        go_wp2
        go_roundw
        case rel => exact ⟨i + 1, _, by omega, by go_num, HF, rfl⟩
        case measure => simp [intOf]; omega
    · obtain rfl : i = l.length := by omega
      obtain ⟨x, hx, hb⟩ := hex
      obtain ⟨j, hj, e⟩ := List.getElem_of_mem hx
      have := hf.out j hj
      rw [show l.getD j 0 = x by simp [List.getD, List.getElem?_eq_getElem hj, e], hb] at this
      cases this
set_option maxHeartbeats 4000000 in
theorem implFirstIn_any (s : Nat) (a : Option Addr) (l : List Int) (cap : Nat) (w : World) (hr : Reads w a l) (hl : l.length ≤ 1048586) (hs : s < 1048576) (hm : ∀ x ∈ l, 0 ≤ x ∧ x ≤ 40) (hex : ∃ x ∈ l, s.testBit x.toNat = true) :
    Calls Try.prog 89 #[.slice a l.length cap, .int .i64 (s : Int)] w fun e w' => e = .returned (.int .i64 (fi s l)) ∧ Below w.heap.size w w' := by
  have hB := (Below.refl w.heap.size w).alloc (Nat.le_refl _) (.cells #[.int .i64 (s : Int)] 3)
  have hr1 := hr.below hB
  have hc0 : (w.alloc (.cells #[.int .i64 (s : Int)] 3)).cell? ⟨w.heap.size, 0, none⟩ = some (.int .i64 (s : Int)) := (cell_of_row _ _ _ _ _ _ (heap_alloc_new _ _)).trans rfl
  obtain ⟨w0, e0⟩ : ∃ w0, w0 = w.alloc (.cells #[.int .i64 (s : Int)] 3) := ⟨_, rfl⟩
  rw [← e0] at hB hr1 hc0
  have E0 := Lib.hid e0
  clear e0 hr
  have CC := Lib.hid (indexSet_any w.heap.size s a l cap w0 hr1 hl hs hm hex hc0)
  clear hm hex
  go_enter Try.func89, Try.ntmps89
  go_wp2_with fail
  rw [← E0.out]
  refine CC.out.mono ?_
  rintro e w' ⟨⟨i, rfl, hi, he⟩, q, rfl⟩
  obtain ⟨b, off, y, rfl, hb, hcell, hy⟩ := hr1.get (k := i) hi
  have hi1 : (i : Int) < (l.length : Int) := by omega
  have HE := Lib.hid (hy.out.symm.trans he)
  clear he hy
  go_wp2
  go_ret
  exact ⟨congrArg (fun z => Ending.returned (.int .i64 z)) HE.out, below_drewN hB q⟩
end Go.Proofs.Ytjkcahmbocjacaa
