/-
  spec.hash, validHash, HashOf, has, validKeys, meetings, MeetingsOf.
-/
import Derived.Test.YtoaiaindcmihjaaDoorW1
import Derived.Test.YtoaiaindcmihjaaDoorLG
import Derived.Test.YtoaiaindcmihjaaDoorC2
import Derived.StillTailTactics
namespace Go.Proofs.YtoaiaindcmihjaaDoor
open Go.RowKit

theorem VF_eq (a b m : Int) : VF a b m = (inR a 1 30 && inR b 0 30 && inR m 1 31) := by
  rw [Bool.eq_iff_iff]; simp only [VF_iff, Bool.and_eq_true, inR_iff]; omega
theorem KR_eq (k : Int) : KR k = inR k 0 30 := by rw [Bool.eq_iff_iff, KR_iff, inR_iff]
theorem SZ_eq (m : Int) : SZ m = inR m 1 31 := by rw [Bool.eq_iff_iff, SZ_iff, inR_iff]

theorem inL_yes {l : List Int} {x : Int} (h : x ∈ l) : inL l x = true := by simp [inL, h]
theorem inL_no {l : List Int} {x : Int} (h : x ∉ l) : inL l x = false := by simp [inL, h]

set_option maxHeartbeats 1000000 in
theorem has_any (a : Option Addr) (l : List Int) (len cap : Nat) (n : Int) (w : World) (hr : Reads w a l) (hn : l.length = len) (hl : len ≤ 9223372036854775806) :
    Calls Tryd.prog 15 #[.slice a len cap, .int .i64 n] w fun e w' => e = .returned (.bool (inL l n)) ∧ w = w' := by
  subst hn
  go_enter Tryd.func15, Tryd.ntmps15
  go_wp2
  go_loop [5] (fun i => ∃ k : Nat, k ≤ l.length ∧ i = .int .i64 k ∧ Hid (∀ j, j < k → l.getD j 0 ≠ n)) (fun i => l.length - (intOf i).toNat)
  case atStart => exact ⟨0, Nat.zero_le _, rfl, fun j hj => by omega⟩
  case round =>
    obtain ⟨k, hk, rfl, hf⟩ := hrel
    by_cases hlt : k < l.length
    · obtain ⟨b, off, y, rfl, hb, hcell, hy⟩ := hr.get hlt
      by_cases g1 : y = n
      · have hd : (y == n) = true := by simp [g1]
        have hin : inL l n = true := by
          have e : l.getD k 0 = l[k] := by simp [List.getD, hlt]
          have := hy.out
          rw [e, g1] at this
          exact inL_yes (this ▸ List.getElem_mem hlt)
        have HIN := Lib.hid hin
        clear hin g1
        go_wp2
        go_ret
        exact ⟨ret_bool HIN.out.symm, rfl⟩
      · have hd : (y == n) = false := by simpa using g1
        have HG := Lib.hid g1
        clear g1
        go_wp2
        go_round
        case rel =>
          refine ⟨k + 1, by omega, by go_num, ?_⟩
          intro j hj
          by_cases e : j = k
          · subst e; rw [hy.out]; exact HG.out
          · exact hf.out j (by omega)
        case measure => simp [intOf]; omega
    · obtain rfl : k = l.length := by omega
      have hin : inL l n = false := by
        apply inL_no
        intro h
        obtain ⟨i, hi, e⟩ := List.getElem_of_mem h
        exact hf.out i hi (by simp [List.getD, hi, e])
      have HIN := Lib.hid hin
      clear hin
      go_wp2
      go_ret
      exact ⟨ret_bool HIN.out.symm, rfl⟩

/-- The first k keys are different ones. -/
def VKp (l : List Int) (k : Nat) : Prop := ∀ i, i < k → (0 ≤ l.getD i 0 ∧ l.getD i 0 ≤ 30) ∧ l.getD i 0 ∉ l.take i
theorem VKp.succ {l : List Int} {k : Nat} (h : VKp l k) (h1 : 0 ≤ l.getD k 0 ∧ l.getD k 0 ≤ 30) (h2 : l.getD k 0 ∉ l.take k) : VKp l (k + 1) := by
  intro i hi
  by_cases e : i = k
  · subst e; exact ⟨h1, h2⟩
  · exact h i (by omega)
theorem take_snoc {l : List Int} {k : Nat} (h : k < l.length) : l.take (k + 1) = l.take k ++ [l.getD k 0] := by
  rw [List.take_succ_eq_append_getElem h]; simp [List.getD, h]
theorem VKp.nodup {l : List Int} : ∀ k, k ≤ l.length → VKp l k → (l.take k).Nodup ∧ ∀ x ∈ l.take k, 0 ≤ x ∧ x ≤ 30 := by
  intro k
  induction k with
  | zero => intro _ _; simp
  | succ k ih =>
    intro hk h
    obtain ⟨i1, i2⟩ := ih (by omega) (fun i hi => h i (by omega))
    obtain ⟨h1, h2⟩ := h k (by omega)
    rw [take_snoc (by omega)]
    refine ⟨?_, ?_⟩
    · rw [List.nodup_append]
      refine ⟨i1, by simp, fun x hx y hy => ?_⟩
      simp only [List.mem_singleton] at hy
      rintro rfl
      exact h2 (hy ▸ hx)
    · intro x hx
      rcases List.mem_append.1 hx with hx | hx
      · exact i2 x hx
      · simp only [List.mem_singleton] at hx; subst hx; exact h1
theorem VK_end {l : List Int} (h : VKp l l.length) : VK l = decide (l.length ≤ 8) := by
  obtain ⟨h1, h2⟩ := VKp.nodup l.length (Nat.le_refl _) h
  rw [List.take_length] at h1 h2
  rw [Bool.eq_iff_iff, VK_iff, decide_eq_true_eq]
  exact ⟨fun h => h.1, fun h => ⟨h, h2, h1⟩⟩
theorem VK_bad1 {l : List Int} {k : Nat} (hk : k < l.length) (h : ¬ (0 ≤ l.getD k 0 ∧ l.getD k 0 ≤ 30)) : VK l = false := by
  rw [← Bool.not_eq_true, VK_iff]
  rintro ⟨_, h2, _⟩
  exact h (h2 _ (getD_mem hk))
theorem VK_bad2 {l : List Int} {k : Nat} (hk : k < l.length) (h : l.getD k 0 ∈ l.take k) : VK l = false := by
  rw [← Bool.not_eq_true, VK_iff]
  rintro ⟨_, _, h3⟩
  have h4 : (l.take (k + 1)).Nodup := h3.sublist (List.take_sublist _ _)
  rw [take_snoc hk, List.nodup_append] at h4
  exact h4.2.2 _ h _ (by simp) rfl

theorem Reads.take' {w : World} {a : Option Addr} {l : List Int} (h : Reads w a l) (k : Nat) : Reads w a (l.take k) := by
  rcases h with rfl | ⟨b, off, ha, hb, hc⟩
  · exact .inl (by simp)
  · refine .inr ⟨b, off, ha, hb, fun i hi => ?_⟩
    rw [List.length_take] at hi
    rw [hc i (by omega)]
    simp [List.getD, List.getElem?_take, show i < k by omega]
theorem quiet_lf {P : Program} {f : FuncId} {args : Array Value} {w : World} {a n : Nat} {v : Value}
    (h : Calls P f args (w.drewN (a + n)) fun e w' => e = .returned v ∧ w.drewN (a + n) = w') :
    Calls P f args (w.drewN (a + n)) fun e w'' => e = .returned v ∧ ∃ m, w'' = w.drewN (a + m) :=
  h.mono fun _ _ ⟨he, hm⟩ => ⟨he, n, hm.symm⟩

/-- Pairs that meet, while they are counted. -/
def mpart (H : List Int) (i k : Nat) : Nat := pr (H.take i) + (H.take k).count (H.getD i 0)
theorem mpart_zero (H : List Int) (i : Nat) : mpart H i 0 = pr (H.take i) := by simp [mpart]
theorem mpart_full {H : List Int} {i : Nat} (h : i < H.length) : mpart H i i = pr (H.take (i + 1)) := by
  rw [take_snoc h, pr_snoc, mpart]
theorem mpart_succ {H : List Int} {i k : Nat} (h : k < H.length) : mpart H i (k + 1) = mpart H i k + (if H.getD i 0 = H.getD k 0 then 1 else 0) := by
  unfold mpart
  rw [take_snoc h, List.count_append]
  by_cases e : H.getD i 0 = H.getD k 0
  · rw [if_pos e, e]; simp; omega
  · rw [if_neg e]
    have e' : ¬ H.getD k 0 = H.getD i 0 := fun q => e q.symm
    simp only [List.getD] at e' ⊢
    simp [List.count_cons, e']
theorem map_getD {l : List Int} {f : Int → Int} {i : Nat} (h : i < l.length) : (l.map f).getD i 0 = f (l.getD i 0) := by simp [List.getD, h]
theorem pr_le100 {L : List Int} (h : L.length ≤ 8) : pr L ≤ 100 := by
  have h1 := pr_le L
  have h2 : L.length * (L.length - 1) ≤ 8 * 8 := Nat.mul_le_mul h (by omega)
  omega
theorem mpart_le {H : List Int} {i k : Nat} (h : H.length ≤ 8) : mpart H i k ≤ 200 := by
  have h1 := pr_le100 (L := H.take i) (by rw [List.length_take]; omega)
  have h2 : (H.take k).count (H.getD i 0) ≤ (H.take k).length := List.count_le_length
  rw [List.length_take] at h2
  unfold mpart; omega

theorem below_q {w : World} {n : Nat} : Below w.heap.size w (w.drewN n) := below_drewN (Below.refl _ _) n

end Go.Proofs.YtoaiaindcmihjaaDoor
