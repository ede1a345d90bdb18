
import Derived.Test.YtoaiaindcmihjaaGreatDoorMta
import Derived.StillTailTactics
import Derived.Deep.AppendLies
import Derived.Deep.RegionHeld3
import Derived.Deep.RegionWith
import Derived.Deep.RegionLaw
/-
  spec.hash, validHash, HashOf, has, validKeys, meetings, MeetingsOf.
-/
namespace Go.Proofs.YtoaiaindcmihjaaGreatDoor
open Go.RowKit

theorem VF_eq (a b m : Int) : VF a b m = (inR a 1 30 && inR b 0 30 && inR m 1 31) := by
  rw [Bool.eq_iff_iff]; simp only [VF_iff, Bool.and_eq_true, inR_iff]; omega
theorem KR_eq (k : Int) : KR k = inR k 0 30 := by rw [Bool.eq_iff_iff, KR_iff, inR_iff]
theorem SZ_eq (m : Int) : SZ m = inR m 1 31 := by rw [Bool.eq_iff_iff, SZ_iff, inR_iff]

set_option maxHeartbeats 1000000 in
theorem hash_any (a b m k : Int) (w : World) (ha : 0 ≤ a) (ha' : a ≤ 30) (hb : 0 ≤ b) (hb' : b ≤ 30) (hm : 1 ≤ m) (hm' : m ≤ 31) (hk : 0 ≤ k) (hk' : k ≤ 30) :
    Calls Tryz.prog 165 #[.int .i64 a, .int .i64 b, .int .i64 m, .int .i64 k] w fun e w' => e = .returned (.int .i64 (hs a b m k)) ∧ w = w' := by
  have h0 : 0 ≤ a * k := Int.mul_nonneg ha hk
  have h1 : a * k ≤ 30 * 30 := Int.mul_le_mul ha' hk' hk (by omega)
  have hne : (m == 0) = false := by simp; omega
  go_enter Tryz.func165, Tryz.ntmps165
  go_wp2
  go_ret
  exact ⟨rfl, rfl⟩

theorem inL_yes {l : List Int} {x : Int} (h : x ∈ l) : inL l x = true := by simp [inL, h]
theorem inL_no {l : List Int} {x : Int} (h : x ∉ l) : inL l x = false := by simp [inL, h]

set_option maxHeartbeats 1000000 in
theorem has_any (a : Option Addr) (l : List Int) (len cap : Nat) (n : Int) (w : World) (hr : Reads w a l) (hn : l.length = len) (hl : len ≤ 9223372036854775806) :
    Calls Tryz.prog 51 #[.slice a len cap, .int .i64 n] w fun e w' => e = .returned (.bool (inL l n)) ∧ w = w' := by
  subst hn
  go_enter Tryz.func51, Tryz.ntmps51
  go_wp2
  go_loop [5] (fun i => ∃ k : Nat, k ≤ l.length ∧ i = .int .i64 k ∧ Hid (∀ j, j < k → l.getD j 0 ≠ n)) (fun i => l.length - (intOf i).toNat)
  case atStart => exact ⟨0, Nat.zero_le _, rfl, fun j hj => by omega⟩
  case round =>
    obtain ⟨k, hk, rfl, hf⟩ := hrel
    by_cases hlt : k < l.length
    · obtain ⟨b, off, y, rfl, hb, hcell, hy⟩ := hr.get hlt
      by_cases g1 : y = n
      · have hd : (y == n) = true := by simp [g1]
        have hin : inL l n = true := by
          have e : l.getD k 0 = l[k] := by simp [List.getD, hlt]
          have := hy.out
          rw [e, g1] at this
          exact inL_yes (this ▸ List.getElem_mem hlt)
        have HIN := Lib.hid hin
        clear hin g1
        go_wp2
        go_ret
        exact ⟨ret_bool HIN.out.symm, rfl⟩
      · have hd : (y == n) = false := by simpa using g1
        have HG := Lib.hid g1
        clear g1
        go_wp2
        go_round
        case rel =>
          refine ⟨k + 1, by omega, by go_num, ?_⟩
          intro j hj
          by_cases e : j = k
          · subst e; rw [hy.out]; exact HG.out
          · exact hf.out j (by omega)
        case measure => simp [intOf]; omega
    · obtain rfl : k = l.length := by omega
      have hin : inL l n = false := by
        apply inL_no
        intro h
        obtain ⟨i, hi, e⟩ := List.getElem_of_mem h
        exact hf.out i hi (by simp [List.getD, hi, e])
      have HIN := Lib.hid hin
      clear hin
      go_wp2
      go_ret
      exact ⟨ret_bool HIN.out.symm, rfl⟩

/-- The first k keys are different ones. -/
def VKp (l : List Int) (k : Nat) : Prop := ∀ i, i < k → (0 ≤ l.getD i 0 ∧ l.getD i 0 ≤ 30) ∧ l.getD i 0 ∉ l.take i
theorem VKp.succ {l : List Int} {k : Nat} (h : VKp l k) (h1 : 0 ≤ l.getD k 0 ∧ l.getD k 0 ≤ 30) (h2 : l.getD k 0 ∉ l.take k) : VKp l (k + 1) := by
  intro i hi
  by_cases e : i = k
  · subst e; exact ⟨h1, h2⟩
  · exact h i (by omega)
theorem take_snoc {l : List Int} {k : Nat} (h : k < l.length) : l.take (k + 1) = l.take k ++ [l.getD k 0] := by
  rw [List.take_succ_eq_append_getElem h]; simp [List.getD, h]
theorem VKp.nodup {l : List Int} : ∀ k, k ≤ l.length → VKp l k → (l.take k).Nodup ∧ ∀ x ∈ l.take k, 0 ≤ x ∧ x ≤ 30 := by
  intro k
  induction k with
  | zero => intro _ _; simp
  | succ k ih =>
    intro hk h
    obtain ⟨i1, i2⟩ := ih (by omega) (fun i hi => h i (by omega))
    obtain ⟨h1, h2⟩ := h k (by omega)
    rw [take_snoc (by omega)]
    refine ⟨?_, ?_⟩
    · rw [List.nodup_append]
      refine ⟨i1, by simp, fun x hx y hy => ?_⟩
      simp only [List.mem_singleton] at hy
      rintro rfl
      exact h2 (hy ▸ hx)
    · intro x hx
      rcases List.mem_append.1 hx with hx | hx
      · exact i2 x hx
      · simp only [List.mem_singleton] at hx; subst hx; exact h1
theorem VK_end {l : List Int} (h : VKp l l.length) : VK l = decide (l.length ≤ 8) := by
  obtain ⟨h1, h2⟩ := VKp.nodup l.length (Nat.le_refl _) h
  rw [List.take_length] at h1 h2
  rw [Bool.eq_iff_iff, VK_iff, decide_eq_true_eq]
  exact ⟨fun h => h.1, fun h => ⟨h, h2, h1⟩⟩
theorem VK_bad1 {l : List Int} {k : Nat} (hk : k < l.length) (h : ¬ (0 ≤ l.getD k 0 ∧ l.getD k 0 ≤ 30)) : VK l = false := by
  rw [← Bool.not_eq_true, VK_iff]
  rintro ⟨_, h2, _⟩
  exact h (h2 _ (getD_mem hk))
theorem VK_bad2 {l : List Int} {k : Nat} (hk : k < l.length) (h : l.getD k 0 ∈ l.take k) : VK l = false := by
  rw [← Bool.not_eq_true, VK_iff]
  rintro ⟨_, _, h3⟩
  have h4 : (l.take (k + 1)).Nodup := h3.sublist (List.take_sublist _ _)
  rw [take_snoc hk, List.nodup_append] at h4
  exact h4.2.2 _ h _ (by simp) rfl

theorem Reads.take' {w : World} {a : Option Addr} {l : List Int} (h : Reads w a l) (k : Nat) : Reads w a (l.take k) := by
  rcases h with rfl | ⟨b, off, ha, hb, hc⟩
  · exact .inl (by simp)
  · refine .inr ⟨b, off, ha, hb, fun i hi => ?_⟩
    rw [List.length_take] at hi
    rw [hc i (by omega)]
    simp [List.getD, List.getElem?_take, show i < k by omega]
theorem quiet_lf {P : Program} {f : FuncId} {args : Array Value} {w : World} {a n : Nat} {v : Value}
    (h : Calls P f args (w.drewN (a + n)) fun e w' => e = .returned v ∧ w.drewN (a + n) = w') :
    Calls P f args (w.drewN (a + n)) fun e w'' => e = .returned v ∧ ∃ m, w'' = w.drewN (a + m) :=
  h.mono fun _ _ ⟨he, hm⟩ => ⟨he, n, hm.symm⟩

set_option maxHeartbeats 4000000 in
theorem specvalidKeys_any (a : Option Addr) (l : List Int) (cap : Nat) (w : World) (hr : Reads w a l) (hl : l.length ≤ 1048586) (hcap : l.length ≤ cap) :
    Calls Tryz.prog 82 #[.slice a l.length cap] w fun e w' => e = .returned (.bool (VK l)) ∧ ∃ n, w' = w.drewN n := by
  go_enter Tryz.func82, Tryz.ntmps82
  go_wp2
  go_loopw [3] (fun i wr => ∃ k n : Nat, k ≤ l.length ∧ i = .int .i64 k ∧ Hid (VKp l k) ∧ wr = w.drewN n) (fun i _ => l.length - (intOf i).toNat)
  case atStart => exact ⟨0, 0, Nat.zero_le _, rfl, fun j hj => by omega, rfl⟩
  case round =>
    obtain ⟨k, n, hk, rfl, hf, rfl⟩ := hrel
    by_cases hlt : k < l.length
    · obtain ⟨b, off, y, rfl, hb, hcell, hy⟩ := hr.get hlt
      by_cases g1 : inR y 0 30 = true
      · have c1 : ∀ wx, Calls Tryz.prog 58 #[.int .i64 y, .int .i64 0, .int .i64 30] wx fun e w' => e = .returned (.bool true) ∧ wx = w' := fun wx => by
          have := inRange_any y 0 30 wx; rwa [g1] at this
        have D1 := Lib.hid (fun n => c1 (w.drewN n))
        have ht := hr.take' k
        have hk1 : (k : Int) ≤ (cap : Int) := by omega
        have hk2 : (k : Int) < (l.length : Int) := by omega
        have hk3 : (0 : Int) ≤ (k : Int) := by omega
        by_cases g2 : inL (l.take k) y = true
        · have c2 : ∀ wx, Reads wx (some ⟨b, off, none⟩) (l.take k) → Calls Tryz.prog 51 #[.slice (some ⟨b, off, none⟩) k cap, .int .i64 y] wx fun e w' => e = .returned (.bool true) ∧ wx = w' := fun wx h => by
            have := has_any (some ⟨b, off, none⟩) (l.take k) k cap y wx h (by rw [List.length_take]; omega) (by omega)
            rwa [g2] at this
          have D2 := Lib.hid (fun n => c2 (w.drewN n) ht)
          have HB := Lib.hid (VK_bad2 hlt (by rw [hy.out]; simpa [inL] using g2))
          clear c1 c2 g1 g2
          go_wp2_with fail
          go_quiet ((with_reducible first | (go_at_call 58; exact quiet_lf (D1.out _)) | (go_at_call 51; exact quiet_lf (D2.out _))))
          all_goals
            go_wp2
            go_ret
            exact ⟨ret_bool HB.out.symm, _, World.drewN_drewN _ _ _⟩
        · have g2' : inL (l.take k) y = false := by simpa using g2
          have c2 : ∀ wx, Reads wx (some ⟨b, off, none⟩) (l.take k) → Calls Tryz.prog 51 #[.slice (some ⟨b, off, none⟩) k cap, .int .i64 y] wx fun e w' => e = .returned (.bool false) ∧ wx = w' := fun wx h => by
            have := has_any (some ⟨b, off, none⟩) (l.take k) k cap y wx h (by rw [List.length_take]; omega) (by omega)
            rwa [g2'] at this
          have D2 := Lib.hid (fun n => c2 (w.drewN n) ht)
          have HB := Lib.hid (hf.out.succ (by rw [hy.out]; exact inR_iff.1 g1) (by rw [hy.out]; simpa [inL] using g2))
          clear c1 c2 g1 g2 g2'
          go_wp2_with fail
          go_quiet ((with_reducible first | (go_at_call 58; exact quiet_lf (D1.out _)) | (go_at_call 51; exact quiet_lf (D2.out _))))
          all_goals
            go_wp2
            go_roundw
            case rel => exact ⟨k + 1, _, by omega, by go_num, HB, rfl⟩
            case measure => simp [intOf]; omega
      · have g1' : inR y 0 30 = false := by simpa using g1
        have c1 : ∀ wx, Calls Tryz.prog 58 #[.int .i64 y, .int .i64 0, .int .i64 30] wx fun e w' => e = .returned (.bool false) ∧ wx = w' := fun wx => by
          have := inRange_any y 0 30 wx; rwa [g1'] at this
        have D1 := Lib.hid (fun n => c1 (w.drewN n))
        have HB := Lib.hid (VK_bad1 hlt (by rw [hy.out]; exact fun h => g1 (inR_iff.2 h)))
        have hk1 : (k : Int) ≤ (cap : Int) := by omega
        have hk2 : (k : Int) < (l.length : Int) := by omega
        have hk3 : (0 : Int) ≤ (k : Int) := by omega
        clear c1 g1 g1'
        go_wp2_with fail
        go_quiet ((with_reducible first | (go_at_call 58; exact quiet_lf (D1.out _))))
        all_goals
          go_wp2
          go_ret
          exact ⟨ret_bool HB.out.symm, _, World.drewN_drewN _ _ _⟩
    · obtain rfl : k = l.length := by omega
      have HB := Lib.hid (VK_end hf.out)
      go_wp2
      go_ret
      exact ⟨ret_bool (by rw [HB.out]; simp; omega), _, rfl⟩

/-- Pairs that meet, while they are counted. -/
def mpart (H : List Int) (i k : Nat) : Nat := pr (H.take i) + (H.take k).count (H.getD i 0)
theorem mpart_zero (H : List Int) (i : Nat) : mpart H i 0 = pr (H.take i) := by simp [mpart]
theorem mpart_full {H : List Int} {i : Nat} (h : i < H.length) : mpart H i i = pr (H.take (i + 1)) := by
  rw [take_snoc h, pr_snoc, mpart]
theorem mpart_succ {H : List Int} {i k : Nat} (h : k < H.length) : mpart H i (k + 1) = mpart H i k + (if H.getD i 0 = H.getD k 0 then 1 else 0) := by
  unfold mpart
  rw [take_snoc h, List.count_append]
  by_cases e : H.getD i 0 = H.getD k 0
  · rw [if_pos e, e]; simp; omega
  · rw [if_neg e]
    have e' : ¬ H.getD k 0 = H.getD i 0 := fun q => e q.symm
    simp only [List.getD] at e' ⊢
    simp [List.count_cons, e']
theorem map_getD {l : List Int} {f : Int → Int} {i : Nat} (h : i < l.length) : (l.map f).getD i 0 = f (l.getD i 0) := by simp [List.getD, h]
theorem pr_le100 {L : List Int} (h : L.length ≤ 8) : pr L ≤ 100 := by
  have h1 := pr_le L
  have h2 : L.length * (L.length - 1) ≤ 8 * 8 := Nat.mul_le_mul h (by omega)
  omega
theorem mpart_le {H : List Int} {i k : Nat} (h : H.length ≤ 8) : mpart H i k ≤ 200 := by
  have h1 := pr_le100 (L := H.take i) (by rw [List.length_take]; omega)
  have h2 : (H.take k).count (H.getD i 0) ≤ (H.take k).length := List.count_le_length
  rw [List.length_take] at h2
  unfold mpart; omega

set_option maxHeartbeats 4000000 in
theorem meetings_any (a b m : Int) (al : Option Addr) (l : List Int) (cap : Nat) (w : World) (hr : Reads w al l) (ha : 1 ≤ a) (ha' : a ≤ 30) (hb : 0 ≤ b) (hb' : b ≤ 30) (hm : 1 ≤ m) (hm' : m ≤ 31) (hv : VK l = true) :
    Calls Tryz.prog 135 #[.int .i64 a, .int .i64 b, .int .i64 m, .slice al l.length cap] w fun e w' => e = .returned (.int .i64 (mt a b m l : Nat)) ∧ ∃ n, w' = w.drewN n := by
  obtain ⟨hl, hfit, _⟩ := VK_iff.1 hv
  obtain ⟨H, hH⟩ : ∃ H, H = l.map (hs a b m) := ⟨_, rfl⟩
  have hHl : H.length = l.length := by rw [hH, List.length_map]
  have hHg : ∀ i, i < l.length → H.getD i 0 = hs a b m (l.getD i 0) := fun i hi => by rw [hH]; exact map_getD hi
  have hmt : mt a b m l = pr H := by rw [hH]; rfl
  have HG := Lib.hid hHg
  have HM := Lib.hid hmt
  have HL := Lib.hid hHl
  have HF := Lib.hid hfit
  clear hmt hH hHl hHg hfit hv
  go_enter Tryz.func135, Tryz.ntmps135
  go_wp2
  go_loopw [9, 10] (fun c i wr => ∃ k n : Nat, k ≤ l.length ∧ i = .int .i64 k ∧ c = .int .i64 (pr (H.take k) : Nat) ∧ wr = w.drewN n) (fun _ i _ => l.length - (intOf i).toNat)
  case atStart => exact ⟨0, 0, Nat.zero_le _, rfl, by simp [pr], rfl⟩
  case round =>
    obtain ⟨i, n, hi, rfl, rfl, rfl⟩ := hrel
    by_cases hlt : i < l.length
    · obtain ⟨bb, off, y, rfl, hbb, hcell, hy⟩ := hr.get hlt
      have hyf := HF.out y (by rw [← hy.out]; exact getD_mem hlt)
      go_wp2
      go_loopw [9, 11] (fun c j wr => ∃ k n : Nat, k ≤ i ∧ j = .int .i64 k ∧ c = .int .i64 (mpart H i k : Nat) ∧ wr = w.drewN n) (fun _ j _ => i - (intOf j).toNat)
      case atStart => exact ⟨0, n, Nat.zero_le _, rfl, by rw [mpart_zero], rfl⟩
      case round =>
        obtain ⟨k, n, hk, rfl, rfl, rfl⟩ := hrel
        have hml := mpart_le (H := H) (i := i) (k := k) (by rw [HL.out]; omega)
        by_cases hlt2 : k < i
        · obtain ⟨z, hcell2, hz⟩ := hr.at_ (k := k) (by omega)
          have hzf := HF.out z (by rw [← hz.out]; exact getD_mem (by omega))
          have hk4 : (k : Int) < (l.length : Int) := by omega
          have hk5 : (0 : Int) ≤ (k : Int) := by omega
          obtain ⟨X, hX⟩ : ∃ X, X = hs a b m y := ⟨_, rfl⟩
          obtain ⟨Z, hZ⟩ : ∃ Z, Z = hs a b m z := ⟨_, rfl⟩
          have D1 := Lib.hid (fun n => (by have := hash_any a b m y (w.drewN n) (by omega) ha' hb hb' hm hm' hyf.1 hyf.2; rwa [← hX] at this : Calls Tryz.prog 165 #[.int .i64 a, .int .i64 b, .int .i64 m, .int .i64 y] (w.drewN n) fun e w' => e = .returned (.int .i64 X) ∧ w.drewN n = w'))
          have D2 := Lib.hid (fun n => (by have := hash_any a b m z (w.drewN n) (by omega) ha' hb hb' hm hm' hzf.1 hzf.2; rwa [← hZ] at this : Calls Tryz.prog 165 #[.int .i64 a, .int .i64 b, .int .i64 m, .int .i64 z] (w.drewN n) fun e w' => e = .returned (.int .i64 Z) ∧ w.drewN n = w'))
          have HS := Lib.hid (mpart_succ (H := H) (i := i) (k := k) (by rw [HL.out]; omega))
          have eX : Hid (H.getD i 0 = X) := by show H.getD i 0 = X; rw [HG.out i hlt, hy.out, hX]
          have eZ : Hid (H.getD k 0 = Z) := by show H.getD k 0 = Z; rw [HG.out k (by omega), hz.out, hZ]
          clear hX hZ hyf hzf
          by_cases e : X = Z
          · have hd : (X == Z) = true := by simp [e]
            have E := Lib.hid e
            clear e
            go_wp2_with fail
            go_quiet ((with_reducible first | (go_at_call 165; exact quiet_lf (D1.out _)) | (go_at_call 165; exact quiet_lf (D2.out _))))
            all_goals
              go_wp2
              go_roundw
              case rel => exact ⟨k + 1, _, by omega, by go_num, by rw [HS.out, if_pos (by rw [eX.out, eZ.out, E.out])]; go_num, rfl⟩
              case measure => simp [intOf]; omega
          · have hd : (X == Z) = false := by simp [e]
            have E := Lib.hid e
            clear e
            go_wp2_with fail
            go_quiet ((with_reducible first | (go_at_call 165; exact quiet_lf (D1.out _)) | (go_at_call 165; exact quiet_lf (D2.out _))))
            all_goals
              go_wp2
              go_roundw
              case rel => exact ⟨k + 1, _, by omega, by go_num, by rw [HS.out, if_neg (by rw [eX.out, eZ.out]; exact E.out)]; rfl, rfl⟩
              case measure => simp [intOf]; omega
        · obtain rfl : k = i := by omega
          have HS := Lib.hid (mpart_full (H := H) (i := k) (by rw [HL.out]; omega))
          go_wp2
          go_roundw
          case rel => exact ⟨k + 1, _, by omega, by go_num, by rw [HS.out], rfl⟩
          case measure => simp [intOf]; omega
    · obtain rfl : i = l.length := by omega
      have hE : pr (H.take l.length) = mt a b m l := by rw [HM.out, ← HL.out, List.take_length]
      rw [hE]
      clear hE
      go_wp2
      go_ret
      exact ⟨rfl, _, rfl⟩

theorem below_q {w : World} {n : Nat} : Below w.heap.size w (w.drewN n) := Go.below_drewN (Below.refl _ _) n

end Go.Proofs.YtoaiaindcmihjaaGreatDoor
/-
  spec.power, laws.power.
-/
namespace Go.Proofs.YtoaiaindcmihjaaGreatDoor
open Go.RowKit

theorem powS {n : Nat} (h : n ≤ 40) : 2 ^ n ≤ 1099511627776 := Nat.pow_le_pow_right (n := 2) (by omega) h
set_option maxHeartbeats 1000000 in
theorem pow_any (n : Nat) (w : World) (hn : n ≤ 40) : Calls Tryz.prog 59 #[.int .i64 (n : Int)] w fun e w' => e = .returned (.int .i64 ((2 ^ n : Nat) : Int)) ∧ w = w' := by
  obtain ⟨T, hT⟩ : ∃ T, T = 2 ^ n := ⟨_, rfl⟩
  rw [← hT]
  have HT := Lib.hid hT
  clear hT
  go_enter Tryz.func59, Tryz.ntmps59
  go_wp2
  go_loop [0, 3] (fun nv ov => ∃ k P : Nat, k ≤ n ∧ nv = .int .i64 ((n : Int) - k) ∧ ov = .int .i64 (P : Int) ∧ Hid (P = 2 ^ k)) (fun nv _ => (intOf nv).toNat)
  case atStart => exact ⟨0, 1, by omega, by simp, rfl, rfl⟩
  case round =>
    obtain ⟨k, P, hk, rfl, rfl, hP⟩ := hrel
    have hs := powS (n := k) (by omega)
    rw [← hP.out] at hs
    by_cases hlt : k < n
    · have hg : (n : Int) - k > 0 := by omega
      have hp2 : Hid (2 * P = 2 ^ (k + 1)) := by show 2 * P = 2 ^ (k + 1); rw [hP.out, Nat.pow_succ]; omega
      go_wp2
      go_round
      case rel => exact ⟨k + 1, 2 * P, by omega, by go_num, by go_num, hp2⟩
      case measure => simp [intOf]; omega
    · obtain rfl : k = n := by omega
      have hg : ¬ (k : Int) - k > 0 := by omega
      go_wp2
      go_ret
      exact ⟨ret_int (by rw [hP.out, HT.out]), rfl⟩
theorem quiet_pfN {P : Program} {f : FuncId} {args : Array Value} {w : World} {n : Nat} {v : Value}
    (h : Calls P f args (w.drewN n) fun e w' => e = .returned v ∧ w.drewN n = w') :
    Calls P f args (w.drewN n) fun e w'' => e = .returned v ∧ ∃ m, w'' = w.drewN m :=
  h.mono fun _ _ ⟨he, hm⟩ => ⟨he, n, hm.symm⟩
theorem quiet_pdN {P : Program} {f : FuncId} {args : Array Value} {w : World} {n : Nat} {v : Value}
    (h : Calls P f args (w.drewN n) fun e w' => e = .returned v ∧ ∃ q, w' = (w.drewN n).drewN q) :
    Calls P f args (w.drewN n) fun e w'' => e = .returned v ∧ ∃ m, w'' = w.drewN m :=
  h.mono fun _ _ ⟨he, q, hm⟩ => ⟨he, n + q, by rw [hm, World.drewN_drewN]⟩
theorem quiet_ldN {P : Program} {f : FuncId} {args : Array Value} {w : World} {a n : Nat} {v : Value}
    (h : Calls P f args (w.drewN (a + n)) fun e w' => e = .returned v ∧ ∃ q, w' = (w.drewN (a + n)).drewN q) :
    Calls P f args (w.drewN (a + n)) fun e w'' => e = .returned v ∧ ∃ m, w'' = w.drewN (a + m) :=
  h.mono fun _ _ ⟨he, q, hm⟩ => ⟨he, n + q, by rw [hm, World.drewN_drewN, Nat.add_assoc]⟩
theorem pow6_any (w : World) : Calls Tryz.prog 59 #[.int .i64 6] w fun e w' => e = .returned (.int .i64 64) ∧ w = w' := pow_any 6 w (by omega)
end Go.Proofs.YtoaiaindcmihjaaGreatDoor
/-
  Chapter 6's plain mathematics: names, and the buckets of a table that grows one by one.
-/
namespace Go.Proofs.YtoaiaindcmihjaaGreatDoor

/-- Names: different numbers of six binary digits. -/
def VNm (l : List Int) : Bool := decide (l.length ≤ 12 ∧ (∀ x ∈ l, 0 ≤ x ∧ x ≤ 63) ∧ l.Nodup)
theorem VNm_iff {l : List Int} : VNm l = true ↔ l.length ≤ 12 ∧ (∀ x ∈ l, 0 ≤ x ∧ x ≤ 63) ∧ l.Nodup := by simp [VNm]
/-- The level of a table of c buckets. -/
def lvc (c : Nat) : Nat := Nat.log2 c
theorem lvc_le {c : Nat} (h : 1 ≤ c) : 2 ^ lvc c ≤ c := Nat.log2_self_le (by omega)
theorem lvc_lt (c : Nat) : c < 2 ^ (lvc c + 1) := Nat.lt_log2_self
theorem lvc_eq {c L : Nat} (h1 : 2 ^ L ≤ c) (h2 : c < 2 ^ (L + 1)) : lvc c = L := by
  have hc : 1 ≤ c := by have := Nat.two_pow_pos L; omega
  have a1 := lvc_le hc
  have a2 := lvc_lt c
  have b1 : lvc c < L + 1 := (Nat.pow_lt_pow_iff_right (a := 2) (by omega)).1 (Nat.lt_of_le_of_lt a1 h2)
  have b2 : L < lvc c + 1 := (Nat.pow_lt_pow_iff_right (a := 2) (by omega)).1 (Nat.lt_of_le_of_lt h1 a2)
  omega
/-- The bucket of a name. -/
def lno (c x : Nat) : Nat := if x % 2 ^ (lvc c + 1) < c then x % 2 ^ (lvc c + 1) else x % 2 ^ lvc c
theorem lno_lt {c : Nat} (h : 1 ≤ c) (x : Nat) : lno c x < c := by
  unfold lno
  split
  · assumption
  · exact Nat.lt_of_lt_of_le (Nat.mod_lt _ (Nat.two_pow_pos _)) (lvc_le h)
theorem mod_mod_pow (x L : Nat) : x % 2 ^ (L + 1) % 2 ^ L = x % 2 ^ L := Nat.mod_mod_of_dvd _ (Nat.pow_dvd_pow 2 (by omega))
/-- With one bucket more a name stays, or it is in the new one. -/
theorem lno_next {c : Nat} (h : 1 ≤ c) (x : Nat) : lno (c + 1) x = lno c x ∨ (lno (c + 1) x = c ∧ lno c x = c % 2 ^ lvc c) := by
  have h1 := lvc_le h
  have h2 := lvc_lt c
  by_cases e : c + 1 < 2 ^ (lvc c + 1)
  · have hl : lvc (c + 1) = lvc c := lvc_eq (by omega) e
    unfold lno
    rw [hl]
    by_cases g : x % 2 ^ (lvc c + 1) < c
    · rw [if_pos g, if_pos (by omega)]; exact .inl rfl
    · rw [if_neg g]
      by_cases g2 : x % 2 ^ (lvc c + 1) = c
      · rw [if_pos (by omega)]
        refine .inr ⟨g2, ?_⟩
        rw [← mod_mod_pow, g2]
      · rw [if_neg (by omega)]; exact .inl rfl
  · have e2 : c + 1 = 2 ^ (lvc c + 1) := by omega
    have hl : lvc (c + 1) = lvc c + 1 := lvc_eq (by omega) (by have := Nat.pow_lt_pow_succ (a := 2) (n := lvc c + 1) (by omega); omega)
    have hm : x % 2 ^ (lvc c + 1) < c + 1 := by rw [e2]; exact Nat.mod_lt _ (Nat.two_pow_pos _)
    have hn : lno (c + 1) x = x % 2 ^ (lvc c + 1) := by
      unfold lno
      rw [hl]
      by_cases g : x % 2 ^ (lvc c + 1 + 1) < c + 1
      · have q := mod_mod_pow x (lvc c + 1)
        rw [Nat.mod_eq_of_lt (a := x % 2 ^ (lvc c + 1 + 1)) (by omega)] at q
        rw [if_pos g, q]
      · rw [if_neg g]
    rw [hn]
    unfold lno
    by_cases g : x % 2 ^ (lvc c + 1) < c
    · rw [if_pos g]; exact .inl rfl
    · have g2 : x % 2 ^ (lvc c + 1) = c := by omega
      rw [if_neg g]
      refine .inr ⟨g2, ?_⟩
      rw [← mod_mod_pow, g2]
/-- The bucket of a name, -1 for other numbers. -/
def LNO (c x : Int) : Int := if (1 ≤ c ∧ c ≤ 40) ∧ 0 ≤ x ∧ x ≤ 63 then (lno c.toNat x.toNat : Nat) else -1
def VLm (c : Int) (l : List Int) : Prop := (1 ≤ c ∧ c ≤ 39) ∧ VNm l = true
instance (c : Int) (l : List Int) : Decidable (VLm c l) := by unfold VLm; infer_instance
/-- The names that move. -/
def LMV (c : Int) (l : List Int) : List Int := if VLm c l then l.filter (fun x => decide (LNO c x ≠ LNO (c + 1) x)) else []
theorem LNO_some {c x : Int} (h : (1 ≤ c ∧ c ≤ 40) ∧ 0 ≤ x ∧ x ≤ 63) : LNO c x = (lno c.toNat x.toNat : Nat) := if_pos h
theorem LNO_none {c x : Int} (h : ¬ ((1 ≤ c ∧ c ≤ 40) ∧ 0 ≤ x ∧ x ≤ 63)) : LNO c x = -1 := if_neg h
/-- The law of LineOf. -/
theorem LNO_law {c x : Int} (h : (1 ≤ c ∧ c ≤ 40) ∧ 0 ≤ x ∧ x ≤ 63) : (0 ≤ LNO c x ∧ LNO c x < c) ∧ (c < 40 → LNO (c + 1) x = LNO c x ∨ LNO (c + 1) x = c) := by
  have h1 := lno_lt (c := c.toNat) (by omega) x.toNat
  rw [LNO_some h]
  refine ⟨by omega, fun h2 => ?_⟩
  rw [LNO_some ⟨⟨by omega, by omega⟩, h.2⟩]
  have e : (c + 1).toNat = c.toNat + 1 := by omega
  rw [e]
  rcases lno_next (c := c.toNat) (by omega) x.toNat with h3 | ⟨h3, _⟩
  · exact .inl (by rw [h3])
  · exact .inr (by rw [h3]; omega)
/-- The law of LineMoves: what moves comes from one bucket, and goes to the new one. -/
theorem LMV_law {c : Int} {l : List Int} (h : VLm c l) {x : Int} (hx : x ∈ LMV c l) : LNO c x = ((c.toNat % 2 ^ lvc c.toNat : Nat) : Int) ∧ LNO (c + 1) x = c ∧ x ∈ l ∧ 0 ≤ x ∧ x ≤ 63 := by
  unfold LMV at hx
  rw [if_pos h] at hx
  obtain ⟨hm, hne⟩ := List.mem_filter.1 hx
  have hne := of_decide_eq_true hne
  have hr := (VNm_iff.1 h.2).2.1 x hm
  have hc := h.1
  have e : (c + 1).toNat = c.toNat + 1 := by omega
  rw [LNO_some ⟨⟨by omega, by omega⟩, hr⟩, LNO_some ⟨⟨by omega, by omega⟩, hr⟩, e] at hne
  rw [LNO_some ⟨⟨by omega, by omega⟩, hr⟩, LNO_some ⟨⟨by omega, by omega⟩, hr⟩, e]
  rcases lno_next (c := c.toNat) (by omega) x.toNat with h3 | ⟨h3, h4⟩
  · exact absurd (by rw [h3]) hne
  · refine ⟨by rw [h4], by rw [h3]; omega, hm, hr⟩
theorem LMV_len (c : Int) (l : List Int) : (LMV c l).length ≤ l.length := by
  unfold LMV; split
  · exact List.length_filter_le _ _
  · simp
end Go.Proofs.YtoaiaindcmihjaaGreatDoor
/-
  Numbers in order: what insertion gives.
-/
namespace Go.Proofs.YtoaiaindcmihjaaGreatDoor

/-- The numbers ascending. -/
def srt (l : List Int) : List Int := l.mergeSort (fun a b => decide (a ≤ b))
theorem srt_perm (l : List Int) : (srt l).Perm l := List.mergeSort_perm _ _
theorem srt_sorted (l : List Int) : (srt l).Pairwise (· ≤ ·) := by
  have := List.pairwise_mergeSort (le := fun a b : Int => decide (a ≤ b)) (fun a b c h1 h2 => by simp at *; omega) (fun a b => by simp; omega) l
  exact this.imp (fun h => of_decide_eq_true h)
/-- There is just one such list. -/
theorem srt_only {l R : List Int} (hp : R.Perm l) (hs : R.Pairwise (· ≤ ·)) : R = srt l :=
  List.Perm.eq_of_pairwise (le := fun a b => a ≤ b) (fun a b _ _ h1 h2 => by omega) hs (srt_sorted l) (hp.trans (srt_perm l).symm)
theorem srt_congr {l l' : List Int} (h : l.Perm l') : srt l = srt l' := srt_only ((srt_perm l).trans h) (srt_sorted l)
theorem srt_id {l : List Int} (h : l.Pairwise (· ≤ ·)) : srt l = l := (srt_only (List.Perm.refl l) h).symm
theorem srt_len (l : List Int) : (srt l).length = l.length := (srt_perm l).length_eq
theorem srt_mem {l : List Int} {x : Int} : x ∈ srt l ↔ x ∈ l := (srt_perm l).mem_iff
theorem srt_nodup {l : List Int} : (srt l).Nodup ↔ l.Nodup := (srt_perm l).nodup_iff
/-- A number put in where it belongs. -/
theorem ins_perm (l : List Int) (k : Nat) (x : Int) : (l.take k ++ [x] ++ l.drop k).Perm (l ++ [x]) := by
  have h : (l.take k ++ [x] ++ l.drop k).Perm (l.take k ++ l.drop k ++ [x]) := by
    rw [List.append_assoc, List.append_assoc]
    exact List.Perm.append_left _ List.perm_append_comm
  rwa [List.take_append_drop] at h
theorem ins_sorted {l : List Int} {k : Nat} {x : Int} (hs : l.Pairwise (· ≤ ·)) (hk : k ≤ l.length) (h1 : ∀ j, j < k → l.getD j 0 ≤ x) (h2 : k < l.length → x ≤ l.getD k 0) : (l.take k ++ [x] ++ l.drop k).Pairwise (· ≤ ·) := by
  have hs' : (l.take k ++ l.drop k).Pairwise (· ≤ ·) := by rwa [List.take_append_drop]
  obtain ⟨p1, p2, p3⟩ := List.pairwise_append.1 hs'
  have m1 : ∀ y ∈ l.take k, y ≤ x := fun y hy => by
    obtain ⟨i, hi, e⟩ := List.getElem_of_mem hy
    have hi2 : i < k := by rw [List.length_take] at hi; omega
    have := h1 i hi2
    rw [List.getElem_take] at e
    simp [List.getD, show i < l.length by omega, e] at this
    exact this
  have m2 : ∀ y ∈ l.drop k, x ≤ y := fun y hy => by
    obtain ⟨i, hi, e⟩ := List.getElem_of_mem hy
    rw [List.length_drop] at hi
    rw [List.getElem_drop] at e
    have hkl : k < l.length := by omega
    have a1 := h2 hkl
    simp [List.getD, hkl] at a1
    rcases Nat.eq_zero_or_pos i with h | h
    · subst h; rw [← e]; simpa using a1
    · have := (List.pairwise_iff_getElem.1 hs) k (k + i) hkl (by omega) (by omega)
      omega
  rw [List.append_assoc, List.pairwise_append]
  refine ⟨p1, ?_, fun a ha b hb => ?_⟩
  · rw [List.singleton_append, List.pairwise_cons]
    exact ⟨m2, p2⟩
  · rw [List.singleton_append, List.mem_cons] at hb
    rcases hb with rfl | hb
    · exact m1 a ha
    · have := m1 a ha; have := m2 b hb; omega
/-- What insertion has put in order so far. -/
def SOf (l : List Int) (k : Nat) (R : List Int) : Prop := R.Perm (l.take k) ∧ R.Pairwise (· ≤ ·)
theorem SOf.zero (l : List Int) : SOf l 0 [] := ⟨by simp, List.Pairwise.nil⟩
theorem SOf.next {l R : List Int} {i k : Nat} (h : SOf l i R) (hi : i < l.length) (hk : k ≤ R.length) (h1 : ∀ j, j < k → R.getD j 0 ≤ l.getD i 0) (h2 : k < R.length → l.getD i 0 ≤ R.getD k 0) : SOf l (i + 1) (R.take k ++ [l.getD i 0] ++ R.drop k) := by
  refine ⟨(ins_perm R k _).trans ?_, ins_sorted h.2 hk h1 h2⟩
  rw [List.take_succ_eq_append_getElem hi]
  have : l.getD i 0 = l[i] := by simp [List.getD, hi]
  rw [this]
  exact h.1.append_right _
theorem SOf.full {l R : List Int} (h : SOf l l.length R) : R = srt l := srt_only (by have := h.1; rwa [List.take_length] at this) h.2
theorem SOf.len {l R : List Int} {i : Nat} (h : SOf l i R) (hi : i ≤ l.length) : R.length = i := by
  rw [h.1.length_eq, List.length_take]; omega
end Go.Proofs.YtoaiaindcmihjaaGreatDoor
/-
  Buckets: names parted by their ends, directories.
-/
namespace Go.Proofs.YtoaiaindcmihjaaGreatDoor

/-- The names of one end. -/
def tfl (l : List Int) (d e : Nat) : List Int := l.filter (fun x => decide (x.toNat % 2 ^ d = e))
theorem tfl_mem {l : List Int} {d e : Nat} {x : Int} : x ∈ tfl l d e ↔ x ∈ l ∧ x.toNat % 2 ^ d = e := by simp [tfl, List.mem_filter]
theorem tfl_zero (l : List Int) : tfl l 0 0 = l := by
  unfold tfl
  rw [List.filter_eq_self]
  intro x _
  simp [Nat.mod_one]
theorem tfl_perm {l l' : List Int} (h : l.Perm l') (d e : Nat) : (tfl l d e).Perm (tfl l' d e) := h.filter _
theorem tfl_nodup {l : List Int} (h : l.Nodup) (d e : Nat) : (tfl l d e).Nodup := h.sublist List.filter_sublist
theorem mod_next (x d e : Nat) (he : e < 2 ^ d) : x % 2 ^ d = e ↔ (x % 2 ^ (d + 1) = e ∨ x % 2 ^ (d + 1) = e + 2 ^ d) := by
  have h1 : x % 2 ^ (d + 1) % 2 ^ d = x % 2 ^ d := mod_mod_pow x d
  have h2 : x % 2 ^ (d + 1) < 2 ^ (d + 1) := Nat.mod_lt _ (Nat.two_pow_pos _)
  have h3 : 2 ^ (d + 1) = 2 * 2 ^ d := by rw [Nat.pow_succ]; omega
  obtain ⟨y, hy⟩ : ∃ y, y = x % 2 ^ (d + 1) := ⟨_, rfl⟩
  obtain ⟨P, hP⟩ : ∃ P, P = 2 ^ d := ⟨_, rfl⟩
  rw [← hy, ← hP] at h1
  rw [← hy] at h2
  rw [h3, ← hP] at h2
  rw [← hP] at he
  rw [← hy, ← hP, ← h1]
  by_cases h : y < P
  · rw [Nat.mod_eq_of_lt h]; omega
  · rw [Nat.mod_eq_sub_mod (by omega), Nat.mod_eq_of_lt (by omega)]; omega
/-- The names of one end are those of both next digits. -/
theorem tfl_next (l : List Int) (d e : Nat) (he : e < 2 ^ d) : (tfl l (d + 1) e ++ tfl l (d + 1) (e + 2 ^ d)).Perm (tfl l d e) := by
  induction l with
  | nil => simp [tfl]
  | cons x l ih =>
    have hn := mod_next x.toNat d e he
    have hp := Nat.two_pow_pos d
    unfold tfl at ih ⊢
    by_cases h1 : x.toNat % 2 ^ (d + 1) = e
    · have h2 : ¬ x.toNat % 2 ^ (d + 1) = e + 2 ^ d := by omega
      have h3 : x.toNat % 2 ^ d = e := hn.2 (.inl h1)
      rw [List.filter_cons_of_pos (by simpa using h1), List.filter_cons_of_neg (by simpa using h2), List.filter_cons_of_pos (by simpa using h3)]
      exact ih.cons _
    · by_cases h2 : x.toNat % 2 ^ (d + 1) = e + 2 ^ d
      · have h3 : x.toNat % 2 ^ d = e := hn.2 (.inr h2)
        rw [List.filter_cons_of_neg (by simpa using h1), List.filter_cons_of_pos (by simpa using h2), List.filter_cons_of_pos (by simpa using h3)]
        exact List.perm_middle.trans (ih.cons _)
      · have h3 : ¬ x.toNat % 2 ^ d = e := fun h => by rcases hn.1 h with h | h <;> omega
        rw [List.filter_cons_of_neg (by simpa using h1), List.filter_cons_of_neg (by simpa using h2), List.filter_cons_of_neg (by simpa using h3)]
        exact ih
theorem tfl_six {l : List Int} (hn : l.Nodup) (hr : ∀ x ∈ l, 0 ≤ x ∧ x ≤ 63) (e : Nat) : (tfl l 6 e).length ≤ 1 := by
  have h1 := tfl_nodup hn 6 e
  have h2 : ∀ x ∈ tfl l 6 e, x = (e : Int) := fun x hx => by
    obtain ⟨h3, h4⟩ := tfl_mem.1 hx
    have := hr x h3
    rw [Nat.mod_eq_of_lt (by omega)] at h4
    omega
  cases h : tfl l 6 e with
  | nil => simp
  | cons x t =>
    cases t with
    | nil => simp
    | cons y t =>
      rw [h] at h1 h2
      have a := h2 x (by simp)
      have b := h2 y (by simp)
      rw [List.nodup_cons] at h1
      exact absurd (by rw [a, b]; simp) h1.1

/-- A bucket: its depth, its end, its names. -/
abbrev Bk := Nat × Nat × List Int
/-- Buckets of the names with one end. -/
def spl (l : List Int) (m : Nat) : Nat → Nat → Nat → List Bk
  | 0, d, e => [(d, e, srt (tfl l d e))]
  | f + 1, d, e => if (tfl l d e).length ≤ m then [(d, e, srt (tfl l d e))] else spl l m f (d + 1) e ++ spl l m f (d + 1) (e + 2 ^ d)
theorem spl_perm {l l' : List Int} (h : l.Perm l') (m : Nat) : ∀ f d e, spl l m f d e = spl l' m f d e := by
  intro f
  induction f with
  | zero => intro d e; rw [spl, spl, srt_congr (tfl_perm h d e)]
  | succ f ih =>
    intro d e
    rw [spl, spl, (tfl_perm h d e).length_eq, srt_congr (tfl_perm h d e), ih, ih]
theorem spl_ok {l : List Int} {m : Nat} (hn : l.Nodup) (hr : ∀ x ∈ l, 0 ≤ x ∧ x ≤ 63) (hm : 1 ≤ m) : ∀ f d e, f + d = 6 → e < 2 ^ d → ∀ b ∈ spl l m f d e, (d ≤ b.1 ∧ b.1 ≤ 6) ∧ b.2.1 < 2 ^ b.1 ∧ b.2.2 = srt (tfl l b.1 b.2.1) ∧ b.2.2.length ≤ m := by
  intro f
  induction f with
  | zero =>
    intro d e hf he b hb
    rw [spl, List.mem_singleton] at hb
    subst hb
    have hd : d = 6 := by omega
    subst hd
    refine ⟨⟨by simp, by simp⟩, he, rfl, ?_⟩
    have := tfl_six hn hr e
    show (srt (tfl l 6 e)).length ≤ m
    rw [srt_len]; omega
  | succ f ih =>
    intro d e hf he b hb
    rw [spl] at hb
    have hp : 2 ^ (d + 1) = 2 * 2 ^ d := by rw [Nat.pow_succ]; omega
    split at hb
    · rename_i h
      rw [List.mem_singleton] at hb
      subst hb
      refine ⟨⟨by simp, by simp; omega⟩, he, rfl, ?_⟩
      show (srt (tfl l d e)).length ≤ m
      rw [srt_len]; exact h
    · rcases List.mem_append.1 hb with h | h
      · obtain ⟨h1, h2⟩ := ih (d + 1) e (by omega) (by omega) b h
        exact ⟨⟨by omega, h1.2⟩, h2⟩
      · obtain ⟨h1, h2⟩ := ih (d + 1) (e + 2 ^ d) (by omega) (by omega) b h
        exact ⟨⟨by omega, h1.2⟩, h2⟩
theorem spl_all (l : List Int) (m : Nat) : ∀ f d e, e < 2 ^ d → ((spl l m f d e).flatMap (fun b => b.2.2)).Perm (tfl l d e) := by
  intro f
  induction f with
  | zero => intro d e _; rw [spl]; simpa using srt_perm _
  | succ f ih =>
    intro d e he
    have hp : 2 ^ (d + 1) = 2 * 2 ^ d := by rw [Nat.pow_succ]; omega
    rw [spl]
    split
    · simpa using srt_perm _
    · rw [List.flatMap_append]
      exact ((ih (d + 1) e (by omega)).append (ih (d + 1) (e + 2 ^ d) (by omega))).trans (tfl_next l d e he)
theorem spl_pos (l : List Int) (m : Nat) : ∀ f d e, 0 < (spl l m f d e).length := by
  intro f
  induction f with
  | zero => intro d e; simp [spl]
  | succ f ih =>
    intro d e
    rw [spl]
    split
    · simp
    · rw [List.length_append]; have := ih (d + 1) e; omega
theorem spl_len (l : List Int) (m : Nat) : ∀ f d e, (spl l m f d e).length ≤ 2 ^ f := by
  intro f
  induction f with
  | zero => intro d e; simp [spl]
  | succ f ih =>
    intro d e
    have hp : 2 ^ (f + 1) = 2 * 2 ^ f := by rw [Nat.pow_succ]; omega
    have := Nat.two_pow_pos f
    rw [spl]
    split
    · simp; omega
    · rw [List.length_append]; have := ih (d + 1) e; have := ih (d + 1) (e + 2 ^ d); omega
/-- Does a number end so? -/
def hit (x : Nat) (b : Bk) : Bool := decide (x % 2 ^ b.1 = b.2.1)
/-- Just one bucket has the end of a number. -/
theorem spl_hit (l : List Int) (m : Nat) (x : Nat) : ∀ f d e, e < 2 ^ d → (spl l m f d e).countP (hit x) = if x % 2 ^ d = e then 1 else 0 := by
  intro f
  induction f with
  | zero => intro d e _; rw [spl]; by_cases h : x % 2 ^ d = e <;> simp [hit, h]
  | succ f ih =>
    intro d e he
    have hp : 2 ^ (d + 1) = 2 * 2 ^ d := by rw [Nat.pow_succ]; omega
    have hn := mod_next x d e he
    rw [spl]
    split
    · by_cases h : x % 2 ^ d = e <;> simp [hit, h]
    · rw [List.countP_append, ih _ _ (by omega), ih _ _ (by omega)]
      have h2 : 0 < 2 ^ d := Nat.two_pow_pos d
      by_cases h : x % 2 ^ (d + 1) = e
      · rw [if_pos h, if_neg (by omega), if_pos (hn.2 (.inl h))]
      · rw [if_neg h]
        by_cases g : x % 2 ^ (d + 1) = e + 2 ^ d
        · rw [if_pos g, if_pos (hn.2 (.inr g))]
        · rw [if_neg g, if_neg (fun q => by rcases hn.1 q with q | q <;> omega)]
end Go.Proofs.YtoaiaindcmihjaaGreatDoor
/-
  Trees: their texts, and what is read of a text.
-/
namespace Go.Proofs.YtoaiaindcmihjaaGreatDoor

/-- A digit. -/
def dgt (n : Nat) : UInt8 := UInt8.ofNat (48 + n)
/-- A number in decimal. -/
def dec (n : Nat) : List UInt8 := if n < 10 then [dgt n] else dec (n / 10) ++ [dgt (n % 10)]
theorem dec_lt {n : Nat} (h : n < 10) : dec n = [dgt n] := by rw [dec, if_pos h]
theorem dec_ge {n : Nat} (h : ¬ n < 10) : dec n = dec (n / 10) ++ [dgt (n % 10)] := by rw [dec, if_neg h]
theorem dec_pos (n : Nat) : 0 < (dec n).length := by
  by_cases h : n < 10
  · rw [dec_lt h]; simp
  · rw [dec_ge h]; simp
theorem dec_two {n : Nat} (h : n < 100) : (dec n).length ≤ 2 := by
  by_cases h1 : n < 10
  · rw [dec_lt h1]; simp
  · rw [dec_ge h1, dec_lt (by omega)]; simp
/-- The text of a tree of the names with one end. -/
def ttr (l : List Int) : Nat → Nat → Nat → List UInt8
  | 0, d, e => match tfl l d e with
    | [] => [46]
    | x :: _ => dec x.toNat
  | f + 1, d, e => match tfl l d e with
    | [] => [46]
    | [x] => dec x.toNat
    | _ :: _ :: _ => [40] ++ ttr l f (d + 1) e ++ [32] ++ ttr l f (d + 1) (e + 2 ^ d) ++ [41]
theorem ttr_none {l : List Int} {d e : Nat} (h : tfl l d e = []) : ∀ f, ttr l f d e = [46] := by
  intro f; cases f <;> rw [ttr, h]
theorem ttr_one {l : List Int} {d e : Nat} {x : Int} (h : tfl l d e = [x]) : ∀ f, ttr l f d e = dec x.toNat := by
  intro f; cases f <;> rw [ttr, h]
theorem ttr_more {l : List Int} {d e f : Nat} (h : 2 ≤ (tfl l d e).length) : ttr l (f + 1) d e = [40] ++ ttr l f (d + 1) e ++ [32] ++ ttr l f (d + 1) (e + 2 ^ d) ++ [41] := by
  rw [ttr]
  match hx : tfl l d e with
  | [] => rw [hx] at h; simp at h
  | [x] => rw [hx] at h; simp at h
  | _ :: _ :: _ => rfl
/-- The three kinds of trees. -/
theorem tfl_cases (l : List Int) (d e : Nat) : tfl l d e = [] ∨ (∃ x, tfl l d e = [x]) ∨ 2 ≤ (tfl l d e).length := by
  match h : tfl l d e with
  | [] => exact .inl rfl
  | [x] => exact .inr (.inl ⟨x, rfl⟩)
  | _ :: _ :: _ => exact .inr (.inr (by simp))
theorem ttr_perm {l l' : List Int} (h : l.Perm l') (hn : l.Nodup) (hr : ∀ x ∈ l, 0 ≤ x ∧ x ≤ 63) : ∀ f d e, f + d = 6 → ttr l f d e = ttr l' f d e := by
  intro f
  induction f with
  | zero =>
    intro d e hf
    obtain rfl : d = 6 := by omega
    have h6 := tfl_six hn hr e
    have hp := tfl_perm h 6 e
    rcases tfl_cases l 6 e with h0 | ⟨x, h1⟩ | h2
    · rw [h0] at hp; rw [ttr_none h0, ttr_none hp.nil_eq.symm]
    · rw [h1] at hp; rw [ttr_one h1, ttr_one (List.perm_singleton.1 hp.symm)]
    · omega
  | succ f ih =>
    intro d e hf
    have hp := tfl_perm h d e
    rcases tfl_cases l d e with h0 | ⟨x, h1⟩ | h2
    · rw [h0] at hp; rw [ttr_none h0, ttr_none hp.nil_eq.symm]
    · rw [h1] at hp; rw [ttr_one h1, ttr_one (List.perm_singleton.1 hp.symm)]
    · rw [ttr_more h2, ttr_more (by rw [← hp.length_eq]; exact h2), ih _ _ (by omega), ih _ _ (by omega)]
theorem ttr_len {l : List Int} (hn : l.Nodup) (hr : ∀ x ∈ l, 0 ≤ x ∧ x ≤ 63) : ∀ f d e, f + d = 6 → e < 2 ^ d → (ttr l f d e).length ≤ 2 + 5 * f * (tfl l d e).length := by
  have one : ∀ f d e, (tfl l d e).length ≤ 1 → (ttr l f d e).length ≤ 2 := by
    intro f d e h
    rcases tfl_cases l d e with h0 | ⟨x, h1⟩ | h2
    · rw [ttr_none h0]; simp
    · rw [ttr_one h1]
      have := (tfl_mem.1 (show x ∈ tfl l d e by rw [h1]; simp)).1
      have := hr x this
      exact dec_two (by omega)
    · omega
  intro f
  induction f with
  | zero =>
    intro d e hf _
    obtain rfl : d = 6 := by omega
    have := one 0 6 e (tfl_six hn hr e)
    omega
  | succ f ih =>
    intro d e hf he
    have hp : 2 ^ (d + 1) = 2 * 2 ^ d := by rw [Nat.pow_succ]; omega
    by_cases h : (tfl l d e).length ≤ 1
    · have := one (f + 1) d e h
      omega
    · rw [ttr_more (by omega)]
      have h1 := ih (d + 1) e (by omega) (by omega)
      have h2 := ih (d + 1) (e + 2 ^ d) (by omega) (by omega)
      have h3 := (tfl_next l d e he).length_eq
      rw [List.length_append] at h3
      simp only [List.length_append, List.length_singleton]
      obtain ⟨A, hA⟩ : ∃ A, A = (tfl l (d + 1) e).length := ⟨_, rfl⟩
      obtain ⟨B, hB⟩ : ∃ B, B = (tfl l (d + 1) (e + 2 ^ d)).length := ⟨_, rfl⟩
      rw [← hA] at h1 h3
      rw [← hB] at h2 h3
      rw [← h3]
      have e1 : 5 * (f + 1) * (A + B) = 5 * f * A + 5 * f * B + 5 * (A + B) := by
        rw [Nat.mul_add, Nat.mul_add, Nat.mul_one, Nat.add_mul, Nat.add_mul, Nat.mul_add]; omega
      omega
/-- The text of a tree, "" for other names. -/
def TXT (l : List Int) : List UInt8 := if VNm l = true then ttr l 6 0 0 else []
theorem TXT_len (l : List Int) : (TXT l).length ≤ 362 := by
  unfold TXT
  split
  · rename_i h
    obtain ⟨h1, h2, h3⟩ := VNm_iff.1 h
    have := ttr_len h3 h2 6 0 0 rfl (by simp)
    rw [tfl_zero] at this
    omega
  · simp
theorem VNm_perm {l l' : List Int} (h : l.Perm l') : VNm l = VNm l' := by
  rw [Bool.eq_iff_iff, VNm_iff, VNm_iff, h.length_eq, h.nodup_iff]
  constructor
  · rintro ⟨h1, h2, h3⟩; exact ⟨h1, fun x hx => h2 x (h.mem_iff.2 hx), h3⟩
  · rintro ⟨h1, h2, h3⟩; exact ⟨h1, fun x hx => h2 x (h.mem_iff.1 hx), h3⟩
theorem TXT_perm {l l' : List Int} (h : l.Perm l') : TXT l = TXT l' := by
  unfold TXT
  rw [← VNm_perm h]
  split
  · rename_i hv
    obtain ⟨h1, h2, h3⟩ := VNm_iff.1 hv
    exact ttr_perm h h3 h2 6 0 0 rfl
  · rfl
theorem ttr_ne (l : List Int) : ∀ f d e, ttr l f d e ≠ [] := by
  intro f d e h
  have hd : ∀ n, dec n ≠ [] := fun n h => by have := dec_pos n; rw [h] at this; simp at this
  rcases tfl_cases l d e with h0 | ⟨x, h1⟩ | h2
  · rw [ttr_none h0] at h; simp at h
  · rw [ttr_one h1] at h; exact hd _ h
  · cases f with
    | zero =>
      rw [ttr] at h
      match hx : tfl l d e with
      | [] => rw [hx] at h2; simp at h2
      | x :: t => rw [hx] at h; exact hd _ h
    | succ f => rw [ttr_more h2] at h; simp at h
theorem TXT_ne {l : List Int} : TXT l ≠ [] ↔ VNm l = true := by
  unfold TXT
  split
  · rename_i h; exact ⟨fun _ => h, fun _ => ttr_ne _ _ _ _⟩
  · rename_i h; simp; simpa using h

/-- Is it a digit? -/
def isD (c : UInt8) : Bool := decide (48 ≤ c.toNat ∧ c.toNat ≤ 57)
/-- The number that a text begins with: it, how many digits it has, and what is behind it. -/
def rdn (n k : Nat) : List UInt8 → Nat × Nat × List UInt8
  | [] => (n, k, [])
  | c :: s => if isD c = true ∧ n < 1000 then rdn (10 * n + (c.toNat - 48)) (k + 1) s else (n, k, c :: s)
/-- The names of a text of a tree, and what is behind it. -/
def rd : Nat → List UInt8 → Option (List Int × List UInt8)
  | 0, _ => none
  | _ + 1, [] => none
  | f + 1, c :: s =>
    if c = 46 then some ([], s)
    else if c = 40 then
      match rd f s with
      | some (a, c1 :: r) => if c1 = 32 then
          match rd f r with
          | some (b, c2 :: m) => if c2 = 41 then some (a ++ b, m) else none
          | _ => none
        else none
      | _ => none
    else match rdn 0 0 (c :: s) with
      | (n, k, r) => if k = 0 then none else some ([(n : Int)], r)
/-- No digit stands there. -/
def nod (s : List UInt8) : Prop := ∀ c t, s = c :: t → isD c = false
theorem dgt_toNat {n : Nat} (h : n < 10) : (dgt n).toNat = 48 + n := by
  unfold dgt; rw [UInt8.toNat_ofNat']; omega
theorem isD_dgt {n : Nat} (h : n < 10) : isD (dgt n) = true := by
  unfold isD; rw [dgt_toNat h]; simp; omega
theorem rdn_stop {n k : Nat} {s : List UInt8} (h : nod s) : rdn n k s = (n, k, s) := by
  cases s with
  | nil => rfl
  | cons c t => rw [rdn, h c t rfl]; simp
theorem rdn_dec {n : Nat} (h : n < 100) {s : List UInt8} (hs : nod s) : rdn 0 0 (dec n ++ s) = (n, (dec n).length, s) := by
  by_cases h1 : n < 10
  · rw [dec_lt h1, List.singleton_append, rdn, isD_dgt h1, if_pos ⟨rfl, by omega⟩, rdn_stop hs, dgt_toNat h1]
    simp
  · have h2 : n / 10 < 10 := by omega
    have h3 : n % 10 < 10 := by omega
    rw [dec_ge h1, dec_lt h2, List.append_assoc, List.singleton_append, List.singleton_append, rdn, isD_dgt h2, if_pos ⟨rfl, by omega⟩, rdn, isD_dgt h3, dgt_toNat h2, if_pos ⟨rfl, by omega⟩, rdn_stop hs, dgt_toNat h3]
    simp
    omega
theorem dec_head (n : Nat) : ∃ m t, m < 10 ∧ dec n = dgt m :: t := by
  induction n using Nat.strongRecOn with
  | ind n ih =>
    by_cases h : n < 10
    · exact ⟨n, [], h, dec_lt h⟩
    · obtain ⟨m, t, h1, h2⟩ := ih (n / 10) (by omega)
      exact ⟨m, t ++ [dgt (n % 10)], h1, by rw [dec_ge h, h2]; rfl⟩
theorem rd_dec {n f : Nat} (h : n < 100) {s : List UInt8} (hs : nod s) : rd (f + 1) (dec n ++ s) = some ([(n : Int)], s) := by
  have e := rdn_dec h hs
  obtain ⟨m, t, h1, h2⟩ := dec_head n
  have hp := dec_pos n
  rw [h2] at e hp ⊢
  have hd := dgt_toNat h1
  rw [List.cons_append] at e ⊢
  rw [rd, if_neg (fun h => by rw [h] at hd; have : (46 : UInt8).toNat = 46 := rfl; omega), if_neg (fun h => by rw [h] at hd; have : (40 : UInt8).toNat = 40 := rfl; omega), e]
  simp only
  rw [if_neg (by omega)]
/-- The names in the order of the tree. -/
def lvs (l : List Int) : Nat → Nat → Nat → List Int
  | 0, d, e => tfl l d e
  | f + 1, d, e => if (tfl l d e).length ≤ 1 then tfl l d e else lvs l f (d + 1) e ++ lvs l f (d + 1) (e + 2 ^ d)
theorem lvs_perm (l : List Int) : ∀ f d e, e < 2 ^ d → (lvs l f d e).Perm (tfl l d e) := by
  intro f
  induction f with
  | zero => intro d e _; rw [lvs]
  | succ f ih =>
    intro d e he
    have hp : 2 ^ (d + 1) = 2 * 2 ^ d := by rw [Nat.pow_succ]; omega
    rw [lvs]
    split
    · exact List.Perm.refl _
    · exact ((ih (d + 1) e (by omega)).append (ih (d + 1) (e + 2 ^ d) (by omega))).trans (tfl_next l d e he)
theorem nod_cons {c : UInt8} {s : List UInt8} (h : isD c = false) : nod (c :: s) := by
  intro c' t e; injection e with e1 _; rw [← e1]; exact h
/-- What is written is read. -/
theorem rd_ttr {l : List Int} (hn : l.Nodup) (hr : ∀ x ∈ l, 0 ≤ x ∧ x ≤ 63) : ∀ f d e g s, f + d = 6 → e < 2 ^ d → nod s → (ttr l f d e).length < g → rd g (ttr l f d e ++ s) = some (lvs l f d e, s) := by
  have one : ∀ f d e g s, (tfl l d e).length ≤ 1 → nod s → 0 < g → rd g (ttr l f d e ++ s) = some (tfl l d e, s) := by
    intro f d e g s h hs hg
    obtain ⟨g, rfl⟩ : ∃ g', g = g' + 1 := ⟨g - 1, by omega⟩
    rcases tfl_cases l d e with h0 | ⟨x, h1⟩ | h2
    · rw [ttr_none h0, h0, List.singleton_append, rd, if_pos rfl]
    · have := hr x (tfl_mem.1 (show x ∈ tfl l d e by rw [h1]; simp)).1
      rw [ttr_one h1, h1, rd_dec (by omega) hs, show ((x.toNat : Nat) : Int) = x by omega]
    · omega
  intro f
  induction f with
  | zero =>
    intro d e g s hf he hs hg
    obtain rfl : d = 6 := by omega
    exact one 0 6 e g s (tfl_six hn hr e) hs (by omega)
  | succ f ih =>
    intro d e g s hf he hs hg
    have hp : 2 ^ (d + 1) = 2 * 2 ^ d := by rw [Nat.pow_succ]; omega
    by_cases h : (tfl l d e).length ≤ 1
    · rw [lvs, if_pos h]; exact one (f + 1) d e g s h hs (by omega)
    · rw [ttr_more (by omega)] at hg
      simp only [List.length_append, List.length_singleton] at hg
      rw [lvs, if_neg h, ttr_more (by omega)]
      obtain ⟨g, rfl⟩ : ∃ g', g = g' + 1 := ⟨g - 1, by omega⟩
      have e1 : [40] ++ ttr l f (d + 1) e ++ [32] ++ ttr l f (d + 1) (e + 2 ^ d) ++ [41] ++ s = 40 :: (ttr l f (d + 1) e ++ 32 :: (ttr l f (d + 1) (e + 2 ^ d) ++ 41 :: s)) := by simp
      rw [e1, rd, if_neg (by decide), if_pos rfl, ih (d + 1) e g _ (by omega) (by omega) (nod_cons (by decide)) (by omega)]
      simp only
      rw [if_pos trivial, ih (d + 1) (e + 2 ^ d) g _ (by omega) (by omega) (nod_cons (by decide)) (by omega)]
      simp
/-- The names of a text, ascending. -/
def RT (s : List UInt8) : Option (List Int) :=
  if s.length ≤ 400 then
    match rd (s.length + 1) s with
    | some (l, []) => if TXT l = s then some (srt l) else none
    | _ => none
  else none
theorem nod_nil : nod [] := by intro c t e; cases e
theorem RT_TXT {l : List Int} (h : VNm l = true) : RT (TXT l) = some (srt l) := by
  obtain ⟨h1, h2, h3⟩ := VNm_iff.1 h
  have hl := TXT_len l
  have e : TXT l = ttr l 6 0 0 := if_pos h
  have hr := rd_ttr h3 h2 6 0 0 ((TXT l).length + 1) [] rfl (by simp) nod_nil (by rw [e]; omega)
  rw [List.append_nil, ← e] at hr
  unfold RT
  rw [if_pos (by omega), hr]
  have hp : (lvs l 6 0 0).Perm l := by have := lvs_perm l 6 0 0 (by simp); rwa [tfl_zero] at this
  simp only
  rw [if_pos (TXT_perm hp), srt_congr hp]
theorem RT_some {s : List UInt8} {R : List Int} (hs : s ≠ []) (h : RT s = some R) : VNm R = true ∧ R.Pairwise (· ≤ ·) ∧ TXT R = s := by
  unfold RT at h
  split at h
  · split at h
    · split at h
      · rename_i l _ e
        injection h with h
        subst h
        have hp := srt_perm l
        have e2 : TXT (srt l) = s := by rw [TXT_perm hp, e]
        refine ⟨TXT_ne.1 (by rw [e2]; exact hs), srt_sorted l, e2⟩
      · cases h
    · cases h
  · cases h
theorem RT_nil : RT [] = none := by unfold RT; rfl
/-- The names of a text are those whose text it is. -/
theorem RT_iff {s : List UInt8} {R : List Int} : RT s = some R ↔ VNm R = true ∧ R.Pairwise (· ≤ ·) ∧ TXT R = s := by
  constructor
  · intro h
    refine RT_some (fun e => ?_) h
    rw [e, RT_nil] at h; cases h
  · rintro ⟨h1, h2, rfl⟩
    rw [RT_TXT h1, srt_id h2]
theorem RT_none {s : List UInt8} (h : ∀ l, VNm l = true → TXT l ≠ s) : RT s = none := by
  cases e : RT s with
  | none => rfl
  | some R => obtain ⟨h1, _, h3⟩ := RT_iff.1 e; exact absurd h3 (h R h1)
/-- The law of ReadTree: the names ascend. -/
theorem RT_asc {s : List UInt8} {R : List Int} (h : RT s = some R) : R.Pairwise (· < ·) := by
  obtain ⟨h1, h2, _⟩ := RT_iff.1 h
  have hn := (VNm_iff.1 h1).2.2
  exact (List.pairwise_and_iff.2 ⟨h2, hn⟩).imp (fun ⟨a, b⟩ => by omega)
end Go.Proofs.YtoaiaindcmihjaaGreatDoor
/-
  Names: spec.validNames.
-/
namespace Go.Proofs.YtoaiaindcmihjaaGreatDoor
open Go.RowKit

/-- The first k keys are different ones. -/
def VNp (l : List Int) (k : Nat) : Prop := ∀ i, i < k → (0 ≤ l.getD i 0 ∧ l.getD i 0 ≤ 63) ∧ l.getD i 0 ∉ l.take i
theorem VNp.succ {l : List Int} {k : Nat} (h : VNp l k) (h1 : 0 ≤ l.getD k 0 ∧ l.getD k 0 ≤ 63) (h2 : l.getD k 0 ∉ l.take k) : VNp l (k + 1) := by
  intro i hi
  by_cases e : i = k
  · subst e; exact ⟨h1, h2⟩
  · exact h i (by omega)
theorem take_snocN {l : List Int} {k : Nat} (h : k < l.length) : l.take (k + 1) = l.take k ++ [l.getD k 0] := by
  rw [List.take_succ_eq_append_getElem h]; simp [List.getD, h]
theorem VNp.nodup {l : List Int} : ∀ k, k ≤ l.length → VNp l k → (l.take k).Nodup ∧ ∀ x ∈ l.take k, 0 ≤ x ∧ x ≤ 63 := by
  intro k
  induction k with
  | zero => intro _ _; simp
  | succ k ih =>
    intro hk h
    obtain ⟨i1, i2⟩ := ih (by omega) (fun i hi => h i (by omega))
    obtain ⟨h1, h2⟩ := h k (by omega)
    rw [take_snocN (by omega)]
    refine ⟨?_, ?_⟩
    · rw [List.nodup_append]
      refine ⟨i1, by simp, fun x hx y hy => ?_⟩
      simp only [List.mem_singleton] at hy
      rintro rfl
      exact h2 (hy ▸ hx)
    · intro x hx
      rcases List.mem_append.1 hx with hx | hx
      · exact i2 x hx
      · simp only [List.mem_singleton] at hx; subst hx; exact h1
theorem VNm_end {l : List Int} (h : VNp l l.length) : VNm l = decide (l.length ≤ 12) := by
  obtain ⟨h1, h2⟩ := VNp.nodup l.length (Nat.le_refl _) h
  rw [List.take_length] at h1 h2
  rw [Bool.eq_iff_iff, VNm_iff, decide_eq_true_eq]
  exact ⟨fun h => h.1, fun h => ⟨h, h2, h1⟩⟩
theorem VNm_bad1 {l : List Int} {k : Nat} (hk : k < l.length) (h : ¬ (0 ≤ l.getD k 0 ∧ l.getD k 0 ≤ 63)) : VNm l = false := by
  rw [← Bool.not_eq_true, VNm_iff]
  rintro ⟨_, h2, _⟩
  exact h (h2 _ (getD_mem hk))
theorem VNm_bad2 {l : List Int} {k : Nat} (hk : k < l.length) (h : l.getD k 0 ∈ l.take k) : VNm l = false := by
  rw [← Bool.not_eq_true, VNm_iff]
  rintro ⟨_, _, h3⟩
  have h4 : (l.take (k + 1)).Nodup := h3.sublist (List.take_sublist _ _)
  rw [take_snocN hk, List.nodup_append] at h4
  exact h4.2.2 _ h _ (by simp) rfl

set_option maxHeartbeats 4000000 in
theorem specvalidNames_any (a : Option Addr) (l : List Int) (cap : Nat) (w : World) (hr : Reads w a l) (hl : l.length ≤ 1048586) (hcap : l.length ≤ cap) :
    Calls Tryz.prog 33 #[.slice a l.length cap] w fun e w' => e = .returned (.bool (VNm l)) ∧ ∃ n, w' = w.drewN n := by
  go_enter Tryz.func33, Tryz.ntmps33
  go_wp2
  have D0 := Lib.hid (fun n => pow6_any (w.drewN n))
  go_loopw [3] (fun i wr => ∃ k n : Nat, k ≤ l.length ∧ i = .int .i64 k ∧ Hid (VNp l k) ∧ wr = w.drewN n) (fun i _ => l.length - (intOf i).toNat)
  case atStart => exact ⟨0, 0, Nat.zero_le _, rfl, fun j hj => by omega, rfl⟩
  case round =>
    obtain ⟨k, n, hk, rfl, hf, rfl⟩ := hrel
    by_cases hlt : k < l.length
    · obtain ⟨b, off, y, rfl, hb, hcell, hy⟩ := hr.get hlt
      by_cases g1 : inR y 0 63 = true
      · have c1 : ∀ wx, Calls Tryz.prog 58 #[.int .i64 y, .int .i64 0, .int .i64 63] wx fun e w' => e = .returned (.bool true) ∧ wx = w' := fun wx => by
          have := inRange_any y 0 63 wx; rwa [g1] at this
        have D1 := Lib.hid (fun n => c1 (w.drewN n))
        have ht := hr.take' k
        have hk1 : (k : Int) ≤ (cap : Int) := by omega
        have hk2 : (k : Int) < (l.length : Int) := by omega
        have hk3 : (0 : Int) ≤ (k : Int) := by omega
        by_cases g2 : inL (l.take k) y = true
        · have c2 : ∀ wx, Reads wx (some ⟨b, off, none⟩) (l.take k) → Calls Tryz.prog 51 #[.slice (some ⟨b, off, none⟩) k cap, .int .i64 y] wx fun e w' => e = .returned (.bool true) ∧ wx = w' := fun wx h => by
            have := has_any (some ⟨b, off, none⟩) (l.take k) k cap y wx h (by rw [List.length_take]; omega) (by omega)
            rwa [g2] at this
          have D2 := Lib.hid (fun n => c2 (w.drewN n) ht)
          have HB := Lib.hid (VNm_bad2 hlt (by rw [hy.out]; simpa [inL] using g2))
          clear c1 c2 g1 g2
          go_wp2_with fail
          go_quiet ((with_reducible first | (go_at_call 59; exact quiet_lf (D0.out _)) | (go_at_call 58; exact quiet_lf (D1.out _)) | (go_at_call 51; exact quiet_lf (D2.out _))))
          all_goals
            go_wp2
            go_ret
            exact ⟨ret_bool HB.out.symm, _, World.drewN_drewN _ _ _⟩
        · have g2' : inL (l.take k) y = false := by simpa using g2
          have c2 : ∀ wx, Reads wx (some ⟨b, off, none⟩) (l.take k) → Calls Tryz.prog 51 #[.slice (some ⟨b, off, none⟩) k cap, .int .i64 y] wx fun e w' => e = .returned (.bool false) ∧ wx = w' := fun wx h => by
            have := has_any (some ⟨b, off, none⟩) (l.take k) k cap y wx h (by rw [List.length_take]; omega) (by omega)
            rwa [g2'] at this
          have D2 := Lib.hid (fun n => c2 (w.drewN n) ht)
          have HB := Lib.hid (hf.out.succ (by rw [hy.out]; exact inR_iff.1 g1) (by rw [hy.out]; simpa [inL] using g2))
          clear c1 c2 g1 g2 g2'
          go_wp2_with fail
          go_quiet ((with_reducible first | (go_at_call 59; exact quiet_lf (D0.out _)) | (go_at_call 58; exact quiet_lf (D1.out _)) | (go_at_call 51; exact quiet_lf (D2.out _))))
          all_goals
            go_wp2
            go_roundw
            case rel => exact ⟨k + 1, _, by omega, by go_num, HB, rfl⟩
            case measure => simp [intOf]; omega
      · have g1' : inR y 0 63 = false := by simpa using g1
        have c1 : ∀ wx, Calls Tryz.prog 58 #[.int .i64 y, .int .i64 0, .int .i64 63] wx fun e w' => e = .returned (.bool false) ∧ wx = w' := fun wx => by
          have := inRange_any y 0 63 wx; rwa [g1'] at this
        have D1 := Lib.hid (fun n => c1 (w.drewN n))
        have HB := Lib.hid (VNm_bad1 hlt (by rw [hy.out]; exact fun h => g1 (inR_iff.2 h)))
        have hk1 : (k : Int) ≤ (cap : Int) := by omega
        have hk2 : (k : Int) < (l.length : Int) := by omega
        have hk3 : (0 : Int) ≤ (k : Int) := by omega
        clear c1 g1 g1'
        go_wp2_with fail
        go_quiet ((with_reducible first | (go_at_call 59; exact quiet_lf (D0.out _)) | (go_at_call 58; exact quiet_lf (D1.out _))))
        all_goals
          go_wp2
          go_ret
          exact ⟨ret_bool HB.out.symm, _, World.drewN_drewN _ _ _⟩
    · obtain rfl : k = l.length := by omega
      have HB := Lib.hid (VNm_end hf.out)
      go_wp2
      go_ret
      exact ⟨ret_bool (by rw [HB.out]; simp; omega), _, rfl⟩

end Go.Proofs.YtoaiaindcmihjaaGreatDoor
/-
  spec.LineOf, LineMoves.
-/
namespace Go.Proofs.YtoaiaindcmihjaaGreatDoor
open Go.RowKit

theorem pow_tail (x d : Nat) (w : World) (hd : d ≤ 40) (hx : x ≤ 1000000) : Calls Tryz.prog 60 #[.int .i64 (x : Int), .int .i64 (d : Int)] w fun e w' => e = .returned (.int .i64 ((x % 2 ^ d : Nat) : Int)) ∧ w = w' := by
  have c := pow_any d w hd
  have hs := powS hd
  have hp := Nat.two_pow_pos d
  obtain ⟨P, hP⟩ : ∃ P, P = 2 ^ d := ⟨_, rfl⟩
  rw [← hP] at c hs hp ⊢
  have hP0 : ¬ P = 0 := by omega
  have hPi : ((P : Int) == 0) = false := by simp; omega
  obtain ⟨r, hr⟩ : ∃ r, r = x % P := ⟨_, rfl⟩
  have e2 : (x : Int).tmod (P : Int) = (r : Int) := by rw [hr, Int.tmod_eq_emod_of_nonneg (by omega)]; omega
  rw [← hr]
  have C := Lib.hid c
  clear c hP hr
  go_enter Tryz.func60, Tryz.ntmps60
  go_wp2_with fail
  refine C.out.mono ?_
  rintro e w' ⟨rfl, rfl⟩
  go_wp2
  go_ret
  exact ⟨rfl, rfl⟩
end Go.Proofs.YtoaiaindcmihjaaGreatDoor
/-
  spec.LineOf, LineMoves.
-/
namespace Go.Proofs.YtoaiaindcmihjaaGreatDoor
open Go.RowKit

theorem in63 {x : Int} : inR x 0 63 = true ↔ 0 ≤ x ∧ x ≤ 63 := inR_iff
/-- The names that move, for a table and names. -/
def lmv (c : Nat) (l : List Int) : List Int := l.filter (fun x => decide (lno c x.toNat ≠ lno (c + 1) x.toNat))
theorem lmv_take {c : Nat} {l : List Int} {i : Nat} (h : i < l.length) : lmv c (l.take (i + 1)) = lmv c (l.take i) ++ if lno c (l.getD i 0).toNat ≠ lno (c + 1) (l.getD i 0).toNat then [l.getD i 0] else [] := by
  rw [take_snocN h]
  unfold lmv
  rw [List.filter_append]
  by_cases g : lno c (l.getD i 0).toNat ≠ lno (c + 1) (l.getD i 0).toNat
  · rw [if_pos g, List.filter_cons_of_pos (by rw [decide_eq_true g]), List.filter_nil]
  · rw [if_neg g, List.filter_cons_of_neg (by rw [decide_eq_false g]; simp), List.filter_nil]
theorem LMV_is {c : Nat} {l : List Int} (h : VLm (c : Int) l) : LMV c l = lmv c l := by
  unfold LMV lmv
  rw [if_pos h]
  refine List.filter_congr fun x hx => ?_
  have hr := (VNm_iff.1 h.2).2.1 x hx
  have hc := h.1
  rw [LNO_some ⟨⟨by omega, by omega⟩, hr⟩, LNO_some ⟨⟨by omega, by omega⟩, hr⟩, show ((c : Int) + 1).toNat = c + 1 by omega, Int.toNat_natCast]
  exact decide_eq_decide.2 (by omega)
theorem lmv_len (c : Nat) (l : List Int) : (lmv c l).length ≤ l.length := List.length_filter_le _ _
end Go.Proofs.YtoaiaindcmihjaaGreatDoor
/-
  'append(a, b...)' of two slices of numbers, in any region.
-/
namespace Go.Proofs.YtoaiaindcmihjaaGreatDoor
open Go.RowKit

theorem run_append_none (w : World) (ty : TypeId) (g n cap c : Nat) (ax : Option Addr) (h : n ≤ cap) :
    (Builtin.append_ #[23, 23] ty #[.slice (some ⟨g, 0, none⟩) n cap, .slice ax 0 c]).run Tryz.prog w = .ok (.slice (some ⟨g, 0, none⟩) n cap) w := by
  obtain ⟨i0, hi, hz0, hz1, hz2⟩ := info_parts infoInt
  cases ax <;> simp [Builtin.append_, run_underlying Tryz.underlying23, sizeOf, typeInfo, hi, Builtin.lenOf, h, Builtin.firstCells, loadCells, loadCellsFrom, storeCells]
theorem run_append_none2 (w : World) (ty : TypeId) (v : Value) (base c : Nat) (L : List Int) (ax : Option Addr) (h : Own w base v L) :
    (Builtin.append_ #[23, 23] ty #[v, .slice ax 0 c]).run Tryz.prog w = .ok v w := by
  obtain ⟨i0, hi, hz0, hz1, hz2⟩ := info_parts infoInt
  rcases h.2 with ⟨rfl, _⟩ | ⟨g, cap, cur, rfl, _, _, hnc, _⟩
  · cases ax <;> simp [Builtin.append_, run_underlying Tryz.underlying23, sizeOf, typeInfo, hi, Builtin.lenOf, Builtin.firstCells, loadCells, loadCellsFrom]
  · exact run_append_none w ty g L.length cap c ax hnc
theorem step_all {wr : World} {ops : Array Oper} {o : Oper} {a : Act} {K : Act → World → Prop} {Q : Exit → Act → World → Prop} {E : Prop} (hgd : o.guard = none) (s x : Operand)
    (ho : o.op = .call { callee := .builtin .append, args := #[s, x], argTypes := #[23, 23] })
    (base : Nat) (v : Value) (L : List Int) (hs : a.eval s = v) (hown : Own wr base v L) (hb : base ≤ wr.heap.size)
    (ax : Option Addr) (l : List Int) (n cap : Nat) (hn : l.length = n) (hx : a.eval x = .slice ax n cap) (hr : Reads wr ax l) (hl : n < 2000000) (hL : L.length < 2000000)
    (h : ∀ v' w', Own w' base v' (L ++ l) → wr.grownBy w' v.ownBlock → K (a.put o.dst v') w') :
    if Region.wanted o (yielded ops a.tmps) = true then Oper.wp Tryz.prog o a wr K Q else E := by
  have hw : Region.wanted o (yielded ops a.tmps) = true := by simp [Region.wanted, hgd]
  rw [if_pos hw]
  by_cases h0 : n = 0
  · subst h0
    have hl0 : l = [] := List.eq_nil_of_length_eq_zero hn
    subst hl0
    unfold Oper.wp execOp
    simp only [ho, resolve, invoke, builtin, Sem.run_bind, Sem.run_pure, Result.andThen_ok, List.map_toArray, List.map_cons, List.map_nil, hs, hx, run_append_none2 _ _ _ _ _ _ _ hown]
    exact h v wr (by rw [List.append_nil]; exact hown) ⟨rfl, rfl, rfl, Nat.le_refl _, fun _ _ _ => rfl⟩
  · obtain ⟨i0, hi, hz0, hz1, hz2⟩ := info_parts infoInt
    subst hn
    rcases hr with rfl | ⟨b, off, rfl, hb2, hc⟩
    · simp at h0
    refine wp_append_own wr s x 23 ho base 3 i0 (.int .i64 0) 1 8 Tryz.underlying23 hi hz0 hz1 hz2 rfl (by decide) v L.length _ hs hown ⟨b, off, none⟩ l.length cap (l.map (Value.int .i64)) hx (by simp) ?c1 (ints_oneCell _ _) ?c3 ?c4 hb fun v' w' h1 h2 _ => h v' w' ?_ h2
    case c1 =>
      intro j u hu
      have hj : j < l.length := by simpa using (List.getElem?_eq_some_iff.1 hu).1
      rw [getD_map hj] at hu
      obtain rfl := Option.some.inj hu
      rw [Addr.add_lit]
      exact hc j hj
    case c3 => unfold maxLen; omega
    case c4 => omega
    · unfold Own
      rw [List.length_append, List.map_append]
      exact h1
theorem Reads.drop' {w : World} {b off : Nat} {l : List Int} (h : Reads w (some ⟨b, off, none⟩) l) (k : Nat) : Reads w (some ⟨b, off + k, none⟩) (l.drop k) := by
  rcases h with rfl | ⟨b', off', e, hb, hc⟩
  · exact .inl (by simp)
  · cases e
    refine .inr ⟨b, off + k, rfl, hb, fun i hi => ?_⟩
    rw [List.length_drop] at hi
    have := hc (k + i) (by omega)
    rw [← Nat.add_assoc] at this
    rw [this]
    simp [List.getD]

theorem push_allM {wr : World} {ops : Array Oper} {rest : List Oper} {o : Oper} {a : Act} {Q : Exit → Act → World → Prop} (hgd : o.guard = none) (s x : Operand)
    (ho : o.op = .call { callee := .builtin .append, args := #[s, x], argTypes := #[23, 23] })
    (base : Nat) (v : Value) (L : List Int) (hs : a.eval s = v) (hown : Own wr base v L) (hb : base ≤ wr.heap.size)
    (ax : Option Addr) (l : List Int) (n cap : Nat) (hn : l.length = n) (hx : a.eval x = .slice ax n cap) (hr : Reads wr ax l) (h0 : n ≠ 0) (hl : n < 2000000) (hL : L.length < 2000000)
    (h : ∀ v' w', Own w' base v' (L ++ l) → wr.grownBy w' v.ownBlock → wpList Tryz.prog ops Q rest (a.put o.dst v') w') :
    wpList Tryz.prog ops Q (o :: rest) a wr := by
  obtain ⟨i0, hi, hz0, hz1, hz2⟩ := info_parts infoInt
  subst hn
  rcases hr with rfl | ⟨b, off, rfl, hb2, hc⟩
  · simp at h0
  refine wpList_append_own _ hgd s x 23 ho base 3 i0 (.int .i64 0) 1 8 Tryz.underlying23 hi hz0 hz1 hz2 rfl (by decide) _ L.length _ hs hown ⟨b, off, none⟩ l.length cap (l.map (Value.int .i64)) hx (by simp) ?c1 (ints_oneCell _ _) ?c3 ?c4 hb fun v' w' h1 h2 _ => h v' w' ?_ h2
  case c1 =>
    intro j u hu
    have hj : j < l.length := by simpa using (List.getElem?_eq_some_iff.1 hu).1
    rw [getD_map hj] at hu
    obtain rfl := Option.some.inj hu
    rw [Addr.add_lit]
    exact hc j hj
  case c3 => unfold maxLen; omega
  case c4 => omega
  · unfold Own
    rw [List.length_append, List.map_append]
    exact h1

theorem push_allN {wr : World} {ops : Array Oper} {rest : List Oper} {o : Oper} {a : Act} {Q : Exit → Act → World → Prop} (hgd : o.guard = none) (s x : Operand)
    (ho : o.op = .call { callee := .builtin .append, args := #[s, x], argTypes := #[23, 23] })
    (base : Nat) (v : Value) (L : List Int) (hs : a.eval s = v) (hown : Own wr base v L) (hb : base ≤ wr.heap.size)
    (ax : Option Addr) (l : List Int) (n cap : Nat) (hn : l.length = n) (hx : a.eval x = .slice ax n cap) (hr : Reads wr ax l) (hl : n < 2000000) (hL : L.length < 2000000)
    (h : ∀ v' w', Own w' base v' (L ++ l) → wr.grownBy w' v.ownBlock → wpList Tryz.prog ops Q rest (a.put o.dst v') w') :
    wpList Tryz.prog ops Q (o :: rest) a wr := by
  by_cases h0 : n = 0
  · subst h0
    have hl0 : l = [] := List.eq_nil_of_length_eq_zero hn
    subst hl0
    refine wpList_plain hgd fun _ hK => ?_
    unfold Oper.wp execOp
    simp only [ho, resolve, invoke, builtin, Sem.run_bind, Sem.run_pure, Result.andThen_ok, List.map_toArray, List.map_cons, List.map_nil, hs, hx, run_append_none2 _ _ _ _ _ _ _ hown]
    exact hK _ _ (h v wr (by rw [List.append_nil]; exact hown) ⟨rfl, rfl, rfl, Nat.le_refl _, fun _ _ _ => rfl⟩)
  · exact push_allM hgd s x ho base v L hs hown hb ax l n cap hn hx hr h0 hl hL h
/-- What is held of the call's own reads as its list. -/
theorem Own.facts {w : World} {base n cap : Nat} {a : Option Addr} {l : List Int} (h : Own w base (.slice a n cap) l) : l.length = n ∧ n ≤ cap ∧ cap ≤ maxLen ∧ Reads w a l := by
  obtain ⟨a', c', e, h1, h2, h3, _⟩ := h.form
  injection e with e1 e2 e3
  subst e1; subst e3
  exact ⟨e2.symm, by omega, h3, h1⟩
theorem Own.lit (w : World) (base : Nat) (hb : base ≤ w.heap.size) (x : Int) : Own (w.alloc (.cells #[.int .i64 x] 3)) base (.slice (some ⟨w.heap.size, 0, none⟩) 1 1) [x] :=
  World.ownsRow_lit w #[.int .i64 x] 1 hb (by unfold maxLen; omega) rfl
theorem grownBy_belowS {a b c : World} {row : Option Nat} (h : a.grownBy b row) (k : Below b.heap.size b c) : a.grownBy c row :=
  ⟨k.os.trans h.os, k.tape.trans h.tape, k.output.trans h.output, Nat.le_trans h.size k.size, fun i hi hne => (k.block i (Nat.lt_of_lt_of_le hi h.size)).trans (h.block i hi hne)⟩
end Go.Proofs.YtoaiaindcmihjaaGreatDoor
