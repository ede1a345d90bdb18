/-
  spec.hash, validHash, HashOf, has, validKeys, meetings, MeetingsOf.
-/
import Derived.Test.YtoaiaindcmihjaaGreatDoorW1
import Derived.Test.YtoaiaindcmihjaaGreatDoorLG
import Derived.Test.YtoaiaindcmihjaaGreatDoorC2
import Derived.StillTailTactics
namespace Go.Proofs.YtoaiaindcmihjaaGreatDoor
open Go.RowKit

theorem VF_eq (a b m : Int) : VF a b m = (inR a 1 30 && inR b 0 30 && inR m 1 31) := by
  rw [Bool.eq_iff_iff]; simp only [VF_iff, Bool.and_eq_true, inR_iff]; omega
theorem KR_eq (k : Int) : KR k = inR k 0 30 := by rw [Bool.eq_iff_iff, KR_iff, inR_iff]
theorem SZ_eq (m : Int) : SZ m = inR m 1 31 := by rw [Bool.eq_iff_iff, SZ_iff, inR_iff]

set_option maxHeartbeats 1000000 in
theorem hash_any (a b m k : Int) (w : World) (ha : 0 ≤ a) (ha' : a ≤ 30) (hb : 0 ≤ b) (hb' : b ≤ 30) (hm : 1 ≤ m) (hm' : m ≤ 31) (hk : 0 ≤ k) (hk' : k ≤ 30) :
    Calls Tryz.prog 165 #[.int .i64 a, .int .i64 b, .int .i64 m, .int .i64 k] w fun e w' => e = .returned (.int .i64 (hs a b m k)) ∧ w = w' := by
  have h0 : 0 ≤ a * k := Int.mul_nonneg ha hk
  have h1 : a * k ≤ 30 * 30 := Int.mul_le_mul ha' hk' hk (by omega)
  have hne : (m == 0) = false := by simp; omega
  go_enter Tryz.func165, Tryz.ntmps165
  go_wp2
  go_ret
  exact ⟨rfl, rfl⟩

theorem inL_yes {l : List Int} {x : Int} (h : x ∈ l) : inL l x = true := by simp [inL, h]
theorem inL_no {l : List Int} {x : Int} (h : x ∉ l) : inL l x = false := by simp [inL, h]

set_option maxHeartbeats 1000000 in
theorem has_any (a : Option Addr) (l : List Int) (len cap : Nat) (n : Int) (w : World) (hr : Reads w a l) (hn : l.length = len) (hl : len ≤ 9223372036854775806) :
    Calls Tryz.prog 51 #[.slice a len cap, .int .i64 n] w fun e w' => e = .returned (.bool (inL l n)) ∧ w = w' := by
  subst hn
  go_enter Tryz.func51, Tryz.ntmps51
  go_wp2
  go_loop [5] (fun i => ∃ k : Nat, k ≤ l.length ∧ i = .int .i64 k ∧ Hid (∀ j, j < k → l.getD j 0 ≠ n)) (fun i => l.length - (intOf i).toNat)
  case atStart => exact ⟨0, Nat.zero_le _, rfl, fun j hj => by omega⟩
  case round =>
    obtain ⟨k, hk, rfl, hf⟩ := hrel
    by_cases hlt : k < l.length
    · obtain ⟨b, off, y, rfl, hb, hcell, hy⟩ := hr.get hlt
      by_cases g1 : y = n
      · have hd : (y == n) = true := by simp [g1]
        have hin : inL l n = true := by
          have e : l.getD k 0 = l[k] := by simp [List.getD, hlt]
          have := hy.out
          rw [e, g1] at this
          exact inL_yes (this ▸ List.getElem_mem hlt)
        have HIN := Lib.hid hin
        clear hin g1
        go_wp2
        go_ret
        exact ⟨ret_bool HIN.out.symm, rfl⟩
      · have hd : (y == n) = false := by simpa using g1
        have HG := Lib.hid g1
        clear g1
        go_wp2
        go_round
        case rel =>
          refine ⟨k + 1, by omega, by go_num, ?_⟩
          intro j hj
          by_cases e : j = k
          · subst e; rw [hy.out]; exact HG.out
          · exact hf.out j (by omega)
        case measure => simp [intOf]; omega
    · obtain rfl : k = l.length := by omega
      have hin : inL l n = false := by
        apply inL_no
        intro h
        obtain ⟨i, hi, e⟩ := List.getElem_of_mem h
        exact hf.out i hi (by simp [List.getD, hi, e])
      have HIN := Lib.hid hin
      clear hin
      go_wp2
      go_ret
      exact ⟨ret_bool HIN.out.symm, rfl⟩

/-- The first k keys are different ones. -/
def VKp (l : List Int) (k : Nat) : Prop := ∀ i, i < k → (0 ≤ l.getD i 0 ∧ l.getD i 0 ≤ 30) ∧ l.getD i 0 ∉ l.take i
theorem VKp.succ {l : List Int} {k : Nat} (h : VKp l k) (h1 : 0 ≤ l.getD k 0 ∧ l.getD k 0 ≤ 30) (h2 : l.getD k 0 ∉ l.take k) : VKp l (k + 1) := by
  intro i hi
  by_cases e : i = k
  · subst e; exact ⟨h1, h2⟩
  · exact h i (by omega)
theorem take_snoc {l : List Int} {k : Nat} (h : k < l.length) : l.take (k + 1) = l.take k ++ [l.getD k 0] := by
  rw [List.take_succ_eq_append_getElem h]; simp [List.getD, h]
theorem VKp.nodup {l : List Int} : ∀ k, k ≤ l.length → VKp l k → (l.take k).Nodup ∧ ∀ x ∈ l.take k, 0 ≤ x ∧ x ≤ 30 := by
  intro k
  induction k with
  | zero => intro _ _; simp
  | succ k ih =>
    intro hk h
    obtain ⟨i1, i2⟩ := ih (by omega) (fun i hi => h i (by omega))
    obtain ⟨h1, h2⟩ := h k (by omega)
    rw [take_snoc (by omega)]
    refine ⟨?_, ?_⟩
    · rw [List.nodup_append]
      refine ⟨i1, by simp, fun x hx y hy => ?_⟩
      simp only [List.mem_singleton] at hy
      rintro rfl
      exact h2 (hy ▸ hx)
    · intro x hx
      rcases List.mem_append.1 hx with hx | hx
      · exact i2 x hx
      · simp only [List.mem_singleton] at hx; subst hx; exact h1
theorem VK_end {l : List Int} (h : VKp l l.length) : VK l = decide (l.length ≤ 8) := by
  obtain ⟨h1, h2⟩ := VKp.nodup l.length (Nat.le_refl _) h
  rw [List.take_length] at h1 h2
  rw [Bool.eq_iff_iff, VK_iff, decide_eq_true_eq]
  exact ⟨fun h => h.1, fun h => ⟨h, h2, h1⟩⟩
theorem VK_bad1 {l : List Int} {k : Nat} (hk : k < l.length) (h : ¬ (0 ≤ l.getD k 0 ∧ l.getD k 0 ≤ 30)) : VK l = false := by
  rw [← Bool.not_eq_true, VK_iff]
  rintro ⟨_, h2, _⟩
  exact h (h2 _ (getD_mem hk))
theorem VK_bad2 {l : List Int} {k : Nat} (hk : k < l.length) (h : l.getD k 0 ∈ l.take k) : VK l = false := by
  rw [← Bool.not_eq_true, VK_iff]
  rintro ⟨_, _, h3⟩
  have h4 : (l.take (k + 1)).Nodup := h3.sublist (List.take_sublist _ _)
  rw [take_snoc hk, List.nodup_append] at h4
  exact h4.2.2 _ h _ (by simp) rfl

theorem Reads.take' {w : World} {a : Option Addr} {l : List Int} (h : Reads w a l) (k : Nat) : Reads w a (l.take k) := by
  rcases h with rfl | ⟨b, off, ha, hb, hc⟩
  · exact .inl (by simp)
  · refine .inr ⟨b, off, ha, hb, fun i hi => ?_⟩
    rw [List.length_take] at hi
    rw [hc i (by omega)]
    simp [List.getD, List.getElem?_take, show i < k by omega]
theorem quiet_lf {P : Program} {f : FuncId} {args : Array Value} {w : World} {a n : Nat} {v : Value}
    (h : Calls P f args (w.drewN (a + n)) fun e w' => e = .returned v ∧ w.drewN (a + n) = w') :
    Calls P f args (w.drewN (a + n)) fun e w'' => e = .returned v ∧ ∃ m, w'' = w.drewN (a + m) :=
  h.mono fun _ _ ⟨he, hm⟩ => ⟨he, n, hm.symm⟩

set_option maxHeartbeats 4000000 in
theorem specvalidKeys_any (a : Option Addr) (l : List Int) (cap : Nat) (w : World) (hr : Reads w a l) (hl : l.length ≤ 1048586) (hcap : l.length ≤ cap) :
    Calls Tryz.prog 82 #[.slice a l.length cap] w fun e w' => e = .returned (.bool (VK l)) ∧ ∃ n, w' = w.drewN n := by
  go_enter Tryz.func82, Tryz.ntmps82
  go_wp2
  go_loopw [3] (fun i wr => ∃ k n : Nat, k ≤ l.length ∧ i = .int .i64 k ∧ Hid (VKp l k) ∧ wr = w.drewN n) (fun i _ => l.length - (intOf i).toNat)
  case atStart => exact ⟨0, 0, Nat.zero_le _, rfl, fun j hj => by omega, rfl⟩
  case round =>
    obtain ⟨k, n, hk, rfl, hf, rfl⟩ := hrel
    by_cases hlt : k < l.length
    · obtain ⟨b, off, y, rfl, hb, hcell, hy⟩ := hr.get hlt
      by_cases g1 : inR y 0 30 = true
      · have c1 : ∀ wx, Calls Tryz.prog 58 #[.int .i64 y, .int .i64 0, .int .i64 30] wx fun e w' => e = .returned (.bool true) ∧ wx = w' := fun wx => by
          have := inRange_any y 0 30 wx; rwa [g1] at this
        have D1 := Lib.hid (fun n => c1 (w.drewN n))
        have ht := hr.take' k
        have hk1 : (k : Int) ≤ (cap : Int) := by omega
        have hk2 : (k : Int) < (l.length : Int) := by omega
        have hk3 : (0 : Int) ≤ (k : Int) := by omega
        by_cases g2 : inL (l.take k) y = true
        · have c2 : ∀ wx, Reads wx (some ⟨b, off, none⟩) (l.take k) → Calls Tryz.prog 51 #[.slice (some ⟨b, off, none⟩) k cap, .int .i64 y] wx fun e w' => e = .returned (.bool true) ∧ wx = w' := fun wx h => by
            have := has_any (some ⟨b, off, none⟩) (l.take k) k cap y wx h (by rw [List.length_take]; omega) (by omega)
            rwa [g2] at this
          have D2 := Lib.hid (fun n => c2 (w.drewN n) ht)
          have HB := Lib.hid (VK_bad2 hlt (by rw [hy.out]; simpa [inL] using g2))
          clear c1 c2 g1 g2
          go_wp2_with fail
          go_quiet ((with_reducible first | (go_at_call 58; exact quiet_lf (D1.out _)) | (go_at_call 51; exact quiet_lf (D2.out _))))
          all_goals
            go_wp2
            go_ret
            exact ⟨ret_bool HB.out.symm, _, World.drewN_drewN _ _ _⟩
        · have g2' : inL (l.take k) y = false := by simpa using g2
          have c2 : ∀ wx, Reads wx (some ⟨b, off, none⟩) (l.take k) → Calls Tryz.prog 51 #[.slice (some ⟨b, off, none⟩) k cap, .int .i64 y] wx fun e w' => e = .returned (.bool false) ∧ wx = w' := fun wx h => by
            have := has_any (some ⟨b, off, none⟩) (l.take k) k cap y wx h (by rw [List.length_take]; omega) (by omega)
            rwa [g2'] at this
          have D2 := Lib.hid (fun n => c2 (w.drewN n) ht)
          have HB := Lib.hid (hf.out.succ (by rw [hy.out]; exact inR_iff.1 g1) (by rw [hy.out]; simpa [inL] using g2))
          clear c1 c2 g1 g2 g2'
          go_wp2_with fail
          go_quiet ((with_reducible first | (go_at_call 58; exact quiet_lf (D1.out _)) | (go_at_call 51; exact quiet_lf (D2.out _))))
          all_goals
            go_wp2
            go_roundw
            case rel => exact ⟨k + 1, _, by omega, by go_num, HB, rfl⟩
            case measure => simp [intOf]; omega
      · have g1' : inR y 0 30 = false := by simpa using g1
        have c1 : ∀ wx, Calls Tryz.prog 58 #[.int .i64 y, .int .i64 0, .int .i64 30] wx fun e w' => e = .returned (.bool false) ∧ wx = w' := fun wx => by
          have := inRange_any y 0 30 wx; rwa [g1'] at this
        have D1 := Lib.hid (fun n => c1 (w.drewN n))
        have HB := Lib.hid (VK_bad1 hlt (by rw [hy.out]; exact fun h => g1 (inR_iff.2 h)))
        have hk1 : (k : Int) ≤ (cap : Int) := by omega
        have hk2 : (k : Int) < (l.length : Int) := by omega
        have hk3 : (0 : Int) ≤ (k : Int) := by omega
        clear c1 g1 g1'
        go_wp2_with fail
        go_quiet ((with_reducible first | (go_at_call 58; exact quiet_lf (D1.out _))))
        all_goals
          go_wp2
          go_ret
          exact ⟨ret_bool HB.out.symm, _, World.drewN_drewN _ _ _⟩
    · obtain rfl : k = l.length := by omega
      have HB := Lib.hid (VK_end hf.out)
      go_wp2
      go_ret
      exact ⟨ret_bool (by rw [HB.out]; simp; omega), _, rfl⟩

/-- Pairs that meet, while they are counted. -/
def mpart (H : List Int) (i k : Nat) : Nat := pr (H.take i) + (H.take k).count (H.getD i 0)
theorem mpart_zero (H : List Int) (i : Nat) : mpart H i 0 = pr (H.take i) := by simp [mpart]
theorem mpart_full {H : List Int} {i : Nat} (h : i < H.length) : mpart H i i = pr (H.take (i + 1)) := by
  rw [take_snoc h, pr_snoc, mpart]
theorem mpart_succ {H : List Int} {i k : Nat} (h : k < H.length) : mpart H i (k + 1) = mpart H i k + (if H.getD i 0 = H.getD k 0 then 1 else 0) := by
  unfold mpart
  rw [take_snoc h, List.count_append]
  by_cases e : H.getD i 0 = H.getD k 0
  · rw [if_pos e, e]; simp; omega
  · rw [if_neg e]
    have e' : ¬ H.getD k 0 = H.getD i 0 := fun q => e q.symm
    simp only [List.getD] at e' ⊢
    simp [List.count_cons, e']
theorem map_getD {l : List Int} {f : Int → Int} {i : Nat} (h : i < l.length) : (l.map f).getD i 0 = f (l.getD i 0) := by simp [List.getD, h]
theorem pr_le100 {L : List Int} (h : L.length ≤ 8) : pr L ≤ 100 := by
  have h1 := pr_le L
  have h2 : L.length * (L.length - 1) ≤ 8 * 8 := Nat.mul_le_mul h (by omega)
  omega
theorem mpart_le {H : List Int} {i k : Nat} (h : H.length ≤ 8) : mpart H i k ≤ 200 := by
  have h1 := pr_le100 (L := H.take i) (by rw [List.length_take]; omega)
  have h2 : (H.take k).count (H.getD i 0) ≤ (H.take k).length := List.count_le_length
  rw [List.length_take] at h2
  unfold mpart; omega

set_option maxHeartbeats 4000000 in
theorem meetings_any (a b m : Int) (al : Option Addr) (l : List Int) (cap : Nat) (w : World) (hr : Reads w al l) (ha : 1 ≤ a) (ha' : a ≤ 30) (hb : 0 ≤ b) (hb' : b ≤ 30) (hm : 1 ≤ m) (hm' : m ≤ 31) (hv : VK l = true) :
    Calls Tryz.prog 135 #[.int .i64 a, .int .i64 b, .int .i64 m, .slice al l.length cap] w fun e w' => e = .returned (.int .i64 (mt a b m l : Nat)) ∧ ∃ n, w' = w.drewN n := by
  obtain ⟨hl, hfit, _⟩ := VK_iff.1 hv
  obtain ⟨H, hH⟩ : ∃ H, H = l.map (hs a b m) := ⟨_, rfl⟩
  have hHl : H.length = l.length := by rw [hH, List.length_map]
  have hHg : ∀ i, i < l.length → H.getD i 0 = hs a b m (l.getD i 0) := fun i hi => by rw [hH]; exact map_getD hi
  have hmt : mt a b m l = pr H := by rw [hH]; rfl
  have HG := Lib.hid hHg
  have HM := Lib.hid hmt
  have HL := Lib.hid hHl
  have HF := Lib.hid hfit
  clear hmt hH hHl hHg hfit hv
  go_enter Tryz.func135, Tryz.ntmps135
  go_wp2
  go_loopw [9, 10] (fun c i wr => ∃ k n : Nat, k ≤ l.length ∧ i = .int .i64 k ∧ c = .int .i64 (pr (H.take k) : Nat) ∧ wr = w.drewN n) (fun _ i _ => l.length - (intOf i).toNat)
  case atStart => exact ⟨0, 0, Nat.zero_le _, rfl, by simp [pr], rfl⟩
  case round =>
    obtain ⟨i, n, hi, rfl, rfl, rfl⟩ := hrel
    by_cases hlt : i < l.length
    · obtain ⟨bb, off, y, rfl, hbb, hcell, hy⟩ := hr.get hlt
      have hyf := HF.out y (by rw [← hy.out]; exact getD_mem hlt)
      go_wp2
      go_loopw [9, 11] (fun c j wr => ∃ k n : Nat, k ≤ i ∧ j = .int .i64 k ∧ c = .int .i64 (mpart H i k : Nat) ∧ wr = w.drewN n) (fun _ j _ => i - (intOf j).toNat)
      case atStart => exact ⟨0, n, Nat.zero_le _, rfl, by rw [mpart_zero], rfl⟩
      case round =>
        obtain ⟨k, n, hk, rfl, rfl, rfl⟩ := hrel
        have hml := mpart_le (H := H) (i := i) (k := k) (by rw [HL.out]; omega)
        by_cases hlt2 : k < i
        · obtain ⟨z, hcell2, hz⟩ := hr.at_ (k := k) (by omega)
          have hzf := HF.out z (by rw [← hz.out]; exact getD_mem (by omega))
          have hk4 : (k : Int) < (l.length : Int) := by omega
          have hk5 : (0 : Int) ≤ (k : Int) := by omega
          obtain ⟨X, hX⟩ : ∃ X, X = hs a b m y := ⟨_, rfl⟩
          obtain ⟨Z, hZ⟩ : ∃ Z, Z = hs a b m z := ⟨_, rfl⟩
          have D1 := Lib.hid (fun n => (by have := hash_any a b m y (w.drewN n) (by omega) ha' hb hb' hm hm' hyf.1 hyf.2; rwa [← hX] at this : Calls Tryz.prog 165 #[.int .i64 a, .int .i64 b, .int .i64 m, .int .i64 y] (w.drewN n) fun e w' => e = .returned (.int .i64 X) ∧ w.drewN n = w'))
          have D2 := Lib.hid (fun n => (by have := hash_any a b m z (w.drewN n) (by omega) ha' hb hb' hm hm' hzf.1 hzf.2; rwa [← hZ] at this : Calls Tryz.prog 165 #[.int .i64 a, .int .i64 b, .int .i64 m, .int .i64 z] (w.drewN n) fun e w' => e = .returned (.int .i64 Z) ∧ w.drewN n = w'))
          have HS := Lib.hid (mpart_succ (H := H) (i := i) (k := k) (by rw [HL.out]; omega))
          have eX : Hid (H.getD i 0 = X) := by show H.getD i 0 = X; rw [HG.out i hlt, hy.out, hX]
          have eZ : Hid (H.getD k 0 = Z) := by show H.getD k 0 = Z; rw [HG.out k (by omega), hz.out, hZ]
          clear hX hZ hyf hzf
          by_cases e : X = Z
          · have hd : (X == Z) = true := by simp [e]
            have E := Lib.hid e
            clear e
            go_wp2_with fail
            go_quiet ((with_reducible first | (go_at_call 165; exact quiet_lf (D1.out _)) | (go_at_call 165; exact quiet_lf (D2.out _))))
            all_goals
              go_wp2
              go_roundw
              case rel => exact ⟨k + 1, _, by omega, by go_num, by rw [HS.out, if_pos (by rw [eX.out, eZ.out, E.out])]; go_num, rfl⟩
              case measure => simp [intOf]; omega
          · have hd : (X == Z) = false := by simp [e]
            have E := Lib.hid e
            clear e
            go_wp2_with fail
            go_quiet ((with_reducible first | (go_at_call 165; exact quiet_lf (D1.out _)) | (go_at_call 165; exact quiet_lf (D2.out _))))
            all_goals
              go_wp2
              go_roundw
              case rel => exact ⟨k + 1, _, by omega, by go_num, by rw [HS.out, if_neg (by rw [eX.out, eZ.out]; exact E.out)]; rfl, rfl⟩
              case measure => simp [intOf]; omega
        · obtain rfl : k = i := by omega
          have HS := Lib.hid (mpart_full (H := H) (i := k) (by rw [HL.out]; omega))
          go_wp2
          go_roundw
          case rel => exact ⟨k + 1, _, by omega, by go_num, by rw [HS.out], rfl⟩
          case measure => simp [intOf]; omega
    · obtain rfl : i = l.length := by omega
      have hE : pr (H.take l.length) = mt a b m l := by rw [HM.out, ← HL.out, List.take_length]
      rw [hE]
      clear hE
      go_wp2
      go_ret
      exact ⟨rfl, _, rfl⟩

theorem below_q {w : World} {n : Nat} : Below w.heap.size w (w.drewN n) := below_drewN (Below.refl _ _) n

end Go.Proofs.YtoaiaindcmihjaaGreatDoor
