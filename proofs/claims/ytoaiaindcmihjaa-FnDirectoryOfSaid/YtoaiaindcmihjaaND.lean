/-
  Directories: what stands in them.
-/
import Derived.Test.YtoaiaindcmihjaaN3
namespace Go.Proofs.Ytoaiaindcmihjaa

/-- The greatest depth. -/
def dpt (bs : List Bk) : Nat := bs.foldl (fun a b => max a b.1) 0
theorem dpt_snoc (bs : List Bk) (b : Bk) : dpt (bs ++ [b]) = max (dpt bs) b.1 := by simp [dpt]
theorem foldl_max (bs : List Bk) : ∀ a, a ≤ bs.foldl (fun a b => max a b.1) a ∧ (∀ b ∈ bs, b.1 ≤ bs.foldl (fun a b => max a b.1) a) ∧ ∀ c, a ≤ c → (∀ b ∈ bs, b.1 ≤ c) → bs.foldl (fun a b => max a b.1) a ≤ c := by
  induction bs with
  | nil => intro a; simp
  | cons x bs ih =>
    intro a
    obtain ⟨h1, h2, h3⟩ := ih (max a x.1)
    rw [List.foldl_cons]
    refine ⟨by omega, fun b hb => ?_, fun c hc h => h3 c (by have := h x (by simp); omega) (fun b hb => h b (by simp [hb]))⟩
    rcases List.mem_cons.1 hb with rfl | hb
    · omega
    · exact h2 b hb
theorem dpt_ge {bs : List Bk} {b : Bk} (h : b ∈ bs) : b.1 ≤ dpt bs := (foldl_max bs 0).2.1 b h
theorem dpt_le {bs : List Bk} {c : Nat} (h : ∀ b ∈ bs, b.1 ≤ c) : dpt bs ≤ c := (foldl_max bs 0).2.2 c (by omega) h
/-- The buckets that have the end of a number, among the first k. -/
def drk (bs : List Bk) (x k : Nat) : List Int := ((List.range k).filter (fun i => hit x (bs.getD i (0, 0, [])))).map (fun i : Nat => (i : Int))
theorem drk_succ (bs : List Bk) (x k : Nat) : drk bs x (k + 1) = drk bs x k ++ if hit x (bs.getD k (0, 0, [])) = true then [(k : Int)] else [] := by
  unfold drk
  rw [List.range_succ, List.filter_append, List.map_append]
  congr 1
  by_cases h : hit x (bs.getD k (0, 0, [])) = true
  · rw [if_pos h, List.filter_cons_of_pos (p := fun i => hit x (bs.getD i (0, 0, []))) h]; rfl
  · rw [if_neg h, List.filter_cons_of_neg (p := fun i => hit x (bs.getD i (0, 0, []))) h]; rfl
theorem drk_len (bs : List Bk) (x : Nat) : ∀ k, k ≤ bs.length → (drk bs x k).length = (bs.take k).countP (hit x) := by
  intro k
  induction k with
  | zero => intro _; simp [drk]
  | succ k ih =>
    intro hk
    rw [drk_succ, List.length_append, ih (by omega), List.take_succ_eq_append_getElem (by omega), List.countP_append]
    congr 1
    have e : bs.getD k (0, 0, []) = bs[k] := by simp [List.getD, show k < bs.length by omega]
    rw [e]
    by_cases h : hit x bs[k] = true
    · rw [if_pos h]; simp [h]
    · rw [if_neg h]; simp [h]
theorem drk_mem {bs : List Bk} {x k : Nat} {i : Int} (h : i ∈ drk bs x k) : ∃ j : Nat, i = j ∧ j < k ∧ hit x (bs.getD j (0, 0, [])) = true := by
  unfold drk at h
  obtain ⟨j, h1, rfl⟩ := List.mem_map.1 h
  obtain ⟨h2, h3⟩ := List.mem_filter.1 h1
  exact ⟨j, rfl, List.mem_range.1 h2, h3⟩
/-- The buckets of the first n numbers. -/
def drs (bs : List Bk) (n : Nat) : List Int := (List.range n).flatMap fun x => drk bs x bs.length
theorem drs_succ (bs : List Bk) (n : Nat) : drs bs (n + 1) = drs bs n ++ drk bs n bs.length := by simp [drs, List.range_succ]
/-- The buckets of names, as DirectoryOf has them. -/
def DRd (l : List Int) (m : Int) : Int := if VNm l = true ∧ 1 ≤ m ∧ m ≤ 4 then (dpt (spl l m.toNat 6 0 0) : Int) else -1
def DRl (l : List Int) (m : Int) : List Int := if VNm l = true ∧ 1 ≤ m ∧ m ≤ 4 then drs (spl l m.toNat 6 0 0) (2 ^ dpt (spl l m.toNat 6 0 0)) else []
theorem spl_dpt {l : List Int} {m : Nat} (hv : VNm l = true) (hm : 1 ≤ m) : dpt (spl l m 6 0 0) ≤ 6 := by
  obtain ⟨h1, h2, h3⟩ := VNm_iff.1 hv
  exact dpt_le fun b hb => (spl_ok h3 h2 hm 6 0 0 rfl (by simp) b hb).1.2
theorem drk_one (l : List Int) (m x : Nat) : (drk (spl l m 6 0 0) x (spl l m 6 0 0).length).length = 1 := by
  rw [drk_len _ _ _ (Nat.le_refl _), List.take_length, spl_hit l m x 6 0 0 (by simp)]
  simp [Nat.mod_one]
theorem drs_len (l : List Int) (m : Nat) : ∀ n, (drs (spl l m 6 0 0) n).length = n := by
  intro n
  induction n with
  | zero => simp [drs]
  | succ n ih => rw [drs_succ, List.length_append, ih, drk_one]
theorem drs_get (l : List Int) (m : Nat) : ∀ n x, x < n → ∃ j : Nat, (drs (spl l m 6 0 0) n).getD x 0 = j ∧ j < (spl l m 6 0 0).length ∧ hit x ((spl l m 6 0 0).getD j (0, 0, [])) = true := by
  intro n
  induction n with
  | zero => intro x h; omega
  | succ n ih =>
    intro x h
    rw [drs_succ]
    have hl := drs_len l m n
    by_cases e : x < n
    · obtain ⟨j, h1, h2, h3⟩ := ih x e
      refine ⟨j, ?_, h2, h3⟩
      rw [← h1]
      simp [List.getD, List.getElem?_append_left (show x < (drs (spl l m 6 0 0) n).length by omega)]
    · obtain rfl : x = n := by omega
      have h1 := drk_one l m x
      have h0 : 0 < (drk (spl l m 6 0 0) x (spl l m 6 0 0).length).length := by omega
      have hm : (drk (spl l m 6 0 0) x (spl l m 6 0 0).length)[0] ∈ drk (spl l m 6 0 0) x (spl l m 6 0 0).length := List.getElem_mem h0
      obtain ⟨j, h2, h3, h4⟩ := drk_mem hm
      refine ⟨j, ?_, h3, h4⟩
      rw [← h2]
      simp [List.getD, List.getElem?_append_right (show (drs (spl l m 6 0 0) x).length ≤ x by omega), hl, h0]
/-- The law of DirectoryOf: the bucket of a name's rest has it. -/
theorem DR_law {l : List Int} {m : Nat} (hv : VNm l = true) (hm : 1 ≤ m) {x : Int} (hx : x ∈ l) :
    ∃ j : Nat, (drs (spl l m 6 0 0) (2 ^ dpt (spl l m 6 0 0))).getD (x.toNat % 2 ^ dpt (spl l m 6 0 0)) 0 = j ∧ j < (spl l m 6 0 0).length ∧ x ∈ ((spl l m 6 0 0).getD j (0, 0, [])).2.2 := by
  obtain ⟨h1, h2, h3⟩ := VNm_iff.1 hv
  obtain ⟨j, g1, g2, g3⟩ := drs_get l m (2 ^ dpt (spl l m 6 0 0)) (x.toNat % 2 ^ dpt (spl l m 6 0 0)) (Nat.mod_lt _ (Nat.two_pow_pos _))
  refine ⟨j, g1, g2, ?_⟩
  have hb : (spl l m 6 0 0).getD j (0, 0, []) ∈ spl l m 6 0 0 := by
    have e : (spl l m 6 0 0).getD j (0, 0, []) = (spl l m 6 0 0)[j] := by simp [List.getD, g2]
    rw [e]; exact List.getElem_mem g2
  obtain ⟨k1, k2, k3, _⟩ := spl_ok h3 h2 hm 6 0 0 rfl (by simp) _ hb
  rw [k3, srt_mem, tfl_mem]
  refine ⟨hx, ?_⟩
  have hd := dpt_ge hb
  unfold hit at g3
  have g4 := of_decide_eq_true g3
  rw [Nat.mod_mod_of_dvd _ (Nat.pow_dvd_pow 2 hd)] at g4
  exact g4
end Go.Proofs.Ytoaiaindcmihjaa
