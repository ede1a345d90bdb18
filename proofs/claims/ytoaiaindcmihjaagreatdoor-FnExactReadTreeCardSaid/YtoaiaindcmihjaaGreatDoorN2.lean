/-
  Numbers in order: what insertion gives.
-/
namespace Go.Proofs.YtoaiaindcmihjaaGreatDoor

/-- The numbers ascending. -/
def srt (l : List Int) : List Int := l.mergeSort (fun a b => decide (a ≤ b))
theorem srt_perm (l : List Int) : (srt l).Perm l := List.mergeSort_perm _ _
theorem srt_sorted (l : List Int) : (srt l).Pairwise (· ≤ ·) := by
  have := List.pairwise_mergeSort (le := fun a b : Int => decide (a ≤ b)) (fun a b c h1 h2 => by simp at *; omega) (fun a b => by simp; omega) l
  exact this.imp (fun h => of_decide_eq_true h)
/-- There is just one such list. -/
theorem srt_only {l R : List Int} (hp : R.Perm l) (hs : R.Pairwise (· ≤ ·)) : R = srt l :=
  List.Perm.eq_of_pairwise (le := fun a b => a ≤ b) (fun a b _ _ h1 h2 => by omega) hs (srt_sorted l) (hp.trans (srt_perm l).symm)
theorem srt_congr {l l' : List Int} (h : l.Perm l') : srt l = srt l' := srt_only ((srt_perm l).trans h) (srt_sorted l)
theorem srt_id {l : List Int} (h : l.Pairwise (· ≤ ·)) : srt l = l := (srt_only (List.Perm.refl l) h).symm
theorem srt_len (l : List Int) : (srt l).length = l.length := (srt_perm l).length_eq
theorem srt_mem {l : List Int} {x : Int} : x ∈ srt l ↔ x ∈ l := (srt_perm l).mem_iff
theorem srt_nodup {l : List Int} : (srt l).Nodup ↔ l.Nodup := (srt_perm l).nodup_iff
/-- A number put in where it belongs. -/
theorem ins_perm (l : List Int) (k : Nat) (x : Int) : (l.take k ++ [x] ++ l.drop k).Perm (l ++ [x]) := by
  have h : (l.take k ++ [x] ++ l.drop k).Perm (l.take k ++ l.drop k ++ [x]) := by
    rw [List.append_assoc, List.append_assoc]
    exact List.Perm.append_left _ List.perm_append_comm
  rwa [List.take_append_drop] at h
theorem ins_sorted {l : List Int} {k : Nat} {x : Int} (hs : l.Pairwise (· ≤ ·)) (hk : k ≤ l.length) (h1 : ∀ j, j < k → l.getD j 0 ≤ x) (h2 : k < l.length → x ≤ l.getD k 0) : (l.take k ++ [x] ++ l.drop k).Pairwise (· ≤ ·) := by
  have hs' : (l.take k ++ l.drop k).Pairwise (· ≤ ·) := by rwa [List.take_append_drop]
  obtain ⟨p1, p2, p3⟩ := List.pairwise_append.1 hs'
  have m1 : ∀ y ∈ l.take k, y ≤ x := fun y hy => by
    obtain ⟨i, hi, e⟩ := List.getElem_of_mem hy
    have hi2 : i < k := by rw [List.length_take] at hi; omega
    have := h1 i hi2
    rw [List.getElem_take] at e
    simp [List.getD, show i < l.length by omega, e] at this
    exact this
  have m2 : ∀ y ∈ l.drop k, x ≤ y := fun y hy => by
    obtain ⟨i, hi, e⟩ := List.getElem_of_mem hy
    rw [List.length_drop] at hi
    rw [List.getElem_drop] at e
    have hkl : k < l.length := by omega
    have a1 := h2 hkl
    simp [List.getD, hkl] at a1
    rcases Nat.eq_zero_or_pos i with h | h
    · subst h; rw [← e]; simpa using a1
    · have := (List.pairwise_iff_getElem.1 hs) k (k + i) hkl (by omega) (by omega)
      omega
  rw [List.append_assoc, List.pairwise_append]
  refine ⟨p1, ?_, fun a ha b hb => ?_⟩
  · rw [List.singleton_append, List.pairwise_cons]
    exact ⟨m2, p2⟩
  · rw [List.singleton_append, List.mem_cons] at hb
    rcases hb with rfl | hb
    · exact m1 a ha
    · have := m1 a ha; have := m2 b hb; omega
/-- What insertion has put in order so far. -/
def SOf (l : List Int) (k : Nat) (R : List Int) : Prop := R.Perm (l.take k) ∧ R.Pairwise (· ≤ ·)
theorem SOf.zero (l : List Int) : SOf l 0 [] := ⟨by simp, List.Pairwise.nil⟩
theorem SOf.next {l R : List Int} {i k : Nat} (h : SOf l i R) (hi : i < l.length) (hk : k ≤ R.length) (h1 : ∀ j, j < k → R.getD j 0 ≤ l.getD i 0) (h2 : k < R.length → l.getD i 0 ≤ R.getD k 0) : SOf l (i + 1) (R.take k ++ [l.getD i 0] ++ R.drop k) := by
  refine ⟨(ins_perm R k _).trans ?_, ins_sorted h.2 hk h1 h2⟩
  rw [List.take_succ_eq_append_getElem hi]
  have : l.getD i 0 = l[i] := by simp [List.getD, hi]
  rw [this]
  exact h.1.append_right _
theorem SOf.full {l R : List Int} (h : SOf l l.length R) : R = srt l := srt_only (by have := h.1; rwa [List.take_length] at this) h.2
theorem SOf.len {l R : List Int} {i : Nat} (h : SOf l i R) (hi : i ≤ l.length) : R.length = i := by
  rw [h.1.length_eq, List.length_take]; omega
end Go.Proofs.YtoaiaindcmihjaaGreatDoor
