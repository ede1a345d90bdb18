/-
  Names in order: the parts of sorted names.
-/
import Derived.Test.YtoaiaindcmihjaaGreatDoorN3
import Derived.Test.YtoaiaindcmihjaaGreatDoorN4
namespace Go.Proofs.YtoaiaindcmihjaaGreatDoor

theorem tfl_sub {l : List Int} {d e e' : Nat} (he : e < 2 ^ d) (h : e' = e ∨ e' = e + 2 ^ d) : (tfl l d e).filter (fun x => decide (x.toNat % 2 ^ (d + 1) = e')) = tfl l (d + 1) e' := by
  unfold tfl
  rw [List.filter_filter]
  refine List.filter_congr fun x _ => ?_
  have hn := mod_next x.toNat d e he
  by_cases g : x.toNat % 2 ^ (d + 1) = e'
  · rw [decide_eq_true g, decide_eq_true (hn.2 (by rcases h with h | h <;> omega))]; rfl
  · rw [decide_eq_false g]; simp
theorem tfl_srt (l : List Int) (d e : Nat) : tfl (srt l) d e = srt (tfl l d e) :=
  srt_only (tfl_perm (srt_perm l) d e) ((srt_sorted l).filter _)
/-- Of sorted names the parts are sorted. -/
theorem spl_srt_one {l : List Int} {m : Nat} (f : Nat) {d e : Nat} (h : (tfl (srt l) d e).length ≤ m) : spl l m f d e = [(d, e, tfl (srt l) d e)] := by
  rw [tfl_srt, srt_len] at h
  rw [tfl_srt]
  cases f with
  | zero => rw [spl]
  | succ f => rw [spl, if_pos h]
theorem spl_srt_more {l : List Int} {m : Nat} (f : Nat) {d e : Nat} (h : ¬ (tfl (srt l) d e).length ≤ m) : spl l m (f + 1) d e = spl l m f (d + 1) e ++ spl l m f (d + 1) (e + 2 ^ d) := by
  rw [tfl_srt, srt_len] at h
  rw [spl, if_neg h]
theorem tfl_six_srt {l : List Int} (hn : l.Nodup) (hr : ∀ x ∈ l, 0 ≤ x ∧ x ≤ 63) (e : Nat) : (tfl (srt l) 6 e).length ≤ 1 := by
  rw [tfl_srt, srt_len]; exact tfl_six hn hr e
end Go.Proofs.YtoaiaindcmihjaaGreatDoor
