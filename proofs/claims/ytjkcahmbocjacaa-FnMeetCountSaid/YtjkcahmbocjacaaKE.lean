/-
  ordersOf gives what MeetCount asks.
-/
import Derived.Test.YtjkcahmbocjacaaKD
namespace Go.Proofs.Ytjkcahmbocjacaa
open Go.RowKit

theorem lft_sorted (n : Nat) : (lft n []).Pairwise (· ≤ ·) := by
  unfold lft
  refine List.Pairwise.filter _ ?_
  rw [List.pairwise_map]
  exact List.Pairwise.imp (fun h => by omega) (List.pairwise_lt_range (n := n))
theorem ordersGive : OrdersGive := by
  intro b n w hn hT
  refine (ordersOf_any n (lft n []) b w (lft_nil_len n) hn (lft_sorted n) (lft_nodup n []) (fun x hx => by have := (lft_mem.1 hx).1; omega) (hT.congr fun x => ?_)).mono ?_
  · unfold ofl ind
    by_cases h : 0 ≤ x ∧ x < (n : Int)
    · rw [if_pos h, if_pos (lft_mem.2 ⟨h, by simp⟩)]
    · rw [if_neg h, if_neg (fun h2 => h (lft_mem.1 h2).1)]
  · rintro e w' ⟨v, rfl, ho, _, hg⟩
    obtain ⟨a, cap, rfl, _, _, hr⟩ := ho.form
    exact ⟨a, cap, rfl, hr, hg⟩
end Go.Proofs.Ytjkcahmbocjacaa
