/-
  laws.FnValidHomes: the walk.
-/
import Derived.Test.YtninnjkjodhpaaaW1
import Derived.Test.YtninnjkjodhpaaaD2
namespace Go.Proofs.Ytninnjkjodhpaaa
open Go.RowKit

theorem VH_take {m : Int} {l : List Int} (h : VH m l = true) (k : Nat) : VH m (l.take k) = true := by
  rw [VH_iff] at h ⊢
  obtain ⟨h1, h2, h3, h4⟩ := h
  exact ⟨h1, h2, by simp; omega, fun x hx => h4 x (List.mem_of_mem_take hx)⟩

theorem Reads.take {w : World} {a : Option Addr} {l : List Int} (h : Reads w a l) (k : Nat) : Reads w a (l.take k) := by
  rcases h with h | ⟨b, off, h1, h2, h3⟩
  · exact .inl (by simp [h])
  · refine .inr ⟨b, off, h1, h2, fun i hi => ?_⟩
    have hi' : i < l.length := by simp at hi; omega
    have := h3 i hi'
    rw [this]
    have hi2 : i < min k l.length := by simpa using hi
    have : (l.take k)[i]? = l[i]? := by simp [List.getElem?_take, show i < k by omega]
    simp only [List.getD, this]

set_option maxHeartbeats 4000000 in
theorem lawFnValidHomes (a : Option Addr) (n cap : Nat) (w : World) (hB : Bytes w w.heap.size a n) (hn : n ≤ 9223372036854775807) (hc : n ≤ cap) :
    Calls Try.prog 3 #[.slice a n cap] w fun e w' => e = .returned (.bool true) ∧ Below w.heap.size w w' := by
  by_cases hbig : 1048576 < n
  · go_enter Try.func3, Try.ntmps3
    go_wp2
    go_ret
    exact ⟨rfl, Below.refl _ _⟩
  go_enter Try.func3, Try.ntmps3
  go_wp2_with fail
  refine (drawValidHomes_any a n cap w hB hn hc).mono ?_
  rintro e w1 ⟨m, v, l, rfl, hm, ho, hl, hs, hv, hb⟩
  obtain ⟨av, cv, rfl, hr, hlc, hcm, hblk⟩ := ho.form
  have hm64 : In64 m := by unfold In64; omega
  clear hblk hcm hs
  go_wp2_with fail
  refine (implValidHomes_any m _ l _ _ hr).mono ?_
  rintro e w2 ⟨rfl, rfl⟩
  go_wp2_with fail
  refine (specValidHomes_any m _ l _ _ hr hm64 (by omega)).mono ?_
  rintro e w2 ⟨rfl, rfl⟩
  by_cases hV : VH m l = true
  · have eV := hV
    have eb : (VH m l != VH m l) = false := by simp
    rw [hV] at eb
    by_cases h0 : l.length = 0
    · go_wp2
      go_ret
      exact ⟨rfl, hb⟩
    · have hlt : (l.take (l.length - 1)).length = l.length - 1 := by simp
      have hE := VH_take hV (l.length - 1)
      go_wp2_with fail
      have hcall := implValidHomes_any m _ (l.take (l.length - 1)) cv _ (hr.take (l.length - 1))
      rw [hlt] at hcall
      refine hcall.mono ?_
      rintro e w2 ⟨rfl, rfl⟩
      rw [hE]
      clear hcall
      go_wp2
      go_ret
      exact ⟨rfl, hb⟩
  · have eV : VH m l = false := by simpa using hV
    have eb : (VH m l != VH m l) = false := by simp
    rw [eV] at eb
    have ec : (VH m l == VH m l) = true := by simp
    go_wp2_with fail
    refine (specValidHomes_any m _ l _ _ hr hm64 (by omega)).mono ?_
    rintro e w2 ⟨rfl, rfl⟩
    go_wp2
    go_ret
    exact ⟨rfl, hb⟩

end Go.Proofs.Ytninnjkjodhpaaa
