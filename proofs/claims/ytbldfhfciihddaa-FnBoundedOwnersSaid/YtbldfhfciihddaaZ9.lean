/-
  slices.SortFunc of few servers: the length in bits, the sort's first steps.
-/
import Derived.Test.YtbldfhfciihddaaZ8
namespace Go.Proofs.Ytbldfhfciihddaa
open Go.RowKit

set_option maxRecDepth 100000 in
set_option maxHeartbeats 2000000 in
theorem len64_any (n : Nat) (h1 : 1 ≤ n) (h6 : n ≤ 6) (w : World) : Calls Try.prog 109 #[.int .u64 (n : Int)] w fun e w' => (∃ L : Int, e = .returned (.int .i64 L)) ∧ w = w' := by
  have : n = 1 ∨ n = 2 ∨ n = 3 ∨ n = 4 ∨ n = 5 ∨ n = 6 := by omega
  rcases this with rfl | rfl | rfl | rfl | rfl | rfl
  all_goals
    go_enter Try.func109, Try.ntmps109
    go_wp2
    go_ret
    exact ⟨⟨_, rfl⟩, rfl⟩
theorem bitsLen_any (n : Nat) (h1 : 1 ≤ n) (h6 : n ≤ 6) (w : World) : Calls Try.prog 98 #[.int .u64 (n : Int)] w fun e w' => (∃ L : Int, e = .returned (.int .i64 L)) ∧ w = w' := by
  have C := Lib.hid (len64_any n h1 h6 w)
  go_enter Try.func98, Try.ntmps98
  go_wp2_with fail
  refine C.out.mono ?_
  rintro e w' ⟨⟨L, rfl⟩, rfl⟩
  go_wp2
  go_ret
  exact ⟨⟨_, rfl⟩, rfl⟩
/-- What the sort leaves. -/
def SrtPost (f : Nat → Int) (n base g cap0 B : Nat) (w : World) (e : Ending) (w' : World) : Prop := e = .returned (.tuple #[]) ∧ ∃ R, SO f n R n ∧ Tab w' base g n cap0 (nts R) ∧ KeptB g w w' ∧ Below B w w'
set_option maxRecDepth 100000 in
set_option maxHeartbeats 2000000 in
theorem pdq_any (f : Nat → Int) (Bk Bp g base B n cap0 : Nat) (L : Int) (w : World) (h6 : n ≤ 6)
    (h : Calls Try.prog 100 #[.slice (some ⟨g, 0, none⟩) n cap0, .int .i64 0, .int .i64 (n : Int), FromF Bk Bp] w (SrtPost f n base g cap0 B w)) :
    Calls Try.prog 97 #[.slice (some ⟨g, 0, none⟩) n cap0, .int .i64 0, .int .i64 (n : Int), .int .i64 L, FromF Bk Bp] w (SrtPost f n base g cap0 B w) := by
  have H := Lib.hid h
  have h12 : (n : Int) ≤ 12 := by omega
  clear h
  go_enter Try.func97, Try.ntmps97
  go_wp2
  go_loopw [1, 2] (fun av bv wr => av = .int .i64 0 ∧ bv = .int .i64 (n : Int) ∧ wr = w) (fun _ _ _ => 0)
  case atStart => exact ⟨rfl, rfl, rfl⟩
  case round =>
    obtain ⟨rfl, rfl, rfl⟩ := hrel
    go_wp2_with fail
    refine H.out.mono ?_
    rintro e w' ⟨rfl, R, h1, h2, h3, h4⟩
    go_wp2
    go_end0
    exact ⟨rfl, R, h1, h2, h3, h4⟩
theorem sortFunc_any (Bk Bp g base B n cap0 : Nat) (a : Option Addr) (l : List Int) (capl : Nat) (k : Int) (w : World) (hl : l.length = n) (hr : Reads w a l) (hag : ∀ b off, a = some ⟨b, off, none⟩ → b ≠ g)
    (hk : w.cell? ⟨Bk, 0, none⟩ = some (.int .i64 k)) (hp : w.cell? ⟨Bp, 0, none⟩ = some (.slice a l.length capl)) (hBk : Bk ≠ g) (hBp : Bp ≠ g)
    (hv : VR l = true) (k0 : 0 ≤ k) (k1 : k ≤ 63) (hT : Tab w base g n cap0 (nts (List.range n))) (hBg : B ≤ g) :
    Calls Try.prog 90 #[.slice (some ⟨g, 0, none⟩) n cap0, FromF Bk Bp] w (SrtPost (st l k) n base g cap0 B w) := by
  have hn := VR_iff.1 hv
  have c1 := isort_any Bk Bp g base B n cap0 a l capl k w hl hr hag hk hp hBk hBp hv k0 k1 hT hBg
  have c2 := fun L => pdq_any (st l k) Bk Bp g base B n cap0 L w (by omega) c1
  have C2 := Lib.hid c2
  have C1 := Lib.hid (bitsLen_any n (by omega) (by omega) w)
  have hw : IntKind.u64.wrap (n : Int) = (n : Int) := IntWalk.u64_in (n : Int) (by omega)
  clear c1 c2 hn hk hp hr hT hv
  go_enter Try.func90, Try.ntmps90
  go_wp2_with fail
  refine C1.out.mono ?_
  rintro e w' ⟨⟨L, rfl⟩, rfl⟩
  go_wp2_with fail
  refine (C2.out L).mono ?_
  rintro e w' ⟨rfl, R, h1, h2, h3, h4⟩
  go_wp2
  go_end0
  exact ⟨rfl, R, h1, h2, h3, h4⟩
end Go.Proofs.Ytbldfhfciihddaa
