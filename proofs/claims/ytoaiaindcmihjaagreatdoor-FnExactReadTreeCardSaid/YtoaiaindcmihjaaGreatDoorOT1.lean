/-
  impl.part.text.
-/
import Derived.Test.YtoaiaindcmihjaaGreatDoorOB3
import Derived.Test.YtoaiaindcmihjaaGreatDoorOSi
namespace Go.Proofs.YtoaiaindcmihjaaGreatDoor
open Go.RowKit

/-- What text gives, f parts deep. -/
def TXc (L : List Int) (f : Nat) : Prop := ∀ d e : Nat, f + d = 6 → e < 2 ^ d → ∀ (a : Option Addr) (cap : Nat) (w : World), Reads w a (tfl L d e) →
    Calls Tryz.prog 32 #[.agg #[.slice a (tfl L d e).length cap, .int .i64 (d : Int), .int .i64 (e : Int)]] w fun en w' => en = .returned (.string (B8 (ttr L f d e))) ∧ Below w.heap.size w w'
set_option maxHeartbeats 8000000 in
set_option maxRecDepth 100000 in
theorem text_few (L : List Int) (hr : ∀ x ∈ L, 0 ≤ x ∧ x ≤ 63) (f d e : Nat) (hd : d ≤ 6) (a : Option Addr) (cap : Nat) (w : World) (hR : Reads w a (tfl L d e)) (hfew : (tfl L d e).length ≤ 1) :
    Calls Tryz.prog 32 #[.agg #[.slice a (tfl L d e).length cap, .int .i64 (d : Int), .int .i64 (e : Int)]] w fun en w' => en = .returned (.string (B8 (ttr L f d e))) ∧ Below w.heap.size w w' := by
  have hN := fun h => ttr_none (l := L) (d := d) (e := e) h f
  have hO := fun x h => ttr_one (l := L) (d := d) (e := e) (x := x) h f
  have hTr : ∀ x ∈ tfl L d e, 0 ≤ x ∧ x ≤ 63 := fun x hx => hr x (tfl_mem.1 hx).1
  obtain ⟨R, hRR⟩ : ∃ R, R = ttr L f d e := ⟨_, rfl⟩
  rw [← hRR] at hN hO ⊢
  obtain ⟨T, hT⟩ : ∃ T, T = tfl L d e := ⟨_, rfl⟩
  rw [← hT] at hR hfew hN hO hTr ⊢
  clear hT hRR hr
  have x0 := fun n => PBox.new w (.slice a n cap) d e
  have b0 := fun n => (Below.refl w.heap.size w).alloc (Nat.le_refl _) (.cells #[.slice a n cap, .int .i64 (d : Int), .int .i64 (e : Int)] 48)
  cases T with
  | nil =>
    have hR0 := hN rfl
    subst hR0
    have x1 := x0 0
    have b1 := b0 0
    obtain ⟨w1, e1⟩ : ∃ w1, w1 = w.alloc (.cells #[.slice a 0 cap, .int .i64 (d : Int), .int .i64 (e : Int)] 48) := ⟨_, rfl⟩
    rw [← e1] at x1 b1
    have s0 := x1.c0
    have c1 := fun wx => fits_any a 0 cap 1 wx
    have c2 := fun wx => fits_any a 0 cap 0 wx
    rw [show decide (((0 : Nat) : Int) ≤ 1) = true from rfl] at c1
    rw [show decide (((0 : Nat) : Int) ≤ 0) = true from rfl] at c2
    have E1 := Lib.hid e1
    have C1 := Lib.hid c1
    have C2 := Lib.hid c2
    rw [show ([] : List Int).length = 0 from rfl]
    clear c1 c2 e1 x0 b0 hN hO hTr hfew hR x1
    go_enter Tryz.func32, Tryz.ntmps32
    go_wp2_with fail
    rw [← E1.out]
    refine (C1.out _).mono ?_
    rintro en w' ⟨rfl, rfl⟩
    go_wp2_with fail
    refine (C2.out _).mono ?_
    rintro en w' ⟨rfl, rfl⟩
    go_wp2
    go_ret
    exact ⟨rfl, b1⟩
  | cons x t =>
    obtain rfl : t = [] := List.eq_nil_of_length_eq_zero (by simpa using hfew)
    have hR0 := hO x rfl
    subst hR0
    obtain ⟨hx0, hx1⟩ := hTr x (by simp)
    obtain ⟨X, rfl⟩ : ∃ X : Nat, x = X := ⟨x.toNat, by omega⟩
    have x1 := x0 1
    have b1 := b0 1
    obtain ⟨w1, e1⟩ : ∃ w1, w1 = w.alloc (.cells #[.slice a 1 cap, .int .i64 (d : Int), .int .i64 (e : Int)] 48) := ⟨_, rfl⟩
    rw [← e1] at x1 b1
    have s0 := x1.c0
    obtain ⟨b, off, z, rfl, hb, hc0, hz⟩ := (hR.below b1).get (k := 0) (by simp)
    have hz2 : (X : Int) = z := hz.out
    subst hz2
    rw [Nat.add_zero] at hc0
    have c1 := fun wx => fits_any (some ⟨b, off, none⟩) 1 cap 1 wx
    have c2 := fun wx => fits_any (some ⟨b, off, none⟩) 1 cap 0 wx
    rw [show decide (((1 : Nat) : Int) ≤ 1) = true from rfl] at c1
    rw [show decide (((1 : Nat) : Int) ≤ 0) = false from rfl] at c2
    have ci := fun wx => itoaS_any X wx (by omega)
    have E1 := Lib.hid e1
    have C1 := Lib.hid c1
    have C2 := Lib.hid c2
    have CI := Lib.hid ci
    rw [show ([(X : Int)] : List Int).length = 1 from rfl, Int.toNat_natCast]
    obtain ⟨DX, hDX⟩ : ∃ DX, DX = B8 (dec X) := ⟨_, rfl⟩
    rw [← hDX] at CI ⊢
    clear c1 c2 ci e1 x0 b0 hN hO hTr hfew hR x1 hz hDX
    go_enter Tryz.func32, Tryz.ntmps32
    go_wp2_with fail
    rw [← E1.out]
    refine (C1.out _).mono ?_
    rintro en w' ⟨rfl, rfl⟩
    go_wp2_with fail
    refine (C2.out _).mono ?_
    rintro en w' ⟨rfl, rfl⟩
    go_wp2_with fail
    refine (CI.out _).mono ?_
    rintro en w' ⟨rfl, rfl⟩
    go_wp2
    go_ret
    exact ⟨rfl, b1⟩
end Go.Proofs.YtoaiaindcmihjaaGreatDoor
