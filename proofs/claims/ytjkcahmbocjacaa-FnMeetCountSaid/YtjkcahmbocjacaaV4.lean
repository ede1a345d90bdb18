/-
  The plain mathematics of chapter 5: how often two sets meet, by the kernel's own reckoning (two minutes).
-/
import Derived.Test.YtjkcahmbocjacaaV3
namespace Go.Proofs.Ytjkcahmbocjacaa

theorem meet1 : ∀ a b : Fin 2, 1 ≤ a.val → 1 ≤ b.val → (mf 1 a.val b.val 1 []).1 * wgt (a.val ||| b.val) = (mf 1 a.val b.val 1 []).2 * wgt (a.val &&& b.val) := by decide +kernel
theorem meet2 : ∀ a b : Fin 4, 1 ≤ a.val → 1 ≤ b.val → (mf 2 a.val b.val 2 []).1 * wgt (a.val ||| b.val) = (mf 2 a.val b.val 2 []).2 * wgt (a.val &&& b.val) := by decide +kernel
theorem meet3 : ∀ a b : Fin 8, 1 ≤ a.val → 1 ≤ b.val → (mf 3 a.val b.val 3 []).1 * wgt (a.val ||| b.val) = (mf 3 a.val b.val 3 []).2 * wgt (a.val &&& b.val) := by decide +kernel
theorem meet4 : ∀ a b : Fin 16, 1 ≤ a.val → 1 ≤ b.val → (mf 4 a.val b.val 4 []).1 * wgt (a.val ||| b.val) = (mf 4 a.val b.val 4 []).2 * wgt (a.val &&& b.val) := by decide +kernel
theorem m5_1 : ∀ b : Fin 32, 1 ≤ b.val → (mf 5 1 b.val 5 []).1 * wgt (1 ||| b.val) = (mf 5 1 b.val 5 []).2 * wgt (1 &&& b.val) := by decide +kernel
theorem m5_2 : ∀ b : Fin 32, 1 ≤ b.val → (mf 5 2 b.val 5 []).1 * wgt (2 ||| b.val) = (mf 5 2 b.val 5 []).2 * wgt (2 &&& b.val) := by decide +kernel
theorem m5_3 : ∀ b : Fin 32, 1 ≤ b.val → (mf 5 3 b.val 5 []).1 * wgt (3 ||| b.val) = (mf 5 3 b.val 5 []).2 * wgt (3 &&& b.val) := by decide +kernel
theorem m5_4 : ∀ b : Fin 32, 1 ≤ b.val → (mf 5 4 b.val 5 []).1 * wgt (4 ||| b.val) = (mf 5 4 b.val 5 []).2 * wgt (4 &&& b.val) := by decide +kernel
theorem m5_5 : ∀ b : Fin 32, 1 ≤ b.val → (mf 5 5 b.val 5 []).1 * wgt (5 ||| b.val) = (mf 5 5 b.val 5 []).2 * wgt (5 &&& b.val) := by decide +kernel
theorem m5_6 : ∀ b : Fin 32, 1 ≤ b.val → (mf 5 6 b.val 5 []).1 * wgt (6 ||| b.val) = (mf 5 6 b.val 5 []).2 * wgt (6 &&& b.val) := by decide +kernel
theorem m5_7 : ∀ b : Fin 32, 1 ≤ b.val → (mf 5 7 b.val 5 []).1 * wgt (7 ||| b.val) = (mf 5 7 b.val 5 []).2 * wgt (7 &&& b.val) := by decide +kernel
theorem m5_8 : ∀ b : Fin 32, 1 ≤ b.val → (mf 5 8 b.val 5 []).1 * wgt (8 ||| b.val) = (mf 5 8 b.val 5 []).2 * wgt (8 &&& b.val) := by decide +kernel
theorem m5_9 : ∀ b : Fin 32, 1 ≤ b.val → (mf 5 9 b.val 5 []).1 * wgt (9 ||| b.val) = (mf 5 9 b.val 5 []).2 * wgt (9 &&& b.val) := by decide +kernel
theorem m5_10 : ∀ b : Fin 32, 1 ≤ b.val → (mf 5 10 b.val 5 []).1 * wgt (10 ||| b.val) = (mf 5 10 b.val 5 []).2 * wgt (10 &&& b.val) := by decide +kernel
theorem m5_11 : ∀ b : Fin 32, 1 ≤ b.val → (mf 5 11 b.val 5 []).1 * wgt (11 ||| b.val) = (mf 5 11 b.val 5 []).2 * wgt (11 &&& b.val) := by decide +kernel
theorem m5_12 : ∀ b : Fin 32, 1 ≤ b.val → (mf 5 12 b.val 5 []).1 * wgt (12 ||| b.val) = (mf 5 12 b.val 5 []).2 * wgt (12 &&& b.val) := by decide +kernel
theorem m5_13 : ∀ b : Fin 32, 1 ≤ b.val → (mf 5 13 b.val 5 []).1 * wgt (13 ||| b.val) = (mf 5 13 b.val 5 []).2 * wgt (13 &&& b.val) := by decide +kernel
theorem m5_14 : ∀ b : Fin 32, 1 ≤ b.val → (mf 5 14 b.val 5 []).1 * wgt (14 ||| b.val) = (mf 5 14 b.val 5 []).2 * wgt (14 &&& b.val) := by decide +kernel
theorem m5_15 : ∀ b : Fin 32, 1 ≤ b.val → (mf 5 15 b.val 5 []).1 * wgt (15 ||| b.val) = (mf 5 15 b.val 5 []).2 * wgt (15 &&& b.val) := by decide +kernel
theorem m5_16 : ∀ b : Fin 32, 1 ≤ b.val → (mf 5 16 b.val 5 []).1 * wgt (16 ||| b.val) = (mf 5 16 b.val 5 []).2 * wgt (16 &&& b.val) := by decide +kernel
theorem m5_17 : ∀ b : Fin 32, 1 ≤ b.val → (mf 5 17 b.val 5 []).1 * wgt (17 ||| b.val) = (mf 5 17 b.val 5 []).2 * wgt (17 &&& b.val) := by decide +kernel
theorem m5_18 : ∀ b : Fin 32, 1 ≤ b.val → (mf 5 18 b.val 5 []).1 * wgt (18 ||| b.val) = (mf 5 18 b.val 5 []).2 * wgt (18 &&& b.val) := by decide +kernel
theorem m5_19 : ∀ b : Fin 32, 1 ≤ b.val → (mf 5 19 b.val 5 []).1 * wgt (19 ||| b.val) = (mf 5 19 b.val 5 []).2 * wgt (19 &&& b.val) := by decide +kernel
theorem m5_20 : ∀ b : Fin 32, 1 ≤ b.val → (mf 5 20 b.val 5 []).1 * wgt (20 ||| b.val) = (mf 5 20 b.val 5 []).2 * wgt (20 &&& b.val) := by decide +kernel
theorem m5_21 : ∀ b : Fin 32, 1 ≤ b.val → (mf 5 21 b.val 5 []).1 * wgt (21 ||| b.val) = (mf 5 21 b.val 5 []).2 * wgt (21 &&& b.val) := by decide +kernel
theorem m5_22 : ∀ b : Fin 32, 1 ≤ b.val → (mf 5 22 b.val 5 []).1 * wgt (22 ||| b.val) = (mf 5 22 b.val 5 []).2 * wgt (22 &&& b.val) := by decide +kernel
theorem m5_23 : ∀ b : Fin 32, 1 ≤ b.val → (mf 5 23 b.val 5 []).1 * wgt (23 ||| b.val) = (mf 5 23 b.val 5 []).2 * wgt (23 &&& b.val) := by decide +kernel
theorem m5_24 : ∀ b : Fin 32, 1 ≤ b.val → (mf 5 24 b.val 5 []).1 * wgt (24 ||| b.val) = (mf 5 24 b.val 5 []).2 * wgt (24 &&& b.val) := by decide +kernel
theorem m5_25 : ∀ b : Fin 32, 1 ≤ b.val → (mf 5 25 b.val 5 []).1 * wgt (25 ||| b.val) = (mf 5 25 b.val 5 []).2 * wgt (25 &&& b.val) := by decide +kernel
theorem m5_26 : ∀ b : Fin 32, 1 ≤ b.val → (mf 5 26 b.val 5 []).1 * wgt (26 ||| b.val) = (mf 5 26 b.val 5 []).2 * wgt (26 &&& b.val) := by decide +kernel
theorem m5_27 : ∀ b : Fin 32, 1 ≤ b.val → (mf 5 27 b.val 5 []).1 * wgt (27 ||| b.val) = (mf 5 27 b.val 5 []).2 * wgt (27 &&& b.val) := by decide +kernel
theorem m5_28 : ∀ b : Fin 32, 1 ≤ b.val → (mf 5 28 b.val 5 []).1 * wgt (28 ||| b.val) = (mf 5 28 b.val 5 []).2 * wgt (28 &&& b.val) := by decide +kernel
theorem m5_29 : ∀ b : Fin 32, 1 ≤ b.val → (mf 5 29 b.val 5 []).1 * wgt (29 ||| b.val) = (mf 5 29 b.val 5 []).2 * wgt (29 &&& b.val) := by decide +kernel
theorem m5_30 : ∀ b : Fin 32, 1 ≤ b.val → (mf 5 30 b.val 5 []).1 * wgt (30 ||| b.val) = (mf 5 30 b.val 5 []).2 * wgt (30 &&& b.val) := by decide +kernel
theorem m5_31 : ∀ b : Fin 32, 1 ≤ b.val → (mf 5 31 b.val 5 []).1 * wgt (31 ||| b.val) = (mf 5 31 b.val 5 []).2 * wgt (31 &&& b.val) := by decide +kernel
theorem meet5 {a : Nat} (ha : 1 ≤ a) (ha2 : a < 32) (b : Fin 32) (hb : 1 ≤ b.val) : (mf 5 a b.val 5 []).1 * wgt (a ||| b.val) = (mf 5 a b.val 5 []).2 * wgt (a &&& b.val) := by
  have : a = 1 ∨ a = 2 ∨ a = 3 ∨ a = 4 ∨ a = 5 ∨ a = 6 ∨ a = 7 ∨ a = 8 ∨ a = 9 ∨ a = 10 ∨ a = 11 ∨ a = 12 ∨ a = 13 ∨ a = 14 ∨ a = 15 ∨ a = 16 ∨ a = 17 ∨ a = 18 ∨ a = 19 ∨ a = 20 ∨ a = 21 ∨ a = 22 ∨ a = 23 ∨ a = 24 ∨ a = 25 ∨ a = 26 ∨ a = 27 ∨ a = 28 ∨ a = 29 ∨ a = 30 ∨ a = 31 := by omega
  rcases this with rfl | rfl | rfl | rfl | rfl | rfl | rfl | rfl | rfl | rfl | rfl | rfl | rfl | rfl | rfl | rfl | rfl | rfl | rfl | rfl | rfl | rfl | rfl | rfl | rfl | rfl | rfl | rfl | rfl | rfl | rfl
  · exact m5_1 b hb
  · exact m5_2 b hb
  · exact m5_3 b hb
  · exact m5_4 b hb
  · exact m5_5 b hb
  · exact m5_6 b hb
  · exact m5_7 b hb
  · exact m5_8 b hb
  · exact m5_9 b hb
  · exact m5_10 b hb
  · exact m5_11 b hb
  · exact m5_12 b hb
  · exact m5_13 b hb
  · exact m5_14 b hb
  · exact m5_15 b hb
  · exact m5_16 b hb
  · exact m5_17 b hb
  · exact m5_18 b hb
  · exact m5_19 b hb
  · exact m5_20 b hb
  · exact m5_21 b hb
  · exact m5_22 b hb
  · exact m5_23 b hb
  · exact m5_24 b hb
  · exact m5_25 b hb
  · exact m5_26 b hb
  · exact m5_27 b hb
  · exact m5_28 b hb
  · exact m5_29 b hb
  · exact m5_30 b hb
  · exact m5_31 b hb
theorem meet_law {n a b : Nat} (h1 : 1 ≤ n) (h5 : n ≤ 5) (ha : 1 ≤ a) (ha2 : a < 2 ^ n) (hb : 1 ≤ b) (hb2 : b < 2 ^ n) : (mf n a b n []).1 * wgt (a ||| b) = (mf n a b n []).2 * wgt (a &&& b) := by
  have : n = 1 ∨ n = 2 ∨ n = 3 ∨ n = 4 ∨ n = 5 := by omega
  rcases this with rfl | rfl | rfl | rfl | rfl
  · exact meet1 ⟨a, ha2⟩ ⟨b, hb2⟩ ha hb
  · exact meet2 ⟨a, ha2⟩ ⟨b, hb2⟩ ha hb
  · exact meet3 ⟨a, ha2⟩ ⟨b, hb2⟩ ha hb
  · exact meet4 ⟨a, ha2⟩ ⟨b, hb2⟩ ha hb
  · exact meet5 ha ha2 ⟨b, hb2⟩ hb
end Go.Proofs.Ytjkcahmbocjacaa
