/-
  laws.FnGuessOf: the walk.
-/
import Derived.Test.YtjkcahmbocjacaaK1
import Derived.Test.YtjkcahmbocjacaaK2
import Derived.Test.YtjkcahmbocjacaaDH
namespace Go.Proofs.Ytjkcahmbocjacaa
open Go.RowKit

theorem gs_keys {key : Int} (h : KR key = true) : 0 ≤ key ∧ key ≤ 30 := by
  unfold KR at h
  simpa using h
set_option maxHeartbeats 8000000 in
set_option maxRecDepth 100000 in
theorem lawFnGuessOf (a : Option Addr) (n cap : Nat) (w : World) (hB : Bytes w w.heap.size a n) (hn : n ≤ 9223372036854775807) (hc : n ≤ cap) :
    Calls Try.prog 9 #[.slice a n cap] w fun e w' => e = .returned (.bool true) ∧ Below w.heap.size w w' := by
  by_cases hbig : 1048576 < n
  · go_enter Try.func9, Try.ntmps9
    go_wp2
    go_ret
    exact ⟨rfl, Below.refl _ _⟩
  go_enter Try.func9, Try.ntmps9
  go_wp2_with fail
  refine (drawGuessOf_any a n cap w hB hn hc).mono ?_
  rintro e w1 ⟨key, ar, ts, cr, rfl, hk, hr, bk, B1⟩
  have hk64 : In64 key := by unfold In64; omega
  have hts : ts.length ≤ 100 := by have := bulk_len ts; omega
  have hle := GSO_le ts key
  obtain ⟨g, hg⟩ : ∃ g, g = GSO ts key := ⟨_, rfl⟩
  have CI := Lib.hid (fun wx (h : ReadsS wx ar ts) => implGuessOf_any ar ts cr key wx h (by omega) hk64)
  have CS := Lib.hid (fun wx (h : ReadsS wx ar ts) => specGuessOf_any ar ts cr key wx h (by omega) hk64)
  rw [← hg] at CI CS hle
  have HG := Lib.hid hg
  clear hg
  clear hB hn hc bk
  go_wp2_with fail
  refine (CI.out _ hr).mono ?_
  rintro e w2 ⟨rfl, b2⟩
  have hr2 := hr.below b2
  have B2 := B1.trans (b2.mono B1.size)
  clear b2 B1 hr
  go_wp2_with fail
  refine (CS.out _ hr2).mono ?_
  rintro e w3 ⟨rfl, b3⟩
  have hr3 := hr2.below b3
  have B3 := B2.trans (b3.mono B2.size)
  clear b3 B2 hr2
  by_cases hneg : g < 0
  · go_wp2_with fail
    refine (CS.out _ hr3).mono ?_
    rintro e w4 ⟨rfl, b4⟩
    have B4 := B3.trans (b4.mono B3.size)
    go_wp2
    go_ret
    exact ⟨rfl, B4⟩
  · have hv : VRw ts ∧ KR key = true := by
      by_cases h : VRw ts ∧ KR key = true
      · exact h
      · rw [HG.out] at hneg; unfold GSO at hneg; rw [if_neg h] at hneg; omega
    obtain ⟨hv, hkr⟩ := hv
    have hk30 := gs_keys hkr
    have ht0 : 0 < ts.length := by have := hv.1; omega
    have hvck : VCK (ts.length : Int) ((tr ts 0).length : Int) [key, 3, key, 5, 7] = true := by
      have h1 := hv.1
      have h2 := hv.2.1
      have e0 : (tr ts 0).length = (ts.getD 0 []).length := rfl
      refine VCK_iff.2 ⟨by omega, by omega, VKc_iff.2 ⟨by simp, ?_⟩⟩
      intro x hx
      simp at hx
      omega
    have hge := GSO_ge hvck hkr
    obtain ⟨hL, hGt⟩ := CKs_get hvck
    have hcnt : (([key, 3, key, 5, 7] : List Int).count key : Int) = 2 + (if (3 : Int) = key then 1 else 0) + (if (5 : Int) = key then 1 else 0) + (if (7 : Int) = key then 1 else 0) := by
      by_cases h3 : key = 3
      · subst h3; decide
      by_cases h5 : key = 5
      · subst h5; decide
      by_cases h7 : key = 7
      · subst h7; decide
      have h3' : ¬ (3 : Int) = key := fun e => h3 e.symm
      have h5' : ¬ (5 : Int) = key := fun e => h5 e.symm
      have h7' : ¬ (7 : Int) = key := fun e => h7 e.symm
      simp [List.count_cons, h3', h5', h7']
    obtain ⟨b0, off0, A, C, rfl, hb0, hc0, hr0, hle0⟩ := hr3.get ht0
    have hCK := fun a c wx (h : Reads wx a ([key, 3, key, 5, 7] : List Int)) => implCountKeys_any (ts.length : Int) ((tr ts 0).length : Int) a [key, 3, key, 5, 7] c wx h (by simp)
    obtain ⟨ms, hms⟩ : ∃ ms, ms = CKs (ts.length : Int) ((tr ts 0).length : Int) [key, 3, key, 5, 7] := ⟨_, rfl⟩
    have hmb : bulk ms ≤ 100 := by rw [hms]; exact CKs_bulk _ _ _
    rw [← hms] at hCK hge
    obtain ⟨gg, hgg⟩ : ∃ gg, gg = GSO ms key := ⟨_, rfl⟩
    have hGM := fun a c wx (h : ReadsS wx a ms) => implGuessOf_any a ms c key wx h (by omega) hk64
    rw [← hgg] at hGM hge
    rw [hcnt] at hge
    obtain ⟨c3, h3⟩ : ∃ c : Int, c = if (3 : Int) = key then 1 else 0 := ⟨_, rfl⟩
    obtain ⟨c5, h5⟩ : ∃ c : Int, c = if (5 : Int) = key then 1 else 0 := ⟨_, rfl⟩
    obtain ⟨c7, h7⟩ : ∃ c : Int, c = if (7 : Int) = key then 1 else 0 := ⟨_, rfl⟩
    rw [← h3, ← h5, ← h7] at hge
    have d3 : (((3 : Int) == key) = true ∧ c3 = 1) ∨ (((3 : Int) == key) = false ∧ c3 = 0) := by by_cases e : (3 : Int) = key <;> simp [h3, e]
    have d5 : (((5 : Int) == key) = true ∧ c5 = 1) ∨ (((5 : Int) == key) = false ∧ c5 = 0) := by by_cases e : (5 : Int) = key <;> simp [h5, e]
    have d7 : (((7 : Int) == key) = true ∧ c7 = 1) ∨ (((7 : Int) == key) = false ∧ c7 = 0) := by by_cases e : (7 : Int) = key <;> simp [h7, e]
    have HCK := Lib.hid hCK
    have HGM := Lib.hid hGM
    have HMS := Lib.hid hms
    have HGG := Lib.hid hgg
    have tsl : 0 < ts.length := ht0
    have hbk : Below w3.heap.size w3 (w3.alloc (.cells #[.int .i64 key, .int .i64 3, .int .i64 key, .int .i64 5, .int .i64 7] 3)) := (Below.refl _ _).alloc (Nat.le_refl _) _
    have hkc := CellsAt.lit w3 [key, 3, key, 5, 7]
    obtain ⟨wk, ek⟩ : ∃ wk, wk = w3.alloc (.cells #[.int .i64 key, .int .i64 3, .int .i64 key, .int .i64 5, .int .i64 7] 3) := ⟨_, rfl⟩
    have zk : wk.heap.size = w3.heap.size + 1 := by rw [ek]; simp
    have hkc' : CellsAt wk w3.heap.size 0 [key, 3, key, 5, 7] := by rw [ek]; exact hkc
    rw [← ek] at hbk
    have EK := Lib.hid ek
    have ZK := Lib.hid zk
    have k1 : wk.cell? ⟨w3.heap.size, 1, none⟩ = some (.int .i64 3) := hkc' 1 (by simp)
    have k2 : wk.cell? ⟨w3.heap.size, 2, none⟩ = some (.int .i64 key) := hkc' 2 (by simp)
    have k3 : wk.cell? ⟨w3.heap.size, 3, none⟩ = some (.int .i64 5) := hkc' 3 (by simp)
    have k4 : wk.cell? ⟨w3.heap.size, 4, none⟩ = some (.int .i64 7) := hkc' 4 (by simp)
    have rk : Reads wk (some ⟨w3.heap.size, 0, none⟩) [key, 3, key, 5, 7] := .inr ⟨_, 0, rfl, by omega, hkc'⟩
    have hck := Below.cell hbk (p := ⟨b0, off0, none⟩) hb0
    rw [Nat.add_zero] at hc0
    rw [hc0] at hck
    have Bk := B3.trans (hbk.mono B3.size)
    have hrk := hr3.below hbk
    clear hcnt hms hgg hGM hCK h3 h5 h7 hv hvck hbk ek hkc hkc' CI CS hL hGt zk B3 hr3 hc0 hr0 HG
    go_wp2
    rw [← EK.out]
    go_loop [7, 8] (fun nv iv => (iv = .int .i64 1 ∧ nv = .int .i64 2) ∨ (iv = .int .i64 2 ∧ nv = .int .i64 (2 + c3)) ∨ (iv = .int .i64 3 ∧ nv = .int .i64 (2 + c3)) ∨ (iv = .int .i64 4 ∧ nv = .int .i64 (2 + c3 + c5)) ∨ (iv = .int .i64 5 ∧ nv = .int .i64 (2 + c3 + c5 + c7))) (fun _ iv => 5 - (intOf iv).toNat)
    case atStart => exact .inl ⟨rfl, rfl⟩
    case round =>
      rcases hrel with ⟨rfl, rfl⟩ | ⟨rfl, rfl⟩ | ⟨rfl, rfl⟩ | ⟨rfl, rfl⟩ | ⟨rfl, rfl⟩
      · rcases d3 with ⟨e, hc⟩ | ⟨e, hc⟩
        · go_wp2
          go_round
          case rel => exact .inr (.inl ⟨by go_num, by first | (rw [hc]; done) | (rw [hc]; go_num)⟩)
          case measure => simp [intOf]
        · go_wp2
          go_round
          case rel => exact .inr (.inl ⟨by go_num, by first | (rw [hc]; done) | (rw [hc]; go_num)⟩)
          case measure => simp [intOf]
      · go_wp2
        go_round
        case rel => exact .inr (.inr (.inl ⟨by go_num, rfl⟩))
        case measure => simp [intOf]
      · rcases d5 with ⟨e, hc⟩ | ⟨e, hc⟩
        · go_wp2
          go_round
          case rel => exact .inr (.inr (.inr (.inl ⟨by go_num, by first | (rw [hc]; done) | (rw [hc]; go_num)⟩)))
          case measure => simp [intOf]
        · go_wp2
          go_round
          case rel => exact .inr (.inr (.inr (.inl ⟨by go_num, by first | (rw [hc]; done) | (rw [hc]; go_num)⟩)))
          case measure => simp [intOf]
      · rcases d7 with ⟨e, hc⟩ | ⟨e, hc⟩
        · go_wp2
          go_round
          case rel => exact .inr (.inr (.inr (.inr ⟨by go_num, by first | (rw [hc]; done) | (rw [hc]; go_num)⟩)))
          case measure => simp [intOf]
        · go_wp2
          go_round
          case rel => exact .inr (.inr (.inr (.inr ⟨by go_num, by first | (rw [hc]; done) | (rw [hc]; go_num)⟩)))
          case measure => simp [intOf]
      · have hi0 : (0 : Int) < (ts.length : Int) := by omega
        go_wp2_with fail
        refine (HCK.out _ _ _ rk).mono ?_
        rintro e w4 ⟨hh, b4⟩
        obtain ⟨am, cm, rfl, rm⟩ := hh.reads
        have B4 := Bk.trans (b4.mono Bk.size)
        have hmr := HGM.out am cm _ rm
        clear hh b4 Bk
        go_wp2_with fail
        refine hmr.mono ?_
        rintro e w5 ⟨rfl, b5⟩
        have B5 := B4.trans (b5.mono B4.size)
        go_wp2
        go_ret
        exact ⟨rfl, B5⟩
end Go.Proofs.Ytjkcahmbocjacaa
