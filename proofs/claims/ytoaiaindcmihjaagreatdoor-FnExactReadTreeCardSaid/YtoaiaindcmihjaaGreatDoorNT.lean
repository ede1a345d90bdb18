/-
  Texts: spec.number, trie, TreeText.
-/
import Derived.Test.YtoaiaindcmihjaaGreatDoorNG
import Derived.Test.YtoaiaindcmihjaaGreatDoorNF
import Derived.Laws.Concat
import Derived.Laws.Strings
import Derived.Laws.Strings2
import Derived.Laws.Strings3
namespace Go.Proofs.YtoaiaindcmihjaaGreatDoor
open Go.RowKit

/-- The bytes of a list, as a text. -/
abbrev B8 (l : List UInt8) : ByteArray := ByteArray.mk l.toArray
theorem B8_app (x y : List UInt8) : B8 x ++ B8 y = B8 (x ++ y) := ByteArray.mk_append_mk x y
theorem digits_ex : ∀ n : Fin 10, (ByteArray.mk #[48, 49, 50, 51, 52, 53, 54, 55, 56, 57]).extract n.val (n.val + 1) = B8 [dgt n.val] := by decide +kernel
theorem dec_short {n : Nat} (h : n < 1000000) : (dec n).length ≤ 6 := by
  have h1 : ∀ k n : Nat, n < 10 ^ (k + 1) → (dec n).length ≤ k + 1 := by
    intro k
    induction k with
    | zero => intro n hn; rw [dec_lt (by simpa using hn)]; simp
    | succ k ih =>
      intro n hn
      by_cases h : n < 10
      · rw [dec_lt h]; simp
      · rw [dec_ge h, List.length_append, List.length_singleton]
        have := ih (n / 10) (by rw [Nat.pow_succ] at hn; omega)
        omega
  exact h1 5 n (by simpa using h)
set_option maxHeartbeats 1000000 in
theorem number_any : ∀ (n : Nat) (w : World), n < 1000000 → Calls Tryz.prog 61 #[.int .i64 (n : Int)] w fun e w' => e = .returned (.string (B8 (dec n))) ∧ w = w' := by
  intro n
  induction n using Nat.strongRecOn with
  | ind n ih =>
    intro w hn
    by_cases h : n < 10
    · have hd := digits_ex ⟨n, h⟩
      have h1 : (n : Int) < 10 := by omega
      rw [dec_lt h]
      obtain ⟨R, hR⟩ : ∃ R, R = B8 [dgt n] := ⟨_, rfl⟩
      rw [← hR] at hd ⊢
      dsimp only at hd
      have HD := Lib.hid hd
      have e1 : IntKind.i64.wrap ((n : Int) + 1) = ((n + 1 : Nat) : Int) := by rw [IntWalk.i64_in _ (by omega)]; omega
      have e2 : ((n : Int) + 1).toNat = n + 1 := by omega
      clear hR ih
      go_enter Tryz.func61, Tryz.ntmps61
      go_wp2
      go_ret
      exact ⟨rfl, rfl⟩
    · have h1 : ¬ (n : Int) < 10 := by omega
      have i1 := ih (n / 10) (by omega)
      have i2 := ih (n % 10) (by omega)
      have q1 : (n : Int).tdiv 10 = ((n / 10 : Nat) : Int) := by rw [Int.tdiv_eq_ediv_of_nonneg (by omega)]; omega
      have q2 : (n : Int).tmod 10 = ((n % 10 : Nat) : Int) := by rw [Int.tmod_eq_emod_of_nonneg (by omega)]; omega
      have s1 := dec_short (n := n / 10) (by omega)
      have s2 := dec_short (n := n % 10) (by omega)
      have he : dec n = dec (n / 10) ++ dec (n % 10) := by rw [dec_ge h, dec_lt (show n % 10 < 10 by omega)]
      rw [he, ← B8_app]
      have m1 : n / 10 < 1000000 := by omega
      have m2 : n % 10 < 1000000 := by omega
      obtain ⟨x, hx⟩ : ∃ x, x = n / 10 := ⟨_, rfl⟩
      obtain ⟨y, hy⟩ : ∃ y, y = n % 10 := ⟨_, rfl⟩
      rw [← hx] at i1 q1 s1 m1 ⊢
      rw [← hy] at i2 q2 s2 m2 ⊢
      obtain ⟨X, hX⟩ : ∃ X, X = dec x := ⟨_, rfl⟩
      obtain ⟨Y, hY⟩ : ∃ Y, Y = dec y := ⟨_, rfl⟩
      rw [← hX] at i1 s1 ⊢
      rw [← hY] at i2 s2 ⊢
      have D1 := Lib.hid (fun wx => i1 wx m1)
      have D2 := Lib.hid (fun wx => i2 wx m2)
      clear i1 i2 hx hy hX hY he ih
      go_enter Tryz.func61, Tryz.ntmps61
      go_wp2_with fail
      refine (D1.out _).mono ?_
      rintro e w' ⟨rfl, rfl⟩
      go_wp2_with fail
      refine (D2.out _).mono ?_
      rintro e w' ⟨rfl, rfl⟩
      go_wp2
      go_ret
      exact ⟨rfl, rfl⟩
/-- What trie gives, f parts deep. -/
def TRc (a : Option Addr) (l : List Int) (cap f : Nat) : Prop := ∀ d e : Nat, f + d = 6 → e < 2 ^ d → ∀ w : World, Reads w a l →
    Calls Tryz.prog 34 #[.slice a l.length cap, .int .i64 (d : Int), .int .i64 (e : Int)] w fun en w' => en = .returned (.string (B8 (ttr l f d e))) ∧ Below w.heap.size w w'
theorem ttr_len' {l : List Int} (hv : VNm l = true) {f d e : Nat} (h1 : f + d = 6) (h2 : e < 2 ^ d) : (ttr l f d e).length ≤ 400 := by
  obtain ⟨a1, a2, a3⟩ := VNm_iff.1 hv
  have h3 := ttr_len a3 a2 f d e h1 h2
  have h4 : (tfl l d e).length ≤ 12 := Nat.le_trans (List.length_filter_le _ _) a1
  have h5 : 5 * f * (tfl l d e).length ≤ 30 * 12 := Nat.mul_le_mul (by omega) h4
  omega
set_option maxHeartbeats 16000000 in
set_option maxRecDepth 100000 in
theorem trie_step (a : Option Addr) (l : List Int) (cap f : Nat) (hv : VNm l = true) (ih : ∀ g, f = g + 1 → TRc a l cap g) : TRc a l cap f := by
  obtain ⟨hl12, hrng, hnd⟩ := VNm_iff.1 hv
  intro d e hfd he w hrw
  have hp2 : 2 ^ d ≤ 2 ^ 6 := Nat.pow_le_pow_right (by omega) (by omega)
  have six := tfl_six hnd hrng e
  have cp := fun wx => pow_any d wx (by omega)
  have hrec : 2 ≤ (tfl l d e).length → ∃ (P : Nat) (A B : List UInt8), (P ≤ 64 ∧ e < P) ∧ d ≤ 5 ∧ A.length ≤ 400 ∧ B.length ≤ 400 ∧ ttr l f d e = [40] ++ A ++ [32] ++ B ++ [41] ∧ (∀ w : World, Reads w a l → Calls Tryz.prog 34 #[.slice a l.length cap, .int .i64 ((d : Int) + 1), .int .i64 (e : Int)] w fun en w' => en = .returned (.string (B8 A)) ∧ Below w.heap.size w w') ∧
      (∀ w : World, Reads w a l → Calls Tryz.prog 34 #[.slice a l.length cap, .int .i64 ((d : Int) + 1), .int .i64 ((e : Int) + (P : Int))] w fun en w' => en = .returned (.string (B8 B)) ∧ Below w.heap.size w w') ∧ ∀ wx, Calls Tryz.prog 59 #[.int .i64 (d : Int)] wx fun e w' => e = .returned (.int .i64 (P : Int)) ∧ wx = w' := by
    intro h
    cases f with
    | zero => obtain rfl : d = 6 := by omega
              omega
    | succ g =>
      have hps : 2 ^ (d + 1) = 2 * 2 ^ d := by rw [Nat.pow_succ]; omega
      have i1 := ih g rfl (d + 1) e (by omega) (by omega)
      have i2 := ih g rfl (d + 1) (e + 2 ^ d) (by omega) (by omega)
      rw [show (((d + 1 : Nat)) : Int) = (d : Int) + 1 by omega] at i1 i2
      rw [show (((e + 2 ^ d : Nat)) : Int) = (e : Int) + ((2 ^ d : Nat) : Int) by omega] at i2
      exact ⟨2 ^ d, _, _, ⟨by omega, he⟩, by omega, ttr_len' hv (by omega) (by omega), ttr_len' hv (by omega) (by omega), ttr_more h, i1, i2, cp⟩
  obtain ⟨RR, hRR⟩ : ∃ RR, RR = ttr l f d e := ⟨_, rfl⟩
  rw [← hRR] at hrec ⊢
  have HRR := Lib.hid hRR
  obtain ⟨M, hM⟩ : ∃ M, M = l.length := ⟨_, rfl⟩
  have HM := Lib.hid hM
  rw [← hM] at hl12 hrec ⊢
  clear hM
  have REC := Lib.hid hrec
  have ho1 := Own.lit0 w w.heap.size (Nat.le_refl _)
  have hB1 := (Below.refl w.heap.size w).alloc (Nat.le_refl _) (.cells #[] 3)
  clear hrec ih cp six hp2 hRR
  go_enter Tryz.func34, Tryz.ntmps34
  go_wp2
  go_loopw [7, 8] (fun sv iv wr => ∃ i : Nat, i ≤ M ∧ iv = .int .i64 (i : Int) ∧ Own wr w.heap.size sv (tfl (l.take i) d e) ∧ Below w.heap.size w wr) (fun _ iv _ => M - (intOf iv).toNat)
  case atStart => exact ⟨0, by omega, rfl, by simpa [tfl] using ho1, hB1⟩
  case round =>
    clear ho1 hB1
    rename World => wo
    obtain ⟨i, hi, rfl, ho, hB⟩ := hrel
    by_cases hlt : i < M
    · have hi1 : (i : Int) < (M : Int) := by omega
      obtain ⟨b, off, y, rfl, hb, hc0, hy⟩ := hrw.get (k := i) (by have := HM.out; omega)
      have hcell : wo.cell? ⟨b, off + i, none⟩ = some (.int .i64 y) := (hB.cell (by exact hb)).trans hc0
      have hyr := hrng y (by rw [← hy.out]; exact getD_mem (by have := HM.out; omega))
      have htk := tfl_take (l := l) (d := d) (e := e) (i := i) (by have := HM.out; omega)
      rw [hy.out] at htk
      obtain ⟨Y, rfl⟩ : ∃ Y : Nat, y = Y := ⟨y.toNat, by omega⟩
      rw [Int.toNat_natCast] at htk
      have ct := fun wx => pow_tail Y d wx (by omega) (by omega)
      obtain ⟨q, hq⟩ : ∃ q, q = Y % 2 ^ d := ⟨_, rfl⟩
      rw [← hq] at htk ct
      have D := Lib.hid ct
      have hz1 := hB.size
      have hlen := tfl_len (l.take i) d e
      rw [List.length_take] at hlen
      have hl9 : (tfl (l.take i) d e).length ≤ 12 := by omega
      obtain ⟨T, hT⟩ : ∃ T, T = tfl (l.take i) d e := ⟨_, rfl⟩
      rw [← hT] at htk ho hl9
      clear hc0 ct hq hlen hT
      by_cases hqe : q = e
      · rw [if_pos hqe] at htk
        have HTK := Lib.hid htk
        subst hqe
        have hd1 : ((q : Int) == (q : Int)) = true := by simp
        clear htk
        go_wp2_with fail
        refine (D.out _).mono ?_
        rintro en w' ⟨rfl, rfl⟩
        go_wp2_with (at_builtin; refine push_int rfl (.tmp 24) (.tmp 29) rfl w.heap.size _ T (Y : Int) rfl ho rfl (by omega) hz1 ?_)
        intro v' wf of _ gf
        rw [← HTK.out] at of
        have hBf := hB.grown gf hB.size (fun k hk => (ho.lt k hk).1)
        clear gf ho hB
        go_wp2
        go_roundw
        case rel => exact ⟨i + 1, by omega, by go_num, of, hBf⟩
        case measure => simp [intOf]; omega
      · rw [if_neg hqe, List.append_nil] at htk
        have HTK := Lib.hid htk
        have hd1 : ((q : Int) == (e : Int)) = false := by simp; omega
        clear htk
        go_wp2_with fail
        refine (D.out _).mono ?_
        rintro en w' ⟨rfl, rfl⟩
        go_wp2
        go_roundw
        case rel => exact ⟨i + 1, by omega, by go_num, by rw [HTK.out]; exact ho, hB⟩
        case measure => simp [intOf]; omega
    · obtain rfl : i = M := by omega
      have etk : l.take i = l := by rw [HM.out, List.take_length]
      rw [etk] at ho
      have hrw2 := hrw.below hB
      clear etk
      rcases tfl_cases l d e with h0 | ⟨x, h1⟩ | h2
      · have hR := HRR.out
        rw [ttr_none h0] at hR
        subst hR
        rw [h0] at ho
        obtain ⟨sa, cs, rfl, _, _, _, _⟩ := ho.form
        rw [show ([] : List Int).length = 0 from rfl]
        clear h0 REC ho
        go_wp2
        go_ret
        exact ⟨rfl, hB⟩
      · have hR := HRR.out
        rw [ttr_one h1] at hR
        rw [h1] at ho
        have hx := hrng x (tfl_mem.1 (show x ∈ tfl l d e by rw [h1]; simp)).1
        obtain ⟨sa, cs, rfl, hrs, _, _, _⟩ := ho.form
        obtain ⟨b, off, z, rfl, hb, hc0, hz⟩ := hrs.get (k := 0) (by simp)
        have hz2 : x = z := hz.out
        subst hz2
        obtain ⟨X, rfl⟩ : ∃ X : Nat, x = X := ⟨x.toNat, by omega⟩
        rw [Int.toNat_natCast] at hR
        rw [Nat.add_zero] at hc0
        have cn := fun wx => number_any X wx (by omega)
        rw [← hR] at cn
        have CN := Lib.hid cn
        rw [show ([(X : Int)] : List Int).length = 1 from rfl]
        clear h1 REC ho hR cn hrs
        go_wp2_with fail
        refine (CN.out _).mono ?_
        rintro en w' ⟨rfl, rfl⟩
        go_wp2
        go_ret
        exact ⟨rfl, hB⟩
      · obtain ⟨P, A, B, ⟨hP1, hP2⟩, hd5, hA, hBl, hR, c1, c2, cp⟩ := REC.out h2
        obtain ⟨T, hT⟩ : ∃ T, T = tfl l d e := ⟨_, rfl⟩
        rw [← hT] at ho h2
        obtain ⟨sa, cs, rfl, _, _, _, _⟩ := ho.form
        have hT0 : ((T.length : Int) == 0) = false := by rw [beq_eq_false_iff_ne]; omega
        have hT1 : ((T.length : Int) == 1) = false := by rw [beq_eq_false_iff_ne]; omega
        have C1 := Lib.hid c1
        have C2 := Lib.hid c2
        have CP := Lib.hid cp
        subst hR
        clear REC c1 c2 cp ho hT
        go_wp2_with fail
        refine (C1.out _ hrw2).mono ?_
        rintro en w3 ⟨rfl, b3⟩
        have hrw3 := hrw2.below b3
        have B3 := hB.trans (b3.mono hB.size)
        clear b3 hrw2 hB
        go_wp2_with fail
        refine (CP.out _).mono ?_
        rintro en w' ⟨rfl, rfl⟩
        go_wp2_with fail
        refine (C2.out _ hrw3).mono ?_
        rintro en w4 ⟨rfl, b4⟩
        have B4 := B3.trans (b4.mono B3.size)
        go_wp2
        go_ret
        exact ⟨by rw [← B8_app, ← B8_app, ← B8_app, ← B8_app]; rfl, B4⟩
theorem trie_any (a : Option Addr) (l : List Int) (cap : Nat) (hv : VNm l = true) : ∀ f, TRc a l cap f := by
  intro f
  induction f with
  | zero => exact trie_step a l cap 0 hv (fun g h => by omega)
  | succ f ih =>
    refine trie_step a l cap (f + 1) hv (fun g h => ?_)
    obtain rfl : f = g := by omega
    exact ih
theorem specTreeText_any (a : Option Addr) (l : List Int) (cap : Nat) (w : World) (hr : Reads w a l) (hl : l.length ≤ 1048586) (hcap : l.length ≤ cap) :
    Calls Tryz.prog 10 #[.slice a l.length cap] w fun e w' => e = .returned (.string (B8 (TXT l))) ∧ Below w.heap.size w w' := by
  have cv := specvalidNames_any a l cap w hr hl hcap
  cases hV : VNm l with
  | false =>
    have hR : TXT l = [] := by unfold TXT; rw [hV]; rfl
    rw [hV] at cv
    rw [hR]
    clear hV hR
    go_enter Tryz.func10, Tryz.ntmps10
    go_wp2_with fail
    refine cv.mono ?_
    rintro e w1 ⟨rfl, n, rfl⟩
    go_wp2
    go_ret
    exact ⟨rfl, below_drewN (Below.refl _ _) n⟩
  | true =>
    have hR : TXT l = ttr l 6 0 0 := by unfold TXT; rw [hV]; rfl
    have ct := trie_any a l cap hV 6 0 0 rfl (by simp)
    rw [hV] at cv
    rw [← hR, Int.natCast_zero] at ct
    have CT := Lib.hid ct
    obtain ⟨X, hX⟩ : ∃ X, X = TXT l := ⟨_, rfl⟩
    rw [← hX] at CT ⊢
    clear hV hR ct hX
    go_enter Tryz.func10, Tryz.ntmps10
    go_wp2_with fail
    refine cv.mono ?_
    rintro e w1 ⟨rfl, n, rfl⟩
    have b1 := below_drewN (Below.refl w.heap.size w) n
    go_wp2_with fail
    refine (CT.out _ (hr.below b1)).mono ?_
    rintro e w2 ⟨rfl, b2⟩
    go_wp2
    go_ret
    exact ⟨rfl, b1.trans (b2.mono b1.size)⟩
end Go.Proofs.YtoaiaindcmihjaaGreatDoor
