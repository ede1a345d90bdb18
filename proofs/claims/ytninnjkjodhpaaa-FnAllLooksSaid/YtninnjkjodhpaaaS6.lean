/-
  spec.homesFrom, spec.AllLooks.
-/
import Derived.Test.YtninnjkjodhpaaaM6
import Derived.Test.YtninnjkjodhpaaaS1
namespace Go.Proofs.Ytninnjkjodhpaaa
open Go.RowKit

set_option maxHeartbeats 1000000 in
theorem homesFrom_any (M N : Nat) (h1 : 1 ≤ M) (h2 : M ≤ 5) (hN : N ≤ M) (k : Nat) : ∀ (b n cap : Nat) (hs : List Int) (w : World), hs.length = n → n + k = N → CellsAt w b 0 hs → b < w.heap.size → (∀ x ∈ hs, 0 ≤ x ∧ x < (M : Int)) →
    Calls Try.prog 69 #[.int .i64 M, .int .i64 N, .slice (some ⟨b, 0, none⟩) n cap] w fun e w' => e = .returned (.int .i64 (HF M k hs)) ∧ Below w.heap.size w w' := by
  induction k with
  | zero =>
    intro b n cap hs w hn hk hc hb hf
    subst hn
    have he : ((hs.length : Int) == (N : Int)) = true := by simp; omega
    have hH := homes_of h1 (by omega) (by omega) hf
    have hr : Reads w (some ⟨b, 0, none⟩) hs := .inr ⟨b, 0, rfl, hb, hc⟩
    go_enter Try.func69, Try.ntmps69
    go_wp2_with fail
    refine (linear_any M _ _ _ _ hr hH).mono ?_
    rintro e w' ⟨v, rfl, _, hb⟩
    go_wp2
    go_ret
    exact ⟨rfl, hb⟩
  | succ k ih =>
    intro b n cap hs w hn hk hc hb hf
    subst hn
    have he : ((hs.length : Int) == (N : Int)) = false := by simp; omega
    have hIH := Lib.hid ih
    have hsl : hs.length ≤ 5 := by omega
    clear ih
    have hbd := fun x (hx : x ≤ M) => Nat.le_trans (sumN_mono hx (f := fun x => HF M k (hs ++ [(x : Int)]))) (HF_le h1 h2 (k + 1) hs (by omega) hf)
    have h5 : (5 : Nat) ^ (k + 1) * 50 ≤ 1000000 := by
      have : (5 : Nat) ^ (k + 1) ≤ 5 ^ 5 := Nat.pow_le_pow_right (by omega) (by omega)
      omega
    have HBD := Lib.hid hbd
    have H5 := Lib.hid h5
    have HK := Lib.hid hk
    obtain ⟨i0, hi, hz0, hz1, hz2⟩ := info_parts infoInt
    clear hbd h5 hk
    go_enter Try.func69, Try.ntmps69
    go_wp2
    go_loopw [9, 10] (fun s i wr => ∃ x : Nat, x ≤ M ∧ i = .int .i64 x ∧ s = .int .i64 (sumN x (fun x => HF M k (hs ++ [(x : Int)]))) ∧ Below w.heap.size w wr) (fun _ i _ => M - (intOf i).toNat)
    case atStart => exact ⟨0, Nat.zero_le _, rfl, rfl, Below.refl _ _⟩
    case round =>
      obtain ⟨x, hx, rfl, rfl, hB⟩ := hrel
      by_cases hlt : x < M
      · have hlim := Nat.le_trans (HBD.out x hx) H5.out
        have hlim2 := Nat.le_trans (HBD.out (x + 1) (by omega)) H5.out
        rw [sumN] at hlim2
        have hcr : CellsAt wr b 0 hs := hc.below hB hb
        have hbr : b < wr.heap.size := Nat.lt_of_lt_of_le hb hB.size
        have ho := Own.lit0 wr wr.heap.size (Nat.le_refl _)
        have hcell : ∀ j u, (hs.map (Value.int .i64))[j]? = some u → (wr.alloc (.cells #[] 3)).cell? ((⟨b, 0, none⟩ : Addr).add j) = some u := by
          intro j u hu
          have hj : j < hs.length := by simpa using (List.getElem?_eq_some_iff.1 hu).1
          rw [getD_map hj] at hu
          obtain rfl := Option.some.inj hu
          rw [Addr.add_lit, World.cell?_alloc_past _ _ _ hbr]
          exact hcr j hj
        go_wp2_with (at_builtin; refine wpList_append_own _ rfl (.tmp 30) (.tmp 31) 23 rfl wr.heap.size 3 i0 (.int .i64 0) 1 8 Try.underlying23 hi hz0 hz1 hz2 rfl (by decide) _ _ _ rfl ho ⟨b, 0, none⟩ hs.length cap (hs.map (Value.int .i64)) rfl (by simp) hcell (ints_oneCell _ _) (by unfold maxLen; simp; omega) (by simp; omega) (by simp) ?_)
        intro v' w1 g1 g2 g3
        have B1 : Below wr.heap.size wr w1 := ((Below.refl _ _).alloc (Nat.le_refl _) _).grown g2 (by simp) (fun q hq => by simp [Value.ownBlock] at hq; omega)
        have z1 := B1.size
        clear g2 g3 hcell ho
        go_wp2_with (at_builtin; refine push_int rfl (.tmp 32) (.tmp 34) rfl wr.heap.size v' hs (x : Int) rfl g1 rfl (by omega) z1 ?_)
        intro v2 w2 o2 n2 gr2
        have B2 := Below.grownB B1 g1 gr2 z1 (Nat.le_refl _)
        obtain ⟨g, cap2, rfl, ht2⟩ := o2.tab (by simp)
        have hcc : CellsAt w2 g 0 (hs ++ [(x : Int)]) := by
          intro i hi
          obtain ⟨y, e1, e2⟩ := ht2.get (k := i) hi
          rw [Nat.zero_add, e1, e2.out]
        have hgb := ht2.block.2
        have hf2 : ∀ y ∈ hs ++ [(x : Int)], 0 ≤ y ∧ y < (M : Int) := by
          intro y hy
          rcases List.mem_append.1 hy with hy | hy
          · exact hf y hy
          · simp at hy; omega
        clear g1 gr2 n2 o2 ht2
        go_wp2_with fail
        refine (hIH.out g _ cap2 (hs ++ [(x : Int)]) w2 (by simp) (by have := HK.out; omega) hcc hgb hf2).mono ?_
        rintro e w3 ⟨rfl, B3⟩
        have B4 := (hB.trans (B2.mono hB.size)).trans (B3.mono (Nat.le_trans hB.size B2.size))
        clear hlim B1 B2 B3 hcc hcr
        go_wp2
        go_roundw
        case rel => exact ⟨x + 1, by omega, by go_num, by rw [sumN]; go_num, B4⟩
        case measure => simp [intOf]; omega
      · obtain rfl : x = M := by omega
        go_wp2
        go_ret
        exact ⟨ret_int (by rw [HF]), hB⟩

set_option maxHeartbeats 1000000 in
theorem specAllLooks_any (m n : Int) (w : World) (hm : In64 m) (hn : In64 n) :
    Calls Try.prog 43 #[.int .i64 m, .int .i64 n] w fun e w' => e = .returned (.int .i64 (AL m n)) ∧ Below w.heap.size w w' := by
  by_cases h1 : 1 ≤ m ∧ m ≤ 5
  · by_cases h2 : 0 ≤ n ∧ n ≤ m
    · obtain ⟨M, rfl⟩ := Int.eq_ofNat_of_zero_le (show 0 ≤ m by omega)
      obtain ⟨N, rfl⟩ := Int.eq_ofNat_of_zero_le (show 0 ≤ n by omega)
      have e1 := inR_yes h1.1 h1.2
      have e2 := inR_yes h2.1 h2.2
      have hA : AL M N = HF M N [] := by unfold AL; rw [if_pos ⟨h1.1, h1.2, h2.1, h2.2⟩]; simp
      rw [hA]
      have hcc : CellsAt (w.alloc (.cells #[] 3)) w.heap.size 0 [] := fun i hi => by simp at hi
      go_enter Try.func43, Try.ntmps43
      go_wp2_with (go_at_call 68; refine (inRange_any _ _ _ _).mono ?_; rintro e w' ⟨rfl, rfl⟩)
      refine (homesFrom_any M N (by omega) (by omega) (by omega) N w.heap.size 0 0 [] _ rfl (by omega) hcc (by simp) (by simp)).mono ?_
      rintro e w3 ⟨rfl, B3⟩
      go_wp2
      go_ret
      exact ⟨rfl, ((Below.refl _ _).alloc (Nat.le_refl _) _).trans (B3.mono (by simp))⟩
    · have e1 := inR_yes h1.1 h1.2
      have e2 : inR n 0 m = false := by
        by_cases h : 0 ≤ n
        · exact inR_no2 (by omega)
        · exact inR_no1 (by omega)
      have hA : AL m n = -1 := by unfold AL; rw [if_neg (by omega)]
      rw [hA]
      go_enter Try.func43, Try.ntmps43
      go_wp2_with (go_at_call 68; refine (inRange_any _ _ _ _).mono ?_; rintro e w' ⟨rfl, rfl⟩)
      go_ret
      exact ⟨rfl, Below.refl _ _⟩
  · have e1 : inR m 1 5 = false := by
      by_cases h : 1 ≤ m
      · exact inR_no2 (by omega)
      · exact inR_no1 (by omega)
    have hA : AL m n = -1 := by unfold AL; rw [if_neg (by omega)]
    rw [hA]
    go_enter Try.func43, Try.ntmps43
    go_wp2_with (go_at_call 68; refine (inRange_any _ _ _ _).mono ?_; rintro e w' ⟨rfl, rfl⟩)
    go_ret
    exact ⟨rfl, Below.refl _ _⟩
end Go.Proofs.Ytninnjkjodhpaaa
