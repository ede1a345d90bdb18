/-
  spec.DrawFilterOf.
-/
import Derived.Test.YtbldfhfciihddabD0
import Derived.Test.YtbldfhfciihddabDt
import Derived.Test.YtbldfhfciihddabD4
namespace Go.Proofs.Ytbldfhfciihddab
open Go.RowKit

theorem one_litR (g p : Nat) (w : World) (l : List Int) (n : Nat) (hR : Rdr w g p) (hp : p ≤ 1000000) (h0 : 0 < l.length) (hl : l.length ≤ 1000000) (hn : l.length = n) :
    Calls Try.prog 21 #[.pointer (some ⟨g, 0, none⟩), .slice (some ⟨w.heap.size, 0, none⟩) n n] (w.alloc (.cells (l.map (Value.int .i64)).toArray 3)) fun e w' => ∃ y, e = .returned (.int .i64 y) ∧ y ∈ l ∧ Rdr w' g (p + 1) ∧ w.grownBy w' (some g) := by
  have hlt := hR.lt
  refine (one_any g p w.heap.size n l _ (hR.below ((Below.refl _ _).alloc (Nat.le_refl _) _)) hp (CellsAt.lit w l) hlt h0 hl n hn).mono ?_
  rintro e w' ⟨y, rfl, hy, hR', hg⟩
  exact ⟨y, rfl, hy, hR', grownBy_trans (World.grownBy_alloc w _ _) hg⟩

set_option maxHeartbeats 8000000 in
theorem drawFilterOf_any (a : Option Addr) (n cap : Nat) (w : World) (hB : Bytes w w.heap.size a n) (hn : n ≤ 9223372036854775807) (hc : n ≤ cap) :
    Calls Try.prog 5 #[.slice a n cap] w fun e w' => ∃ (m : Int) (v : Value) (ts : List (List Int)) (pv : Value) (ps : List Int), e = .returned (.tuple #[.int .i64 m, v, pv]) ∧ (0 ≤ m ∧ m ≤ 11) ∧ OwnT w' w.heap.size v ts ∧ bulk ts ≤ 40 ∧ Own w' w.heap.size pv ps ∧ ps.length ≤ 50 ∧ (∀ x ∈ ps, -1 ≤ x ∧ x ≤ 256) ∧ Below w.heap.size w w' := by
  go_enter Try.func5, Try.ntmps5
  go_wp2_with fail
  refine (newReader_any a n cap w hB hn hc).mono ?_
  rintro e w1 ⟨rfl, hR0, hb1, hs1⟩
  have hz1 := hb1.size
  clear hB hn hc
  go_wp2_with fail
  refine (someTrips_any w.heap.size 0 w1 hR0 (by omega)).mono ?_
  rintro e w2 ⟨m, v, ts, q, rfl, hm, hOT, hl, hR2, hq, hgT⟩
  have zg := hR2.lt
  have zw2 := hgT.size
  have htl := bulk_len ts
  obtain ⟨av, cv, rfl, _, _, _⟩ := hOT.form
  have hb1 := hb1.grown hgT hb1.size (fun k hk => by cases hk; omega)
  have ho1 : Own (w2.alloc (.cells #[] 3)) w2.heap.size (.slice (some ⟨w2.heap.size, 0, none⟩) 0 0) [] := (Own.lit0 w2 w2.heap.size (Nat.le_refl _))
  have hR3 := hR2.below ((Below.refl w2.heap.size w2).alloc (Nat.le_refl _) (.cells #[] 3))
  have hg2 := World.grownBy_alloc w2 (.cells #[] 3) (some w.heap.size)
  clear hR0 hR2 hgT
  go_wp2
  go_loopg [8] (ts.length + 1) (fun n v wr => ∃ (l : List Int) (q : Nat), l.length + n = ts.length + 1 ∧ l.length ≤ ts.length ∧ Own wr w2.heap.size v l ∧ (∀ x ∈ l, -1 ≤ x ∧ x ≤ 256) ∧ Rdr wr w.heap.size q ∧ q ≤ 100 + l.length ∧ w2.grownBy wr (some w.heap.size))
  case atStart => exact ⟨[], q, by simp, by simp, ho1, by simp, hR3, by simp; omega, hg2⟩
  case round =>
    clear ho1 hR3 hg2 hq
    obtain ⟨l, q, hln, hlt, ho, hsm, hR, hq, hg⟩ := hrel
    obtain ⟨a5, c5, rfl, hrd, hlc, hcm, hblk⟩ := ho.form
    have hz := hg.size
    have HLN := Lib.hid hln
    have HSM := Lib.hid hsm
    clear hln hblk hcm hsm hrd
    by_cases hmore : l.length < ts.length
    · have i1 : (l.length : Int) < (ts.length : Int) := by omega
      go_wp2_with fail
      refine (pick_any w.heap.size q _ _ hR (by omega) (by omega)).mono ?_
      rintro e wa ⟨x1, rfl, hx1, hRa, hga⟩
      have hx1' := hx1.1 (by omega)
      replace ho := ho.kept hga (ho.ne_g zg)
      replace hg := grownBy_trans hg hga
      have hza := hg.size
      clear hx1 hga hR
      go_wp2_with (at_builtin; refine push_int rfl (.tmp 22) (.tmp 25) rfl w2.heap.size _ l x1 rfl ho rfl (by omega) hza ?_)
      intro v' we oe ne ge
      have hRe := hRa.kept ge (fun k hk => by have := (ho.lt k hk).1; omega)
      have hge := grownBy_own hg ho (Nat.le_refl _) ge
      have hsm2 : ∀ x ∈ l ++ [x1], -1 ≤ x ∧ x ≤ 256 := by
        intro x hx
        rcases List.mem_append.1 hx with h | h
        · exact HSM.out x h
        · simp only [List.mem_singleton] at h; subst h; omega
      clear ge ho hg hRa
      go_wp2
      go_roundg (gk - 1)
      case measure => have := HLN.out; omega
      case rel => exact ⟨l ++ [x1], q + 1, by have := HLN.out; simp; omega, by simp; omega, oe, hsm2, hRe, by simp; omega, hge⟩
    · have i1 : ¬ (l.length : Int) < (ts.length : Int) := by omega
      go_wp2_with fail
      refine (pick_any w.heap.size q _ _ hR (by omega) (by omega)).mono ?_
      rintro e wa ⟨x1, rfl, hx1, hRa, hga⟩
      replace ho := ho.kept hga (ho.ne_g zg)
      replace hg := grownBy_trans hg hga
      have hza := hg.size
      have hga2 := hRa.lt
      clear hx1 hga hR
      by_cases hx0 : x1 = 0
      · have hd2 : (x1 == 0) = true := by simp [hx0]
        clear hx0
        go_wp2_with (at_builtin; refine push_int rfl (.tmp 33) (.tmp 34) rfl w2.heap.size _ l 1 rfl ho rfl (by omega) hza ?_)
        intro v' we oe ne ge
        have hg := grownBy_own hg ho (Nat.le_refl _) ge
        have ho := oe
        have hsm2 : ∀ x ∈ l ++ [1], -1 ≤ x ∧ x ≤ 256 := by
          intro x hx
          rcases List.mem_append.1 hx with h | h
          · exact HSM.out x h
          · simp only [List.mem_singleton] at h; subst h; omega
        have B := hb1.grown hg hb1.size (fun k hk => by cases hk; omega)
        have T := (hOT.kept hg (fun k hk => by cases hk; omega)).baseLe hz1
        go_wp2
        go_ret3
        exact ⟨m, _, ts, _, l ++ [1], rfl, hm, T, hl, ho.mono (hb1.size), by simp; omega, hsm2, B⟩
      by_cases hx01 : x1 = 1
      · have hd2 : (x1 == 0) = false := by simpa using hx0
        have hd3 : (x1 == 1) = true := by simp [hx01]
        clear hx0 hx01
        by_cases h0 : l.length = 0
        · have g0 : ¬ (l.length : Int) > 0 := by omega
          have B := hb1.grown hg hb1.size (fun k hk => by cases hk; omega)
          have T := (hOT.kept hg (fun k hk => by cases hk; omega)).baseLe hz1
          go_wp2
          go_ret3
          exact ⟨m, _, ts, .slice a5 0 c5, l, rfl, hm, T, hl, (by rw [h0] at ho; exact ho : Own _ w2.heap.size _ l).mono (hb1.size), by omega, HSM.out, B⟩
        · have g0 : (l.length : Int) > 0 := by omega
          obtain ⟨gl, c6, e6, T6⟩ := ho.tab h0
          obtain ⟨rfl, rfl⟩ : a5 = some ⟨gl, 0, none⟩ ∧ c5 = c6 := by cases e6; exact ⟨rfl, rfl⟩
          go_wp2_with fail
          refine (one_litR w.heap.size (q + 1) wa [-1, 256] 2 hRa (by omega) (by simp) (by simp) rfl).mono ?_
          rintro e wb ⟨z, rfl, hzz, hR3, hg3⟩
          have hz2 : -1 ≤ z ∧ z ≤ 256 := by simp at hzz; omega
          have hng := ho.ne_g zg
          have hob := ho.kept hg3 hng
          have hgb := grownBy_trans hg hg3
          have hzb := hgb.size
          have T7 : Tab wb w2.heap.size gl l.length c5 l := World.ownsRow.kept T6 hg3 hng
          clear hzz hg3 ho hg hRa T6 hng
          have h00 : 0 < l.length := by omega
          obtain ⟨x0, hc0, _⟩ := T7.get h00
          have hf0 := T7.frozen 0
          have T8 := T7.store 0 z
          have gs := grownBy_setCell_any wb ⟨gl, 0, none⟩ (.int .i64 z)
          have hg := grownBy_own hgb hob (Nat.le_refl _) (show wb.grownBy _ (Value.slice (some ⟨gl, 0, none⟩) l.length c5).ownBlock from gs)
          have ho := T8.own
          have hsm2 : ∀ x ∈ l.set 0 z, -1 ≤ x ∧ x ≤ 256 := fun x hx => by
            rcases List.mem_or_eq_of_mem_set hx with h | h
            · exact HSM.out x h
            · subst h; exact hz2
          clear gs T7 T8 hob hgb hR3
          have B := hb1.grown hg hb1.size (fun k hk => by cases hk; omega)
          have T := (hOT.kept hg (fun k hk => by cases hk; omega)).baseLe hz1
          go_wp2
          go_ret3
          exact ⟨m, _, ts, _, l.set 0 z, rfl, hm, T, hl, ho.mono (hb1.size), by simp; omega, hsm2, B⟩
      · have hd2 : (x1 == 0) = false := by simpa using hx0
        have hd3 : (x1 == 1) = false := by simpa using hx01
        clear hx0 hx01
        have B := hb1.grown hg hb1.size (fun k hk => by cases hk; omega)
        have T := (hOT.kept hg (fun k hk => by cases hk; omega)).baseLe hz1
        go_wp2
        go_ret3
        exact ⟨m, _, ts, _, l, rfl, hm, T, hl, ho.mono (hb1.size), by omega, HSM.out, B⟩
end Go.Proofs.Ytbldfhfciihddab
