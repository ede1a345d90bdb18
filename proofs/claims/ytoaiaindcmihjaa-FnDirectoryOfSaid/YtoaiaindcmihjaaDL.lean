/-
  Chapter 6's draws: names.
-/
import Derived.Test.YtoaiaindcmihjaaD5
namespace Go.Proofs.Ytoaiaindcmihjaa
open Go.RowKit

/-- Some number is not among fewer than 64: how far it is. -/
theorem next_freeN (l : List Int) (x : Int) (hx : 0 ≤ x ∧ x ≤ 63) (hl : l.length ≤ 20) : ∃ D : Nat, D ≤ 63 ∧ (x + D) % 64 ∉ l ∧ ∀ d : Nat, d < D → (x + d) % 64 ∈ l := by
  have hex : ∃ D : Nat, D ≤ 63 ∧ (x + D) % 64 ∉ l := by
    apply Classical.byContradiction
    intro hn
    have := php 63 l (fun d => (x + d) % 64) (fun i j a b e => by have e' : (x + i) % 64 = (x + j) % 64 := e; omega) (fun i a => Classical.byContradiction fun h => hn ⟨i, a, h⟩)
    omega
  have key : ∀ n : Nat, (∃ D : Nat, D ≤ n ∧ D ≤ 63 ∧ (x + D) % 64 ∉ l) → ∃ D : Nat, D ≤ 63 ∧ (x + D) % 64 ∉ l ∧ ∀ d : Nat, d < D → (x + d) % 64 ∈ l := by
    intro n
    induction n with
    | zero =>
      rintro ⟨D, h1, h2, h3⟩
      exact ⟨D, h2, h3, fun d hd => by omega⟩
    | succ n ih =>
      rintro ⟨D, h1, h2, h3⟩
      by_cases e : ∃ D : Nat, D ≤ n ∧ D ≤ 63 ∧ (x + D) % 64 ∉ l
      · exact ih e
      · refine ⟨D, h2, h3, fun d hd => Classical.byContradiction fun h => e ⟨d, by omega, by omega, h⟩⟩
  obtain ⟨D, h1, h2⟩ := hex
  exact key D ⟨D, Nat.le_refl _, h1, h2⟩

set_option maxHeartbeats 8000000 in
set_option maxRecDepth 100000 in
theorem someNames_any (g p : Nat) (w : World) (hR : Rdr w g p) (hp : p ≤ 900000) :
    Calls Try.prog 37 #[.pointer (some ⟨g, 0, none⟩)] w fun e w' => ∃ (v : Value) (l : List Int) (q : Nat), e = .returned v ∧ Own w' w.heap.size v l ∧ l.length ≤ 15 ∧ (∀ x ∈ l, -1 ≤ x ∧ x ≤ 64) ∧ Rdr w' g q ∧ q ≤ p + 100 ∧ w.grownBy w' (some g) := by
  have zg := hR.lt
  go_enter Try.func37, Try.ntmps37
  have ho1 : Own (w.alloc (.cells #[] 3)) w.heap.size (.slice (some ⟨w.heap.size, 0, none⟩) 0 0) [] := (Own.lit0 w w.heap.size (Nat.le_refl _))
  have hR2 := hR.below ((Below.refl w.heap.size w).alloc (Nat.le_refl _) (.cells #[] 3))
  have hg2 := World.grownBy_alloc w (.cells #[] 3) (some g)
  obtain ⟨w0, e0⟩ : ∃ w0, w0 = w.alloc (.cells #[] 3) := ⟨_, rfl⟩
  rw [← e0] at ho1 hR2 hg2
  have E0 := Lib.hid e0
  have z0 : w0.heap.size = w.heap.size + 1 := by rw [e0]; simp
  have hone := one_lit g p w0 [5, 6, 4, 8, 3, 12, 2, 1, 0] 9 hR2 (by omega) (by simp) (by simp) rfl
  rw [z0] at hone
  have HONE := Lib.hid hone
  clear e0 hR hR2 hone
  go_wp2_with fail
  rw [← E0.out]
  refine HONE.out.mono ?_
  rintro e w2 ⟨nn, rfl, hnn, hR3, hg3⟩
  have hnn2 : nn ≤ 12 := by simp at hnn; omega
  have ho2 := ho1.kept hg3 (by simp [Value.ownBlock]; omega)
  have hg4 := grownBy_trans hg2 hg3
  clear hnn hg3 hg2 ho1 HONE
  go_wp2
  go_loopg [3] 13 (fun n v wr => ∃ (l : List Int) (q : Nat), l.length + n = 13 ∧ Own wr w.heap.size v l ∧ (∀ x ∈ l, -1 ≤ x ∧ x ≤ 64) ∧ Rdr wr g q ∧ q ≤ p + 1 + 4 * l.length ∧ w.grownBy wr (some g))
  case atStart => exact ⟨[], p + 1, by simp, ho2, by simp, hR3, by simp, hg4⟩
  case round =>
    clear ho2 hR3 hg4
    obtain ⟨l, q, hln, ho, hsm, hR, hq, hg⟩ := hrel
    obtain ⟨a5, c5, rfl, hrd, hlc, hcm, hblk⟩ := ho.form
    have hz := hg.size
    have HLN := Lib.hid hln
    have hl7 : l.length ≤ 13 := by omega
    have HSM := Lib.hid hsm
    clear hln hblk hcm hsm
    by_cases hlt : (l.length : Int) < nn
    · go_wp2_with fail
      refine (pick_any g q _ _ hR (by omega) (by omega)).mono ?_
      rintro e wb ⟨y1, rfl, hy1, hRb, hgb⟩
      have hy1' := hy1.1 (by omega)
      replace ho := ho.kept hgb (ho.ne_g zg)
      replace hg := grownBy_trans hg hgb
      clear hy1 hgb hR
      go_wp2_with fail
      refine (pick_any g (q + 1) _ _ hRb (by omega) (by omega)).mono ?_
      rintro e wc ⟨y2, rfl, hy2, hRc, hgc⟩
      have hy2' := hy2.1 (by omega)
      replace ho := ho.kept hgc (ho.ne_g zg)
      replace hg := grownBy_trans hg hgc
      have e8 : IntKind.i64.wrap (8 * y2) = 8 * y2 := IntWalk.i64_in _ (by omega)
      clear hy2 hgc hRb
      go_wp2_with fail
      refine (pick_any g (q + 1 + 1) _ _ hRc (by omega) (by omega)).mono ?_
      rintro e wd ⟨y3, rfl, hy3, hRd, hgd⟩
      have hy3' := hy3.1 (by omega)
      replace ho := ho.kept hgd (ho.ne_g zg)
      replace hg := grownBy_trans hg hgd
      clear hy3 hgd hRc
      go_wp2_with fail
      refine (one_lit g (q + 1 + 1 + 1) wd [y1, 8 * y2, y3] 3 hRd (by omega) (by simp) (by simp) rfl).mono ?_
      rintro e wa ⟨x1, rfl, hx1, hRa, hga⟩
      have hx1' : 0 ≤ x1 ∧ x1 ≤ 63 := by simp at hx1; omega
      replace ho := ho.kept hga (ho.ne_g zg)
      replace hg := grownBy_trans hg hga
      have hza := hg.size
      have hrd2 := ho.reads
      have hR := hRd
      clear hRd
      obtain ⟨D, hD, hno, hin⟩ := next_freeN l x1 (by omega) (by omega)
      have HNO := Lib.hid hno
      have HIN := Lib.hid hin
      clear hx1 hga hR hrd hno hin
      obtain ⟨gko, hgko⟩ : ∃ y, y = gk := ⟨_, rfl⟩
      rw [← hgko] at HLN
      have hgk1 : 1 ≤ gk := by have := HLN.out; omega
      rw [← hgko] at hgk1
      have HGK := Lib.hid hgko
      clear hgko
      have hx30 : Hid (x1 = (x1 + (0 : Nat)) % 64) := by show x1 = (x1 + (0 : Nat)) % 64; omega
      go_wp2_with fail
      go_loopg [5] D (fun n s wr => ∃ d : Nat, d + n = D ∧ s = .int .i64 ((x1 + d) % 64) ∧ wr = wa)
      case atStart => exact ⟨0, by omega, by rw [← hx30.out], rfl⟩
      case round =>
        obtain ⟨d, hdn, rfl, rfl⟩ := hrel
        have hDN := Lib.hid hdn
        have hdD : d ≤ D := by omega
        clear hdn
        obtain ⟨X, hX⟩ : ∃ X, X = (x1 + d) % 64 := ⟨_, rfl⟩
        have hXr : 0 ≤ X ∧ X ≤ 63 := by omega
        have hXs : (X + 1) % 64 = (x1 + (d + 1 : Nat)) % 64 := by omega
        have hh := has_any a5 l l.length c5 X wr hrd2 rfl (by omega)
        rw [← hX]
        by_cases e : d = D
        · have hI : inL l X = false := inL_no (by rw [hX, e]; exact HNO.out)
          rw [hI] at hh
          have HH := Lib.hid hh
          clear e hI hh hX hXs
          go_wp2_with fail
          refine HH.out.mono ?_
          rintro e w' ⟨rfl, rfl⟩
          go_wp2_with (at_builtin; refine push_int rfl (.tmp 30) (.tmp 32) rfl w.heap.size _ l X rfl ho rfl (by omega) hza ?_)
          intro v' we oe ne ge
          have hRe := hRa.kept ge (fun k hk => by have := (ho.lt k hk).1; omega)
          have hge := grownBy_own hg ho (Nat.le_refl _) ge
          have hsm2 : ∀ x ∈ l ++ [X], -1 ≤ x ∧ x ≤ 64 := by
            intro x hx
            rcases List.mem_append.1 hx with h | h
            · exact HSM.out x h
            · simp only [List.mem_singleton] at h; subst h; omega
          clear ge ho hg hRa
          go_wp2
          go_roundg (gko - 1)
          case measure => have := HGK.out; omega
          case rel => exact ⟨l ++ [X], q + 1 + 1 + 1 + 1, by have := HLN.out; simp; omega, oe, hsm2, hRe, by simp; omega, hge⟩
        · have hI : inL l X = true := inL_yes (by rw [hX]; exact HIN.out d (by omega))
          rw [hI] at hh
          have HH := Lib.hid hh
          have HXS := Lib.hid hXs
          clear hI hh hX hXs
          go_wp2_with fail
          refine HH.out.mono ?_
          rintro e w' ⟨rfl, rfl⟩
          go_wp2
          go_roundg (gk - 1)
          case measure => have := hDN.out; omega
          case rel => exact ⟨d + 1, by have := hDN.out; omega, by rw [← HXS.out], rfl⟩
    · clear hrd
      go_wp2_with fail
      refine (pick_any g q _ _ hR (by omega) (by omega)).mono ?_
      rintro e wa ⟨x1, rfl, hx1, hRa, hga⟩
      replace ho := ho.kept hga (ho.ne_g zg)
      replace hg := grownBy_trans hg hga
      have hza := hg.size
      have hga2 := hRa.lt
      clear hx1 hga hR
      by_cases hx0 : x1 = 0
      · have hd2 : (x1 == 0) = true := by simp [hx0]
        clear hx0
        go_wp2_with fail
        refine (one_lit g (q + 1) wa [64, -1] 2 hRa (by omega) (by simp) (by simp) rfl).mono ?_
        rintro e wb ⟨z, rfl, hzz, hR3, hg3⟩
        have hz2 : -1 ≤ z ∧ z ≤ 64 := by simp at hzz; omega
        have hob := ho.kept hg3 (ho.ne_g zg)
        have hgb := grownBy_trans hg hg3
        have hzb := hgb.size
        clear hzz hg3 ho hg hRa
        go_wp2_with (at_builtin; refine push_int rfl (.tmp 38) (.tmp 42) rfl w.heap.size (.slice a5 l.length c5) l z rfl hob rfl (by omega) hzb ?_)
        intro v' we oe ne ge
        have hRe := hR3.kept ge (fun k hk => by have := (hob.lt k hk).1; omega)
        have hge := grownBy_own hgb hob (Nat.le_refl _) ge
        have hsm2 : ∀ x ∈ l ++ [z], -1 ≤ x ∧ x ≤ 64 := by
          intro x hx
          rcases List.mem_append.1 hx with h | h
          · exact HSM.out x h
          · simp only [List.mem_singleton] at h; subst h; omega
        clear ge hob hgb hR3
        go_wp2
        go_ret
        exact ⟨v', _, _, rfl, oe, by simp; omega, hsm2, hRe, by omega, hge⟩
      by_cases hx01 : x1 = 1
      · have hd2 : (x1 == 0) = false := by simpa using hx0
        have hd3 : (x1 == 1) = true := by simp [hx01]
        clear hx0 hx01
        go_wp2_with (at_builtin; refine push_two rfl (.tmp 46) (.tmp 47) rfl w.heap.size (.slice a5 l.length c5) l 5 5 rfl ho rfl (by omega) hza ?_)
        intro v' we oe ne ge
        have hRe := hRa.kept ge (fun k hk => by have := (ho.lt k hk).1; omega)
        have hge := grownBy_own hg ho (Nat.le_refl _) ge
        have hs2 : ∀ x ∈ l ++ [5, 5], -1 ≤ x ∧ x ≤ 64 := by
          intro x hx
          rcases List.mem_append.1 hx with h | h
          · exact HSM.out x h
          · simp at h; subst h; omega
        clear ge ho hg hRa
        go_wp2
        go_ret
        exact ⟨v', _, _, rfl, oe, by simp; omega, hs2, hRe, by omega, hge⟩
      · have hd2 : (x1 == 0) = false := by simpa using hx0
        have hd3 : (x1 == 1) = false := by simpa using hx01
        clear hx0 hx01
        go_wp2
        go_ret
        exact ⟨_, l, _, rfl, ho, by omega, HSM.out, hRa, by omega, hg⟩

set_option maxHeartbeats 4000000 in
theorem drawBucketsOf_any (a : Option Addr) (n cap : Nat) (w : World) (hB : Bytes w w.heap.size a n) (hn : n ≤ 9223372036854775807) (hc : n ≤ cap) :
    Calls Try.prog 11 #[.slice a n cap] w fun e w' => ∃ (v : Value) (l : List Int) (m : Int), e = .returned (.tuple #[v, .int .i64 m]) ∧ (0 ≤ m ∧ m ≤ 5) ∧ Own w' w.heap.size v l ∧ l.length ≤ 15 ∧ (∀ x ∈ l, -1 ≤ x ∧ x ≤ 64) ∧ Below w.heap.size w w' := by
  go_enter Try.func11, Try.ntmps11
  go_wp2_with fail
  refine (newReader_any a n cap w hB hn hc).mono ?_
  rintro e w1 ⟨rfl, R1, B1, s1⟩
  clear hB hn hc
  have z1 := B1.size
  go_wp2_with fail
  refine (someNames_any w.heap.size 0 w1 R1 (by omega)).mono ?_
  rintro e w2 ⟨v, l, q, rfl, o2, hl, hx, R2, hq, g2⟩
  have B2 := B1.grown g2 B1.size (fun k hk => by cases hk; exact Nat.le_refl _)
  have zz := R1.lt
  obtain ⟨a2, c2, rfl, _, _, _, _⟩ := o2.form
  clear R1 g2
  go_wp2_with fail
  refine (one_lit w.heap.size q w2 [2, 1, 3, 4, 0, 5] 6 R2 (by omega) (by simp) (by simp) rfl).mono ?_
  rintro e w3 ⟨m, rfl, hm, R3, g3⟩
  have hm2 : 0 ≤ m ∧ m ≤ 5 := by simp at hm; omega
  have B3 := B2.grown g3 B2.size (fun k hk => by cases hk; exact Nat.le_refl _)
  have o3 := o2.kept g3 (o2.ne_g zz)
  clear hm g3 R2 o2
  go_wp2
  go_ret2
  exact ⟨_, l, m, rfl, hm2, o3.mono z1, hl, hx, B3⟩
set_option maxHeartbeats 4000000 in
theorem drawDirectoryOf_any (a : Option Addr) (n cap : Nat) (w : World) (hB : Bytes w w.heap.size a n) (hn : n ≤ 9223372036854775807) (hc : n ≤ cap) :
    Calls Try.prog 19 #[.slice a n cap] w fun e w' => ∃ (v : Value) (l : List Int) (m : Int), e = .returned (.tuple #[v, .int .i64 m]) ∧ (0 ≤ m ∧ m ≤ 5) ∧ Own w' w.heap.size v l ∧ l.length ≤ 15 ∧ (∀ x ∈ l, -1 ≤ x ∧ x ≤ 64) ∧ Below w.heap.size w w' := by
  go_enter Try.func19, Try.ntmps19
  go_wp2_with fail
  refine (newReader_any a n cap w hB hn hc).mono ?_
  rintro e w1 ⟨rfl, R1, B1, s1⟩
  clear hB hn hc
  have z1 := B1.size
  go_wp2_with fail
  refine (someNames_any w.heap.size 0 w1 R1 (by omega)).mono ?_
  rintro e w2 ⟨v, l, q, rfl, o2, hl, hx, R2, hq, g2⟩
  have B2 := B1.grown g2 B1.size (fun k hk => by cases hk; exact Nat.le_refl _)
  have zz := R1.lt
  obtain ⟨a2, c2, rfl, _, _, _, _⟩ := o2.form
  clear R1 g2
  go_wp2_with fail
  refine (one_lit w.heap.size q w2 [2, 1, 3, 4, 0, 5] 6 R2 (by omega) (by simp) (by simp) rfl).mono ?_
  rintro e w3 ⟨m, rfl, hm, R3, g3⟩
  have hm2 : 0 ≤ m ∧ m ≤ 5 := by simp at hm; omega
  have B3 := B2.grown g3 B2.size (fun k hk => by cases hk; exact Nat.le_refl _)
  have o3 := o2.kept g3 (o2.ne_g zz)
  clear hm g3 R2 o2
  go_wp2
  go_ret2
  exact ⟨_, l, m, rfl, hm2, o3.mono z1, hl, hx, B3⟩
end Go.Proofs.Ytoaiaindcmihjaa
