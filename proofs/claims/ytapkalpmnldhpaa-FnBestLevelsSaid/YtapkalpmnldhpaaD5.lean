/-
  Chapter 3's draws. (Written by gendraw.py.)
-/
import Derived.Test.YtapkalpmnldhpaaD0
import Derived.Test.YtapkalpmnldhpaaD1
import Derived.Test.YtapkalpmnldhpaaF1
import Derived.Deep.LoopGhost
namespace Go.Proofs.Ytapkalpmnldhpaa
open Go.RowKit

theorem one_lit (g p : Nat) (w : World) (l : List Int) (n : Nat) (hR : Rdr w g p) (hp : p ≤ 1000000) (h0 : 0 < l.length) (hl : l.length ≤ 1000000) (hn : l.length = n) :
    Calls Try.prog 75 #[.pointer (some ⟨g, 0, none⟩), .slice (some ⟨w.heap.size, 0, none⟩) n n] (w.alloc (.cells (l.map (Value.int .i64)).toArray 3)) fun e w' => ∃ y, e = .returned (.int .i64 y) ∧ y ∈ l ∧ Rdr w' g (p + 1) ∧ w.grownBy w' (some g) := by
  have hlt := hR.lt
  refine (one_any g p w.heap.size n l _ (hR.below ((Below.refl _ _).alloc (Nat.le_refl _) _)) hp (CellsAt.lit w l) hlt h0 hl n hn).mono ?_
  rintro e w' ⟨y, rfl, hy, hR', hg⟩
  exact ⟨y, rfl, hy, hR', grownBy_trans (World.grownBy_alloc w _ _) hg⟩

theorem php : ∀ (n : Nat) (l : List Int) (f : Nat → Int), (∀ i j, i ≤ n → j ≤ n → f i = f j → i = j) → (∀ i, i ≤ n → f i ∈ l) → n < l.length := by
  intro n
  induction n with
  | zero => intro l f _ h; exact List.length_pos_of_mem (h 0 (Nat.le_refl _))
  | succ n ih =>
    intro l f hi h
    have h1 := h (n + 1) (Nat.le_refl _)
    have h2 := ih (l.erase (f (n + 1))) f (fun i j a b => hi i j (by omega) (by omega)) (fun i a => by
      rw [List.mem_erase_of_ne]
      · exact h i (by omega)
      · intro e; have := hi i (n + 1) (by omega) (Nat.le_refl _) e; omega)
    rw [List.length_erase_of_mem h1] at h2
    omega
/-- Some number is not among fewer than 31: how far it is. -/
theorem next_free (l : List Int) (x : Int) (hx : 0 ≤ x ∧ x ≤ 30) (hl : l.length ≤ 20) : ∃ D : Nat, D ≤ 30 ∧ (x + D) % 31 ∉ l ∧ ∀ d : Nat, d < D → (x + d) % 31 ∈ l := by
  have hex : ∃ D : Nat, D ≤ 30 ∧ (x + D) % 31 ∉ l := by
    apply Classical.byContradiction
    intro hn
    have := php 30 l (fun d => (x + d) % 31) (fun i j a b e => by have e' : (x + i) % 31 = (x + j) % 31 := e; omega) (fun i a => Classical.byContradiction fun h => hn ⟨i, a, h⟩)
    omega
  have key : ∀ n : Nat, (∃ D : Nat, D ≤ n ∧ D ≤ 30 ∧ (x + D) % 31 ∉ l) → ∃ D : Nat, D ≤ 30 ∧ (x + D) % 31 ∉ l ∧ ∀ d : Nat, d < D → (x + d) % 31 ∈ l := by
    intro n
    induction n with
    | zero =>
      rintro ⟨D, h1, h2, h3⟩
      exact ⟨D, h2, h3, fun d hd => by omega⟩
    | succ n ih =>
      rintro ⟨D, h1, h2, h3⟩
      by_cases e : ∃ D : Nat, D ≤ n ∧ D ≤ 30 ∧ (x + D) % 31 ∉ l
      · exact ih e
      · refine ⟨D, h2, h3, fun d hd => Classical.byContradiction fun h => e ⟨d, by omega, by omega, h⟩⟩
  obtain ⟨D, h1, h2⟩ := hex
  exact key D ⟨D, Nat.le_refl _, h1, h2⟩

set_option maxHeartbeats 4000000 in
theorem someHash_any (g p : Nat) (w : World) (hR : Rdr w g p) (hp : p ≤ 900000) :
    Calls Try.prog 74 #[.pointer (some ⟨g, 0, none⟩)] w fun e w' => ∃ a b m : Int, e = .returned (.tuple #[.int .i64 a, .int .i64 b, .int .i64 m]) ∧ (0 ≤ a ∧ a ≤ 31) ∧ (-1 ≤ b ∧ b ≤ 31) ∧ (0 ≤ m ∧ m ≤ 32) ∧ Rdr w' g (p + 4) ∧ w.grownBy w' (some g) := by
  go_enter Try.func74, Try.ntmps74
  go_wp2_with fail
  refine (pick_any g (p + 0) _ _ hR (by omega) (by omega)).mono ?_
  rintro e wd1 ⟨y1, rfl, hy1, hR1, hg1⟩
  have hz1 := hy1.1 (by omega)
  clear hy1
  have hG1 := hg1
  have zg1 := hR1.lt
  clear hR hg1
  by_cases h0 : y1 = 0
  · have hd : (y1 == 0) = true := by simp [h0]
    clear h0
    go_wp2_with fail
    refine (one_lit g (p + 1) _ [0, 31] 2 hR1 (by omega) (by simp) (by simp) rfl).mono ?_
    rintro e wd2 ⟨y2, rfl, hy2, hR2, hg2⟩
    have hz2 : 0 ≤ y2 ∧ y2 ≤ 31 := by simp at hy2; omega
    clear hy2
    have hG2 := grownBy_trans hG1 hg2
    have zg2 := hR2.lt
    clear hR1 hg2 hG1
    go_wp2_with fail
    refine (one_lit g (p + 2) _ [(-1), 31] 2 hR2 (by omega) (by simp) (by simp) rfl).mono ?_
    rintro e wd3 ⟨y3, rfl, hy3, hR3, hg3⟩
    have hz3 : -1 ≤ y3 ∧ y3 ≤ 31 := by simp at hy3; omega
    clear hy3
    have hG3 := grownBy_trans hG2 hg3
    have zg3 := hR3.lt
    clear hR2 hg3 hG2
    go_wp2_with fail
    refine (one_lit g (p + 3) _ [0, 32] 2 hR3 (by omega) (by simp) (by simp) rfl).mono ?_
    rintro e wd4 ⟨y4, rfl, hy4, hR4, hg4⟩
    have hz4 : 0 ≤ y4 ∧ y4 ≤ 32 := by simp at hy4; omega
    clear hy4
    have hG4 := grownBy_trans hG3 hg4
    have zg4 := hR4.lt
    clear hR3 hg4 hG3
    go_wp2
    go_ret3
    exact ⟨_, _, _, rfl, by omega, by omega, by omega, hR4, hG4⟩
  · have hd : (y1 == 0) = false := by simpa using h0
    clear h0
    go_wp2_with fail
    refine (pick_any g (p + 1) _ _ hR1 (by omega) (by omega)).mono ?_
    rintro e wd2 ⟨y2, rfl, hy2, hR2, hg2⟩
    have hz2 := hy2.1 (by omega)
    clear hy2
    have hG2 := grownBy_trans hG1 hg2
    have zg2 := hR2.lt
    clear hR1 hg2 hG1
    go_wp2_with fail
    refine (pick_any g (p + 2) _ _ hR2 (by omega) (by omega)).mono ?_
    rintro e wd3 ⟨y3, rfl, hy3, hR3, hg3⟩
    have hz3 := hy3.1 (by omega)
    clear hy3
    have hG3 := grownBy_trans hG2 hg3
    have zg3 := hR3.lt
    clear hR2 hg3 hG2
    go_wp2_with fail
    refine (one_lit g (p + 3) _ [4, 5, 3, 8, 2, 1, 16, 31] 8 hR3 (by omega) (by simp) (by simp) rfl).mono ?_
    rintro e wd4 ⟨y4, rfl, hy4, hR4, hg4⟩
    have hz4 : 0 ≤ y4 ∧ y4 ≤ 32 := by simp at hy4; omega
    clear hy4
    have hG4 := grownBy_trans hG3 hg4
    have zg4 := hR4.lt
    clear hR3 hg4 hG3
    go_wp2
    go_ret3
    exact ⟨_, _, _, rfl, by omega, by omega, by omega, hR4, hG4⟩

set_option maxHeartbeats 8000000 in
set_option maxRecDepth 100000 in
theorem someKeys_any (g p : Nat) (w : World) (hR : Rdr w g p) (hp : p ≤ 900000) :
    Calls Try.prog 77 #[.pointer (some ⟨g, 0, none⟩)] w fun e w' => ∃ (v : Value) (l : List Int) (q : Nat), e = .returned v ∧ Own w' w.heap.size v l ∧ l.length ≤ 9 ∧ (∀ x ∈ l, -1 ≤ x ∧ x ≤ 31) ∧ Rdr w' g q ∧ w.grownBy w' (some g) := by
  have zg := hR.lt
  go_enter Try.func77, Try.ntmps77
  have ho1 : Own (w.alloc (.cells #[] 3)) w.heap.size (.slice (some ⟨w.heap.size, 0, none⟩) 0 0) [] := (Own.lit0 w w.heap.size (Nat.le_refl _))
  have hR2 := hR.below ((Below.refl w.heap.size w).alloc (Nat.le_refl _) (.cells #[] 3))
  have hg2 := World.grownBy_alloc w (.cells #[] 3) (some g)
  obtain ⟨w0, e0⟩ : ∃ w0, w0 = w.alloc (.cells #[] 3) := ⟨_, rfl⟩
  rw [← e0] at ho1 hR2 hg2
  have E0 := Lib.hid e0
  have z0 : w0.heap.size = w.heap.size + 1 := by rw [e0]; simp
  have hone := one_lit g p w0 [3, 4, 2, 5, 1, 0, 6] 7 hR2 (by omega) (by simp) (by simp) rfl
  rw [z0] at hone
  have HONE := Lib.hid hone
  clear e0 hR hR2 hone
  go_wp2_with fail
  rw [← E0.out]
  refine HONE.out.mono ?_
  rintro e w2 ⟨nn, rfl, hnn, hR3, hg3⟩
  have hnn2 : nn ≤ 6 := by simp at hnn; omega
  have ho2 := ho1.kept hg3 (by simp [Value.ownBlock]; omega)
  have hg4 := grownBy_trans hg2 hg3
  clear hnn hg3 hg2 ho1 HONE
  go_wp2
  go_loopg [3] 7 (fun n v wr => ∃ (l : List Int) (q : Nat), l.length + n = 7 ∧ Own wr w.heap.size v l ∧ (∀ x ∈ l, -1 ≤ x ∧ x ≤ 31) ∧ Rdr wr g q ∧ q ≤ p + 1 + l.length ∧ w.grownBy wr (some g))
  case atStart => exact ⟨[], p + 1, by simp, ho2, by simp, hR3, by simp, hg4⟩
  case round =>
    clear ho2 hR3 hg4
    obtain ⟨l, q, hln, ho, hsm, hR, hq, hg⟩ := hrel
    obtain ⟨a5, c5, rfl, hrd, hlc, hcm, hblk⟩ := ho.form
    have hz := hg.size
    have HLN := Lib.hid hln
    have hl7 : l.length ≤ 7 := by omega
    have HSM := Lib.hid hsm
    clear hln hblk hcm hsm
    by_cases hlt : (l.length : Int) < nn
    · go_wp2_with fail
      refine (pick_any g q _ _ hR (by omega) (by omega)).mono ?_
      rintro e wa ⟨x1, rfl, hx1, hRa, hga⟩
      have hx1' := hx1.1 (by omega)
      replace ho := ho.kept hga (ho.ne_g zg)
      replace hg := grownBy_trans hg hga
      have hza := hg.size
      have hrd2 := ho.reads
      obtain ⟨D, hD, hno, hin⟩ := next_free l x1 (by omega) (by omega)
      have HNO := Lib.hid hno
      have HIN := Lib.hid hin
      clear hx1 hga hR hrd hno hin
      obtain ⟨gko, hgko⟩ : ∃ y, y = gk := ⟨_, rfl⟩
      rw [← hgko] at HLN
      have hgk1 : 1 ≤ gk := by have := HLN.out; omega
      rw [← hgko] at hgk1
      have HGK := Lib.hid hgko
      clear hgko
      have hx30 : Hid (x1 = (x1 + (0 : Nat)) % 31) := by show x1 = (x1 + (0 : Nat)) % 31; omega
      go_wp2_with fail
      go_loopg [5] D (fun n s wr => ∃ d : Nat, d + n = D ∧ s = .int .i64 ((x1 + d) % 31) ∧ wr = wa)
      case atStart => exact ⟨0, by omega, by rw [← hx30.out], rfl⟩
      case round =>
        obtain ⟨d, hdn, rfl, rfl⟩ := hrel
        have hDN := Lib.hid hdn
        have hdD : d ≤ D := by omega
        clear hdn
        obtain ⟨X, hX⟩ : ∃ X, X = (x1 + d) % 31 := ⟨_, rfl⟩
        have hXr : 0 ≤ X ∧ X ≤ 30 := by omega
        have hXs : (X + 1) % 31 = (x1 + (d + 1 : Nat)) % 31 := by omega
        have hh := has_any a5 l l.length c5 X wr hrd2 rfl (by omega)
        rw [← hX]
        by_cases e : d = D
        · have hI : inL l X = false := inL_no (by rw [hX, e]; exact HNO.out)
          rw [hI] at hh
          have HH := Lib.hid hh
          clear e hI hh hX hXs
          go_wp2_with fail
          refine HH.out.mono ?_
          rintro e w' ⟨rfl, rfl⟩
          go_wp2_with (at_builtin; refine push_int rfl (.tmp 22) (.tmp 24) rfl w.heap.size _ l X rfl ho rfl (by omega) hza ?_)
          intro v' we oe ne ge
          have hRe := hRa.kept ge (fun k hk => by have := (ho.lt k hk).1; omega)
          have hge := grownBy_own hg ho (Nat.le_refl _) ge
          have hsm2 : ∀ x ∈ l ++ [X], -1 ≤ x ∧ x ≤ 31 := by
            intro x hx
            rcases List.mem_append.1 hx with h | h
            · exact HSM.out x h
            · simp only [List.mem_singleton] at h; subst h; omega
          clear ge ho hg hRa
          go_wp2
          go_roundg (gko - 1)
          case measure => have := HGK.out; omega
          case rel => exact ⟨l ++ [X], q + 1, by have := HLN.out; simp; omega, oe, hsm2, hRe, by simp; omega, hge⟩
        · have hI : inL l X = true := inL_yes (by rw [hX]; exact HIN.out d (by omega))
          rw [hI] at hh
          have HH := Lib.hid hh
          have HXS := Lib.hid hXs
          clear hI hh hX hXs
          go_wp2_with fail
          refine HH.out.mono ?_
          rintro e w' ⟨rfl, rfl⟩
          go_wp2
          go_roundg (gk - 1)
          case measure => have := hDN.out; omega
          case rel => exact ⟨d + 1, by have := hDN.out; omega, by rw [← HXS.out], rfl⟩
    · clear hrd
      go_wp2_with fail
      refine (pick_any g q _ _ hR (by omega) (by omega)).mono ?_
      rintro e wa ⟨x1, rfl, hx1, hRa, hga⟩
      replace ho := ho.kept hga (ho.ne_g zg)
      replace hg := grownBy_trans hg hga
      have hza := hg.size
      have hga2 := hRa.lt
      clear hx1 hga hR
      by_cases hx0 : x1 = 0
      · have hd2 : (x1 == 0) = true := by simp [hx0]
        clear hx0
        go_wp2_with fail
        refine (one_lit g (q + 1) wa [31, -1] 2 hRa (by omega) (by simp) (by simp) rfl).mono ?_
        rintro e wb ⟨z, rfl, hzz, hR3, hg3⟩
        have hz2 : -1 ≤ z ∧ z ≤ 31 := by simp at hzz; omega
        have hob := ho.kept hg3 (ho.ne_g zg)
        have hgb := grownBy_trans hg hg3
        have hzb := hgb.size
        clear hzz hg3 ho hg hRa
        go_wp2_with (at_builtin; refine push_int rfl (.tmp 30) (.tmp 34) rfl w.heap.size (.slice a5 l.length c5) l z rfl hob rfl (by omega) hzb ?_)
        intro v' we oe ne ge
        have hRe := hR3.kept ge (fun k hk => by have := (hob.lt k hk).1; omega)
        have hge := grownBy_own hgb hob (Nat.le_refl _) ge
        have hsm2 : ∀ x ∈ l ++ [z], -1 ≤ x ∧ x ≤ 31 := by
          intro x hx
          rcases List.mem_append.1 hx with h | h
          · exact HSM.out x h
          · simp only [List.mem_singleton] at h; subst h; omega
        clear ge hob hgb hR3
        go_wp2
        go_ret
        exact ⟨v', _, _, rfl, oe, by simp; omega, hsm2, hRe, hge⟩
      by_cases hx01 : x1 = 1
      · have hd2 : (x1 == 0) = false := by simpa using hx0
        have hd3 : (x1 == 1) = true := by simp [hx01]
        clear hx0 hx01
        go_wp2_with (at_builtin; refine push_two rfl (.tmp 38) (.tmp 39) rfl w.heap.size (.slice a5 l.length c5) l 3 3 rfl ho rfl (by omega) hza ?_)
        intro v' we oe ne ge
        have hRe := hRa.kept ge (fun k hk => by have := (ho.lt k hk).1; omega)
        have hge := grownBy_own hg ho (Nat.le_refl _) ge
        have hs2 : ∀ x ∈ l ++ [3, 3], -1 ≤ x ∧ x ≤ 31 := by
          intro x hx
          rcases List.mem_append.1 hx with h | h
          · exact HSM.out x h
          · simp at h; subst h; omega
        clear ge ho hg hRa
        go_wp2
        go_ret
        exact ⟨v', _, _, rfl, oe, by simp; omega, hs2, hRe, hge⟩
      · have hd2 : (x1 == 0) = false := by simpa using hx0
        have hd3 : (x1 == 1) = false := by simpa using hx01
        clear hx0 hx01
        go_wp2
        go_ret
        exact ⟨_, l, _, rfl, ho, by omega, HSM.out, hRa, hg⟩

set_option maxHeartbeats 4000000 in
theorem drawHashOf_any (a : Option Addr) (n cap : Nat) (w : World) (hB : Bytes w w.heap.size a n) (hn : n ≤ 9223372036854775807) (hc : n ≤ cap) :
    Calls Try.prog 43 #[.slice a n cap] w fun e w' => ∃ x y m k : Int, e = .returned (.tuple #[.int .i64 x, .int .i64 y, .int .i64 m, .int .i64 k]) ∧ (0 ≤ x ∧ x ≤ 31) ∧ (-1 ≤ y ∧ y ≤ 31) ∧ (0 ≤ m ∧ m ≤ 32) ∧ (-1 ≤ k ∧ k ≤ 31) ∧ Below w.heap.size w w' := by
  go_enter Try.func43, Try.ntmps43
  go_wp2_with fail
  refine (newReader_any a n cap w hB hn hc).mono ?_
  rintro e w1 ⟨rfl, hR0, hb1, hs1⟩
  have hz1 := hb1.size
  clear hB hn hc
  go_wp2_with fail
  refine (someHash_any w.heap.size 0 _ hR0 (by omega)).mono ?_
  rintro e wd1 ⟨x1, b1, m1, rfl, qa1, qb1, qm1, hR1, hg1⟩
  have hG1 := hg1
  have zg1 := hR1.lt
  clear hR0 hg1
  go_wp2_with fail
  refine (pick_any w.heap.size 4 _ _ hR1 (by omega) (by omega)).mono ?_
  rintro e wd2 ⟨y2, rfl, hy2, hR2, hg2⟩
  have hz2 := hy2.1 (by omega)
  clear hy2
  have hG2 := grownBy_trans hG1 hg2
  have zg2 := hR2.lt
  clear hR1 hg2 hG1
  go_wp2_with fail
  refine (pick_any w.heap.size 5 _ _ hR2 (by omega) (by omega)).mono ?_
  rintro e wd3 ⟨y3, rfl, hy3, hR3, hg3⟩
  have hz3 := hy3.1 (by omega)
  clear hy3
  have hG3 := grownBy_trans hG2 hg3
  have zg3 := hR3.lt
  clear hR2 hg3 hG2
  go_wp2_with fail
  refine (one_lit w.heap.size 6 _ [y2, y3, 0, 30, 31, (-1)] 6 hR3 (by omega) (by simp) (by simp) rfl).mono ?_
  rintro e wd4 ⟨y4, rfl, hy4, hR4, hg4⟩
  have hz4 : -1 ≤ y4 ∧ y4 ≤ 31 := by simp at hy4; omega
  clear hy4
  have hG4 := grownBy_trans hG3 hg4
  have zg4 := hR4.lt
  clear hR3 hg4 hG3
  have hbe := hb1.grown hG4 hb1.size (fun k hk => by cases hk; omega)
  go_wp2
  exact bodyPost_ret (v := .tuple #[.int .i64 x1, .int .i64 b1, .int .i64 m1, .int .i64 y4]) (by simp [results, Try.results43, go_sem]) rfl ⟨_, _, _, _, rfl, by omega, by omega, by omega, by omega, hbe⟩

set_option maxHeartbeats 4000000 in
theorem drawMeetingsOf_any (a : Option Addr) (n cap : Nat) (w : World) (hB : Bytes w w.heap.size a n) (hn : n ≤ 9223372036854775807) (hc : n ≤ cap) :
    Calls Try.prog 44 #[.slice a n cap] w fun e w' => ∃ (x y m : Int) (v : Value) (l : List Int), e = .returned (.tuple #[.int .i64 x, .int .i64 y, .int .i64 m, v]) ∧ (0 ≤ x ∧ x ≤ 31) ∧ (-1 ≤ y ∧ y ≤ 31) ∧ (0 ≤ m ∧ m ≤ 32) ∧ Own w' w.heap.size v l ∧ l.length ≤ 9 ∧ (∀ x ∈ l, -1 ≤ x ∧ x ≤ 31) ∧ Below w.heap.size w w' := by
  go_enter Try.func44, Try.ntmps44
  go_wp2_with fail
  refine (newReader_any a n cap w hB hn hc).mono ?_
  rintro e w1 ⟨rfl, hR0, hb1, hs1⟩
  have hz1 := hb1.size
  clear hB hn hc
  go_wp2_with fail
  refine (someHash_any w.heap.size 0 _ hR0 (by omega)).mono ?_
  rintro e wd1 ⟨x1, b1, m1, rfl, qa1, qb1, qm1, hR1, hg1⟩
  have hG1 := hg1
  have zg1 := hR1.lt
  clear hR0 hg1
  have zG := hG1.size
  go_wp2_with fail
  refine (someKeys_any w.heap.size 4 _ hR1 (by omega)).mono ?_
  rintro e wd2 ⟨v, l, q, rfl, ho, hl, hs, hRk, hgk⟩
  have hG2 := grownBy_trans hG1 hgk
  replace ho := ho.mono (show w.heap.size ≤ _ by omega)
  have hbe := hb1.grown hG2 hb1.size (fun k hk => by cases hk; omega)
  go_wp2
  exact bodyPost_ret (v := .tuple #[.int .i64 x1, .int .i64 b1, .int .i64 m1, v]) (by simp [results, Try.results44, go_sem]) rfl ⟨_, _, _, v, l, rfl, by omega, by omega, by omega, ho, hl, hs, hbe⟩

set_option maxHeartbeats 4000000 in
theorem drawPairCount_any (a : Option Addr) (n cap : Nat) (w : World) (hB : Bytes w w.heap.size a n) (hn : n ≤ 9223372036854775807) (hc : n ≤ cap) :
    Calls Try.prog 45 #[.slice a n cap] w fun e w' => ∃ m x y : Int, e = .returned (.tuple #[.int .i64 m, .int .i64 x, .int .i64 y]) ∧ (0 ≤ m ∧ m ≤ 32) ∧ (0 ≤ x ∧ x ≤ 31) ∧ (0 ≤ y ∧ y ≤ 31) ∧ Below w.heap.size w w' := by
  go_enter Try.func45, Try.ntmps45
  go_wp2_with fail
  refine (newReader_any a n cap w hB hn hc).mono ?_
  rintro e w1 ⟨rfl, hR0, hb1, hs1⟩
  have hz1 := hb1.size
  clear hB hn hc
  go_wp2_with fail
  refine (one_lit w.heap.size 0 _ [4, 5, 3, 8, 2, 1, 16, 31, 32, 0] 10 hR0 (by omega) (by simp) (by simp) rfl).mono ?_
  rintro e wd1 ⟨y1, rfl, hy1, hR1, hg1⟩
  have hz1 : 0 ≤ y1 ∧ y1 ≤ 32 := by simp at hy1; omega
  clear hy1
  have hG1 := hg1
  have zg1 := hR1.lt
  clear hR0 hg1
  go_wp2_with fail
  refine (pick_any w.heap.size 1 _ _ hR1 (by omega) (by omega)).mono ?_
  rintro e wd2 ⟨y2, rfl, hy2, hR2, hg2⟩
  have hz2 := hy2.1 (by omega)
  clear hy2
  have hG2 := grownBy_trans hG1 hg2
  have zg2 := hR2.lt
  clear hR1 hg2 hG1
  go_wp2_with fail
  refine (pick_any w.heap.size 2 _ _ hR2 (by omega) (by omega)).mono ?_
  rintro e wd3 ⟨y3, rfl, hy3, hR3, hg3⟩
  have hz3 := hy3.1 (by omega)
  clear hy3
  have hG3 := grownBy_trans hG2 hg3
  have zg3 := hR3.lt
  clear hR2 hg3 hG2
  go_wp2_with fail
  refine (pick_any w.heap.size 3 _ _ hR3 (by omega) (by omega)).mono ?_
  rintro e wd4 ⟨y4, rfl, hy4, hR4, hg4⟩
  have hz4 := hy4.1 (by omega)
  clear hy4
  have hG4 := grownBy_trans hG3 hg4
  have zg4 := hR4.lt
  clear hR3 hg4 hG3
  go_wp2_with fail
  refine (one_lit w.heap.size 4 _ [y3, y4, 0, 31] 4 hR4 (by omega) (by simp) (by simp) rfl).mono ?_
  rintro e wd5 ⟨y5, rfl, hy5, hR5, hg5⟩
  have hz5 : 0 ≤ y5 ∧ y5 ≤ 31 := by simp at hy5; omega
  clear hy5
  have hG5 := grownBy_trans hG4 hg5
  have zg5 := hR5.lt
  clear hR4 hg5 hG4
  have hbe := hb1.grown hG5 hb1.size (fun k hk => by cases hk; omega)
  go_wp2
  go_ret3
  exact ⟨_, _, _, rfl, by omega, by omega, by omega, hbe⟩

set_option maxHeartbeats 4000000 in
theorem drawApartBy_any (a : Option Addr) (n cap : Nat) (w : World) (hB : Bytes w w.heap.size a n) (hn : n ≤ 9223372036854775807) (hc : n ≤ cap) :
    Calls Try.prog 46 #[.slice a n cap] w fun e w' => ∃ (m : Int) (v : Value) (l : List Int), e = .returned (.tuple #[.int .i64 m, v]) ∧ (0 ≤ m ∧ m ≤ 32) ∧ Own w' w.heap.size v l ∧ l.length ≤ 9 ∧ (∀ x ∈ l, -1 ≤ x ∧ x ≤ 31) ∧ Below w.heap.size w w' := by
  go_enter Try.func46, Try.ntmps46
  go_wp2_with fail
  refine (newReader_any a n cap w hB hn hc).mono ?_
  rintro e w1 ⟨rfl, hR0, hb1, hs1⟩
  have hz1 := hb1.size
  clear hB hn hc
  go_wp2_with fail
  refine (one_lit w.heap.size 0 _ [4, 5, 6, 3, 8, 2, 1, 31, 32, 0] 10 hR0 (by omega) (by simp) (by simp) rfl).mono ?_
  rintro e wd1 ⟨y1, rfl, hy1, hR1, hg1⟩
  have hz1 : 0 ≤ y1 ∧ y1 ≤ 32 := by simp at hy1; omega
  clear hy1
  have hG1 := hg1
  have zg1 := hR1.lt
  clear hR0 hg1
  have zG := hG1.size
  go_wp2_with fail
  refine (someKeys_any w.heap.size 1 _ hR1 (by omega)).mono ?_
  rintro e wd2 ⟨v, l, q, rfl, ho, hl, hs, hRk, hgk⟩
  have hG2 := grownBy_trans hG1 hgk
  replace ho := ho.mono (show w.heap.size ≤ _ by omega)
  have hbe := hb1.grown hG2 hb1.size (fun k hk => by cases hk; omega)
  go_wp2
  go_ret2
  exact ⟨_, v, l, rfl, by omega, ho, hl, hs, hbe⟩

set_option maxHeartbeats 4000000 in
theorem drawLeastApart_any (a : Option Addr) (n cap : Nat) (w : World) (hB : Bytes w w.heap.size a n) (hn : n ≤ 9223372036854775807) (hc : n ≤ cap) :
    Calls Try.prog 47 #[.slice a n cap] w fun e w' => ∃ (v : Value) (l : List Int), e = .returned v ∧ Own w' w.heap.size v l ∧ l.length ≤ 9 ∧ (∀ x ∈ l, -1 ≤ x ∧ x ≤ 31) ∧ Below w.heap.size w w' := by
  go_enter Try.func47, Try.ntmps47
  go_wp2_with fail
  refine (newReader_any a n cap w hB hn hc).mono ?_
  rintro e w1 ⟨rfl, hR0, hb1, hs1⟩
  have hz1 := hb1.size
  clear hB hn hc
  go_wp2_with fail
  refine (someKeys_any w.heap.size 0 _ hR0 (by omega)).mono ?_
  rintro e wd1 ⟨v, l, q, rfl, ho, hl, hs, hRk, hgk⟩
  have hG1 := hgk
  replace ho := ho.mono (show w.heap.size ≤ _ by omega)
  have hbe := hb1.grown hG1 hb1.size (fun k hk => by cases hk; omega)
  go_wp2
  go_ret
  exact ⟨v, l, rfl, ho, hl, hs, hbe⟩

set_option maxHeartbeats 4000000 in
theorem drawBestLevels_any (a : Option Addr) (n cap : Nat) (w : World) (hB : Bytes w w.heap.size a n) (hn : n ≤ 9223372036854775807) (hc : n ≤ cap) :
    Calls Try.prog 49 #[.slice a n cap] w fun e w' => ∃ (v : Value) (l : List Int), e = .returned v ∧ Own w' w.heap.size v l ∧ l.length ≤ 9 ∧ (∀ x ∈ l, -1 ≤ x ∧ x ≤ 31) ∧ Below w.heap.size w w' := by
  go_enter Try.func49, Try.ntmps49
  go_wp2_with fail
  refine (newReader_any a n cap w hB hn hc).mono ?_
  rintro e w1 ⟨rfl, hR0, hb1, hs1⟩
  have hz1 := hb1.size
  clear hB hn hc
  go_wp2_with fail
  refine (someKeys_any w.heap.size 0 _ hR0 (by omega)).mono ?_
  rintro e wd1 ⟨v, l, q, rfl, ho, hl, hs, hRk, hgk⟩
  have hG1 := hgk
  replace ho := ho.mono (show w.heap.size ≤ _ by omega)
  have hbe := hb1.grown hG1 hb1.size (fun k hk => by cases hk; omega)
  go_wp2
  go_ret
  exact ⟨v, l, rfl, ho, hl, hs, hbe⟩

set_option maxHeartbeats 4000000 in
theorem drawTwoLevels_any (a : Option Addr) (n cap : Nat) (w : World) (hB : Bytes w w.heap.size a n) (hn : n ≤ 9223372036854775807) (hc : n ≤ cap) :
    Calls Try.prog 48 #[.slice a n cap] w fun e w' => ∃ (x y : Int) (v : Value) (l : List Int), e = .returned (.tuple #[.int .i64 x, .int .i64 y, v]) ∧ (0 ≤ x ∧ x ≤ 31) ∧ (-1 ≤ y ∧ y ≤ 31) ∧ Own w' w.heap.size v l ∧ l.length ≤ 9 ∧ (∀ x ∈ l, -1 ≤ x ∧ x ≤ 31) ∧ Below w.heap.size w w' := by
  go_enter Try.func48, Try.ntmps48
  go_wp2_with fail
  refine (newReader_any a n cap w hB hn hc).mono ?_
  rintro e w1 ⟨rfl, hR0, hb1, hs1⟩
  have hz1 := hb1.size
  clear hB hn hc
  go_wp2_with fail
  refine (someHash_any w.heap.size 0 _ hR0 (by omega)).mono ?_
  rintro e wd1 ⟨x1, b1, m1, rfl, qa1, qb1, qm1, hR1, hg1⟩
  have hG1 := hg1
  have zg1 := hR1.lt
  clear hR0 hg1
  have zG := hG1.size
  go_wp2_with fail
  refine (someKeys_any w.heap.size 4 _ hR1 (by omega)).mono ?_
  rintro e wd2 ⟨v, l, q, rfl, ho, hl, hs, hRk, hgk⟩
  have hG2 := grownBy_trans hG1 hgk
  replace ho := ho.mono (show w.heap.size ≤ _ by omega)
  have hbe := hb1.grown hG2 hb1.size (fun k hk => by cases hk; omega)
  go_wp2
  go_ret3
  exact ⟨_, _, v, l, rfl, by omega, by omega, ho, hl, hs, hbe⟩

end Go.Proofs.Ytapkalpmnldhpaa
