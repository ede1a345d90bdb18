/-
  Chapter 4's draws that give rings and keys.
-/
import Derived.Test.YtbldfhfciihddaaD0
import Derived.Test.YtbldfhfciihddaaD1
import Derived.Test.YtbldfhfciihddaaD2
import Derived.Test.YtbldfhfciihddaaF1
import Derived.Deep.LoopGhost
namespace Go.Proofs.Ytbldfhfciihddaa
open Go.RowKit

theorem one_litR (g p : Nat) (w : World) (l : List Int) (n : Nat) (hR : Rdr w g p) (hp : p ≤ 1000000) (h0 : 0 < l.length) (hl : l.length ≤ 1000000) (hn : l.length = n) :
    Calls Try.prog 61 #[.pointer (some ⟨g, 0, none⟩), .slice (some ⟨w.heap.size, 0, none⟩) n n] (w.alloc (.cells (l.map (Value.int .i64)).toArray 3)) fun e w' => ∃ y, e = .returned (.int .i64 y) ∧ y ∈ l ∧ Rdr w' g (p + 1) ∧ w.grownBy w' (some g) := by
  have hlt := hR.lt
  refine (one_any g p w.heap.size n l _ (hR.below ((Below.refl _ _).alloc (Nat.le_refl _) _)) hp (CellsAt.lit w l) hlt h0 hl n hn).mono ?_
  rintro e w' ⟨y, rfl, hy, hR', hg⟩
  exact ⟨y, rfl, hy, hR', grownBy_trans (World.grownBy_alloc w _ _) hg⟩

theorem phpR : ∀ (n : Nat) (l : List Int) (f : Nat → Int), (∀ i j, i ≤ n → j ≤ n → f i = f j → i = j) → (∀ i, i ≤ n → f i ∈ l) → n < l.length := by
  intro n
  induction n with
  | zero => intro l f _ h; exact List.length_pos_of_mem (h 0 (Nat.le_refl _))
  | succ n ih =>
    intro l f hi h
    have h1 := h (n + 1) (Nat.le_refl _)
    have h2 := ih (l.erase (f (n + 1))) f (fun i j a b => hi i j (by omega) (by omega)) (fun i a => by
      rw [List.mem_erase_of_ne]
      · exact h i (by omega)
      · intro e; have := hi i (n + 1) (by omega) (Nat.le_refl _) e; omega)
    rw [List.length_erase_of_mem h1] at h2
    omega
/-- Some number is not among fewer than 64: how far it is. -/
theorem next_free64 (l : List Int) (x : Int) (hx : 0 ≤ x ∧ x ≤ 63) (hl : l.length ≤ 20) : ∃ D : Nat, D ≤ 63 ∧ (x + D) % 64 ∉ l ∧ ∀ d : Nat, d < D → (x + d) % 64 ∈ l := by
  have hex : ∃ D : Nat, D ≤ 63 ∧ (x + D) % 64 ∉ l := by
    apply Classical.byContradiction
    intro hn
    have := phpR 63 l (fun d => (x + d) % 64) (fun i j a b e => by have e' : (x + i) % 64 = (x + j) % 64 := e; omega) (fun i a => Classical.byContradiction fun h => hn ⟨i, a, h⟩)
    omega
  have key : ∀ n : Nat, (∃ D : Nat, D ≤ n ∧ D ≤ 63 ∧ (x + D) % 64 ∉ l) → ∃ D : Nat, D ≤ 63 ∧ (x + D) % 64 ∉ l ∧ ∀ d : Nat, d < D → (x + d) % 64 ∈ l := by
    intro n
    induction n with
    | zero =>
      rintro ⟨D, h1, h2, h3⟩
      exact ⟨D, h2, h3, fun d hd => by omega⟩
    | succ n ih =>
      rintro ⟨D, h1, h2, h3⟩
      by_cases e : ∃ D : Nat, D ≤ n ∧ D ≤ 63 ∧ (x + D) % 64 ∉ l
      · exact ih e
      · refine ⟨D, h2, h3, fun d hd => Classical.byContradiction fun h => e ⟨d, by omega, by omega, h⟩⟩
  obtain ⟨D, h1, h2⟩ := hex
  exact key D ⟨D, Nat.le_refl _, h1, h2⟩

theorem Reads.get0 {w : World} {a : Option Addr} {l : List Int} (h : Reads w a l) (hl : 0 < l.length) : ∃ y, (∃ b, a = some b ∧ w.cell? b = some (.int .i64 y)) ∧ Hid (l.getD 0 0 = y) := by
  obtain ⟨b, off, y, e, _, hc, hy⟩ := h.get hl
  exact ⟨y, ⟨⟨b, off, none⟩, e, hc⟩, hy⟩
set_option maxHeartbeats 4000000 in
theorem someRing_any (g p : Nat) (w : World) (hR : Rdr w g p) (hp : p ≤ 900000) :
    Calls Try.prog 56 #[.pointer (some ⟨g, 0, none⟩)] w fun e w' => ∃ (v : Value) (l : List Int) (q : Nat), e = .returned v ∧ Own w' w.heap.size v l ∧ l.length ≤ 9 ∧ (∀ x ∈ l, -1 ≤ x ∧ x ≤ 64) ∧ Rdr w' g q ∧ q ≤ p + 100 ∧ w.grownBy w' (some g) := by
  have zg := hR.lt
  go_enter Try.func56, Try.ntmps56
  have ho1 : Own (w.alloc (.cells #[] 3)) w.heap.size (.slice (some ⟨w.heap.size, 0, none⟩) 0 0) [] := (Own.lit0 w w.heap.size (Nat.le_refl _))
  have hR2 := hR.below ((Below.refl w.heap.size w).alloc (Nat.le_refl _) (.cells #[] 3))
  have hg2 := World.grownBy_alloc w (.cells #[] 3) (some g)
  obtain ⟨w0, e0⟩ : ∃ w0, w0 = w.alloc (.cells #[] 3) := ⟨_, rfl⟩
  rw [← e0] at ho1 hR2 hg2
  have E0 := Lib.hid e0
  have z0 : w0.heap.size = w.heap.size + 1 := by rw [e0]; simp
  have hone := one_litR g p w0 [3, 4, 2, 5, 1, 6] 6 hR2 (by omega) (by simp) (by simp) rfl
  rw [z0] at hone
  have HONE := Lib.hid hone
  clear e0 hR hR2 hone
  go_wp2_with fail
  rw [← E0.out]
  refine HONE.out.mono ?_
  rintro e w2 ⟨nn, rfl, hnn, hR3, hg3⟩
  have hnn2 : 1 ≤ nn ∧ nn ≤ 6 := by simp at hnn; omega
  have ho2 := ho1.kept hg3 (by simp [Value.ownBlock]; omega)
  have hg4 := grownBy_trans hg2 hg3
  clear hnn hg3 hg2 ho1 HONE
  go_wp2
  go_loopg [3] 7 (fun n v wr => ∃ (l : List Int) (q : Nat), l.length + n = 7 ∧ Own wr w.heap.size v l ∧ (∀ x ∈ l, -1 ≤ x ∧ x ≤ 64) ∧ Rdr wr g q ∧ q ≤ p + 1 + l.length ∧ w.grownBy wr (some g))
  case atStart => exact ⟨[], p + 1, by simp, ho2, by simp, hR3, by simp, hg4⟩
  case round =>
    clear ho2 hR3 hg4
    obtain ⟨l, q, hln, ho, hsm, hR, hq, hg⟩ := hrel
    obtain ⟨a5, c5, rfl, hrd, hlc, hcm, hblk⟩ := ho.form
    have hz := hg.size
    have HLN := Lib.hid hln
    have hl7 : l.length ≤ 7 := by omega
    have HSM := Lib.hid hsm
    clear hln hblk hcm hsm
    by_cases hlt : (l.length : Int) < nn
    · go_wp2_with fail
      refine (pick_any g q _ _ hR (by omega) (by omega)).mono ?_
      rintro e wa ⟨x1, rfl, hx1, hRa, hga⟩
      have hx1' := hx1.1 (by omega)
      replace ho := ho.kept hga (ho.ne_g zg)
      replace hg := grownBy_trans hg hga
      have hza := hg.size
      have hrd2 := ho.reads
      obtain ⟨D, hD, hno, hin⟩ := next_free64 l x1 (by omega) (by omega)
      have HNO := Lib.hid hno
      have HIN := Lib.hid hin
      clear hx1 hga hR hrd hno hin
      obtain ⟨gko, hgko⟩ : ∃ y, y = gk := ⟨_, rfl⟩
      rw [← hgko] at HLN
      have hgk1 : 1 ≤ gk := by have := HLN.out; omega
      rw [← hgko] at hgk1
      have HGK := Lib.hid hgko
      clear hgko
      have hx30 : Hid (x1 = (x1 + (0 : Nat)) % 64) := by show x1 = (x1 + (0 : Nat)) % 64; omega
      go_wp2_with fail
      go_loopg [5] D (fun n s wr => ∃ d : Nat, d + n = D ∧ s = .int .i64 ((x1 + d) % 64) ∧ wr = wa)
      case atStart => exact ⟨0, by omega, by rw [← hx30.out], rfl⟩
      case round =>
        obtain ⟨d, hdn, rfl, rfl⟩ := hrel
        have hDN := Lib.hid hdn
        have hdD : d ≤ D := by omega
        clear hdn
        obtain ⟨X, hX⟩ : ∃ X, X = (x1 + d) % 64 := ⟨_, rfl⟩
        have hXr : 0 ≤ X ∧ X ≤ 63 := by omega
        have hXs : (X + 1) % 64 = (x1 + (d + 1 : Nat)) % 64 := by omega
        have hh := has_any a5 l l.length c5 X wr hrd2 rfl (by omega)
        rw [← hX]
        by_cases e : d = D
        · have hI : inL l X = false := inL_no (by rw [hX, e]; exact HNO.out)
          rw [hI] at hh
          have HH := Lib.hid hh
          clear e hI hh hX hXs
          go_wp2_with fail
          refine HH.out.mono ?_
          rintro e w' ⟨rfl, rfl⟩
          go_wp2_with (at_builtin; refine push_int rfl (.tmp 22) (.tmp 24) rfl w.heap.size _ l X rfl ho rfl (by omega) hza ?_)
          intro v' we oe ne ge
          have hRe := hRa.kept ge (fun k hk => by have := (ho.lt k hk).1; omega)
          have hge := grownBy_own hg ho (Nat.le_refl _) ge
          have hsm2 : ∀ x ∈ l ++ [X], -1 ≤ x ∧ x ≤ 64 := by
            intro x hx
            rcases List.mem_append.1 hx with h | h
            · exact HSM.out x h
            · simp only [List.mem_singleton] at h; subst h; omega
          clear ge ho hg hRa
          go_wp2
          go_roundg (gko - 1)
          case measure => have := HGK.out; omega
          case rel => exact ⟨l ++ [X], q + 1, by have := HLN.out; simp; omega, oe, hsm2, hRe, by simp; omega, hge⟩
        · have hI : inL l X = true := inL_yes (by rw [hX]; exact HIN.out d (by omega))
          rw [hI] at hh
          have HH := Lib.hid hh
          have HXS := Lib.hid hXs
          clear hI hh hX hXs
          go_wp2_with fail
          refine HH.out.mono ?_
          rintro e w' ⟨rfl, rfl⟩
          go_wp2
          go_roundg (gk - 1)
          case measure => have := hDN.out; omega
          case rel => exact ⟨d + 1, by have := hDN.out; omega, by rw [← HXS.out], rfl⟩
    · clear hrd
      go_wp2_with fail
      refine (pick_any g q _ _ hR (by omega) (by omega)).mono ?_
      rintro e wa ⟨x1, rfl, hx1, hRa, hga⟩
      replace ho := ho.kept hga (ho.ne_g zg)
      replace hg := grownBy_trans hg hga
      have hza := hg.size
      have hga2 := hRa.lt
      clear hx1 hga hR
      by_cases hx0 : x1 = 0
      · have hd2 : (x1 == 0) = true := by simp [hx0]
        clear hx0
        go_wp2_with fail
        refine (one_litR g (q + 1) wa [64, -1] 2 hRa (by omega) (by simp) (by simp) rfl).mono ?_
        rintro e wb ⟨z, rfl, hzz, hR3, hg3⟩
        have hz2 : -1 ≤ z ∧ z ≤ 64 := by simp at hzz; omega
        have hob := ho.kept hg3 (ho.ne_g zg)
        have hgb := grownBy_trans hg hg3
        have hzb := hgb.size
        clear hzz hg3 ho hg hRa
        go_wp2_with (at_builtin; refine push_int rfl (.tmp 30) (.tmp 34) rfl w.heap.size (.slice a5 l.length c5) l z rfl hob rfl (by omega) hzb ?_)
        intro v' we oe ne ge
        have hRe := hR3.kept ge (fun k hk => by have := (hob.lt k hk).1; omega)
        have hge := grownBy_own hgb hob (Nat.le_refl _) ge
        have hsm2 : ∀ x ∈ l ++ [z], -1 ≤ x ∧ x ≤ 64 := by
          intro x hx
          rcases List.mem_append.1 hx with h | h
          · exact HSM.out x h
          · simp only [List.mem_singleton] at h; subst h; omega
        clear ge hob hgb hR3
        go_wp2
        go_ret
        exact ⟨v', _, _, rfl, oe, by simp; omega, hsm2, hRe, by omega, hge⟩
      by_cases hx01 : x1 = 1
      · have hd2 : (x1 == 0) = false := by simpa using hx0
        have hd3 : (x1 == 1) = true := by simp [hx01]
        clear hx0 hx01
        obtain ⟨y0, hc0, hy0⟩ := ho.reads.get0 (by omega)
        obtain ⟨b0, rfl, hc0⟩ := hc0
        have h0l : 0 < l.length := by omega
        have hy0b := HSM.out y0 (by have := hy0.out; rw [← this]; exact getD_mem h0l)
        go_wp2_with (at_builtin; refine push_int rfl (.tmp 38) (.tmp 42) rfl w.heap.size (.slice (some b0) l.length c5) l y0 rfl ho rfl (by omega) hza ?_)
        intro v' we oe ne ge
        have hRe := hRa.kept ge (fun k hk => by have := (ho.lt k hk).1; omega)
        have hge := grownBy_own hg ho (Nat.le_refl _) ge
        have hs2 : ∀ x ∈ l ++ [y0], -1 ≤ x ∧ x ≤ 64 := by
          intro x hx
          rcases List.mem_append.1 hx with h | h
          · exact HSM.out x h
          · simp at h; subst h; exact hy0b
        clear ge ho hg hRa
        go_wp2
        go_ret
        exact ⟨v', _, _, rfl, oe, by simp; omega, hs2, hRe, by omega, hge⟩
      by_cases hx02 : x1 = 2
      · have hd2 : (x1 == 0) = false := by simpa using hx0
        have hd3 : (x1 == 1) = false := by simpa using hx01
        have hd4 : (x1 == 2) = true := by simp [hx02]
        clear hx0 hx01 hx02
        have hlit := Own.lit0 wa w.heap.size hza
        have hRl := hRa.below ((Below.refl wa.heap.size wa).alloc (Nat.le_refl _) (.cells #[] 3))
        have hgl := grownBy_alloc' hg (.cells #[] 3)
        go_wp2
        go_ret
        exact ⟨_, [], _, rfl, hlit, by simp, by simp, hRl, by omega, hgl⟩
      · have hd2 : (x1 == 0) = false := by simpa using hx0
        have hd3 : (x1 == 1) = false := by simpa using hx01
        have hd4 : (x1 == 2) = false := by simpa using hx02
        clear hx0 hx01 hx02
        go_wp2
        go_ret
        exact ⟨_, l, _, rfl, ho, by omega, HSM.out, hRa, by omega, hg⟩

set_option maxHeartbeats 4000000 in
theorem drawValidRing_any (a : Option Addr) (n cap : Nat) (w : World) (hB : Bytes w w.heap.size a n) (hn : n ≤ 9223372036854775807) (hc : n ≤ cap) :
    Calls Try.prog 19 #[.slice a n cap] w fun e w' => ∃ (v : Value) (l : List Int), e = .returned v ∧ Own w' w.heap.size v l ∧ l.length ≤ 9 ∧ (∀ x ∈ l, -1 ≤ x ∧ x ≤ 64) ∧ Below w.heap.size w w' := by
  go_enter Try.func19, Try.ntmps19
  go_wp2_with fail
  refine (newReader_any a n cap w hB hn hc).mono ?_
  rintro e w1 ⟨rfl, hR0, hb1, hs1⟩
  have hz1 := hb1.size
  clear hB hn hc
  go_wp2_with fail
  refine (someRing_any w.heap.size 0 _ hR0 (by omega)).mono ?_
  rintro e wd1 ⟨v, l, q, rfl, ho, hl, hs, hR1, _, hg1⟩
  have hq := hR1.lt
  clear hR0
  replace ho := ho.mono hz1
  have hbe := hb1.grown hg1 hb1.size (fun k hk => by cases hk; omega)
  go_wp2
  go_ret
  exact ⟨v, l, rfl, ho, hl, hs, hbe⟩

set_option maxHeartbeats 4000000 in
theorem drawSharesOf_any (a : Option Addr) (n cap : Nat) (w : World) (hB : Bytes w w.heap.size a n) (hn : n ≤ 9223372036854775807) (hc : n ≤ cap) :
    Calls Try.prog 26 #[.slice a n cap] w fun e w' => ∃ (v : Value) (l : List Int), e = .returned v ∧ Own w' w.heap.size v l ∧ l.length ≤ 9 ∧ (∀ x ∈ l, -1 ≤ x ∧ x ≤ 64) ∧ Below w.heap.size w w' := by
  go_enter Try.func26, Try.ntmps26
  go_wp2_with fail
  refine (newReader_any a n cap w hB hn hc).mono ?_
  rintro e w1 ⟨rfl, hR0, hb1, hs1⟩
  have hz1 := hb1.size
  clear hB hn hc
  go_wp2_with fail
  refine (someRing_any w.heap.size 0 _ hR0 (by omega)).mono ?_
  rintro e wd1 ⟨v, l, q, rfl, ho, hl, hs, hR1, _, hg1⟩
  have hq := hR1.lt
  clear hR0
  replace ho := ho.mono hz1
  have hbe := hb1.grown hg1 hb1.size (fun k hk => by cases hk; omega)
  go_wp2
  go_ret
  exact ⟨v, l, rfl, ho, hl, hs, hbe⟩

set_option maxHeartbeats 4000000 in
theorem drawOwnerOf_any (a : Option Addr) (n cap : Nat) (w : World) (hB : Bytes w w.heap.size a n) (hn : n ≤ 9223372036854775807) (hc : n ≤ cap) :
    Calls Try.prog 22 #[.slice a n cap] w fun e w' => ∃ (v : Value) (l : List Int) (k : Int), e = .returned (.tuple #[v, .int .i64 k]) ∧ Own w' w.heap.size v l ∧ l.length ≤ 9 ∧ (∀ x ∈ l, -1 ≤ x ∧ x ≤ 64) ∧ (-1 ≤ k ∧ k ≤ 64) ∧ Below w.heap.size w w' := by
  go_enter Try.func22, Try.ntmps22
  go_wp2_with fail
  refine (newReader_any a n cap w hB hn hc).mono ?_
  rintro e w1 ⟨rfl, hR0, hb1, hs1⟩
  have hz1 := hb1.size
  clear hB hn hc
  go_wp2_with fail
  refine (someRing_any w.heap.size 0 _ hR0 (by omega)).mono ?_
  rintro e wd1 ⟨v, l, q, rfl, ho, hl, hs, hR1, hqq, hg1⟩
  have hq := hR1.lt
  clear hR0
  go_wp2_with fail
  refine (pick_any w.heap.size q _ _ hR1 (by omega) (by omega)).mono ?_
  rintro e wd2 ⟨y2, rfl, hy2, hR2, hg2⟩
  have hz2 := hy2.1 (by omega)
  clear hy2
  have hG2 := grownBy_trans hg1 hg2
  have zg2 := hR2.lt
  replace ho := ho.kept hg2 (ho.ne_g (by omega))
  go_wp2_with fail
  refine (pick_any w.heap.size (q + 1) _ _ hR2 (by omega) (by omega)).mono ?_
  rintro e wd3 ⟨y3, rfl, hy3, hR3, hg3⟩
  have hz3 := hy3.1 (by omega)
  clear hy3
  have hG3 := grownBy_trans hG2 hg3
  have zg3 := hR3.lt
  replace ho := ho.kept hg3 (ho.ne_g (by omega))
  go_wp2_with fail
  refine (one_litR w.heap.size (q + 2) _ [y2, y3, 0, 63, 64, (-1)] 6 hR3 (by omega) (by simp) (by simp) rfl).mono ?_
  rintro e wd4 ⟨y4, rfl, hy4, hR4, hg4⟩
  have hz4 : -1 ≤ y4 ∧ y4 ≤ 64 := by simp at hy4; omega
  clear hy4
  have hG4 := grownBy_trans hG3 hg4
  replace ho := (ho.kept hg4 (ho.ne_g (by omega))).mono hz1
  have hbe := hb1.grown hG4 hb1.size (fun k hk => by cases hk; omega)
  go_wp2
  go_ret2
  exact ⟨v, l, y4, rfl, ho, hl, hs, hz4, hbe⟩

set_option maxHeartbeats 4000000 in
theorem drawMovedBy_any (a : Option Addr) (n cap : Nat) (w : World) (hB : Bytes w w.heap.size a n) (hn : n ≤ 9223372036854775807) (hc : n ≤ cap) :
    Calls Try.prog 31 #[.slice a n cap] w fun e w' => ∃ (v : Value) (l : List Int) (k : Int), e = .returned (.tuple #[v, .int .i64 k]) ∧ Own w' w.heap.size v l ∧ l.length ≤ 9 ∧ (∀ x ∈ l, -1 ≤ x ∧ x ≤ 64) ∧ (-1 ≤ k ∧ k ≤ 64) ∧ Below w.heap.size w w' := by
  go_enter Try.func31, Try.ntmps31
  go_wp2_with fail
  refine (newReader_any a n cap w hB hn hc).mono ?_
  rintro e w1 ⟨rfl, hR0, hb1, hs1⟩
  have hz1 := hb1.size
  clear hB hn hc
  go_wp2_with fail
  refine (someRing_any w.heap.size 0 _ hR0 (by omega)).mono ?_
  rintro e wd1 ⟨v, l, q, rfl, ho, hl, hs, hR1, hqq, hg1⟩
  have hq := hR1.lt
  clear hR0
  go_wp2_with fail
  refine (pick_any w.heap.size q _ _ hR1 (by omega) (by omega)).mono ?_
  rintro e wd2 ⟨y2, rfl, hy2, hR2, hg2⟩
  have hz2 := hy2.1 (by omega)
  clear hy2
  have hG2 := grownBy_trans hg1 hg2
  have zg2 := hR2.lt
  replace ho := ho.kept hg2 (ho.ne_g (by omega))
  go_wp2_with fail
  refine (pick_any w.heap.size (q + 1) _ _ hR2 (by omega) (by omega)).mono ?_
  rintro e wd3 ⟨y3, rfl, hy3, hR3, hg3⟩
  have hz3 := hy3.1 (by omega)
  clear hy3
  have hG3 := grownBy_trans hG2 hg3
  have zg3 := hR3.lt
  replace ho := ho.kept hg3 (ho.ne_g (by omega))
  go_wp2_with fail
  refine (one_litR w.heap.size (q + 2) _ [y2, y3, 0, 63, 64, (-1)] 6 hR3 (by omega) (by simp) (by simp) rfl).mono ?_
  rintro e wd4 ⟨y4, rfl, hy4, hR4, hg4⟩
  have hz4 : -1 ≤ y4 ∧ y4 ≤ 64 := by simp at hy4; omega
  clear hy4
  have hG4 := grownBy_trans hG3 hg4
  replace ho := (ho.kept hg4 (ho.ne_g (by omega))).mono hz1
  have hbe := hb1.grown hG4 hb1.size (fun k hk => by cases hk; omega)
  go_wp2
  go_ret2
  exact ⟨v, l, y4, rfl, ho, hl, hs, hz4, hbe⟩

set_option maxHeartbeats 4000000 in
theorem drawJumpTo_any (a : Option Addr) (n cap : Nat) (w : World) (hB : Bytes w w.heap.size a n) (hn : n ≤ 9223372036854775807) (hc : n ≤ cap) :
    Calls Try.prog 39 #[.slice a n cap] w fun e w' => ∃ (k m : Int), e = .returned (.tuple #[.int .i64 k, .int .i64 m]) ∧ (-1 ≤ k ∧ k ≤ 64) ∧ (0 ≤ m ∧ m ≤ 21) ∧ Below w.heap.size w w' := by
  go_enter Try.func39, Try.ntmps39
  go_wp2_with fail
  refine (newReader_any a n cap w hB hn hc).mono ?_
  rintro e w1 ⟨rfl, hR0, hb1, hs1⟩
  have hz1 := hb1.size
  clear hB hn hc
  go_wp2_with fail
  refine (pick_any w.heap.size 0 _ _ hR0 (by omega) (by omega)).mono ?_
  rintro e wd2 ⟨y2, rfl, hy2, hR2, hg2⟩
  have hz2 := hy2.1 (by omega)
  clear hy2 hR0
  have hG2 := hg2
  go_wp2_with fail
  refine (pick_any w.heap.size 1 _ _ hR2 (by omega) (by omega)).mono ?_
  rintro e wd3 ⟨y3, rfl, hy3, hR3, hg3⟩
  have hz3 := hy3.1 (by omega)
  clear hy3
  have hG3 := grownBy_trans hG2 hg3
  have zg3 := hR3.lt
  go_wp2_with fail
  refine (one_litR w.heap.size 2 _ [y2, y3, 0, 63, 64, (-1)] 6 hR3 (by omega) (by simp) (by simp) rfl).mono ?_
  rintro e wd4 ⟨y4, rfl, hy4, hR4, hg4⟩
  have hz4 : -1 ≤ y4 ∧ y4 ≤ 64 := by simp at hy4; omega
  clear hy4 hR3
  have hG4 := grownBy_trans hG3 hg4
  go_wp2_with fail
  refine (pick_any w.heap.size 3 _ _ hR4 (by omega) (by omega)).mono ?_
  rintro e wd5 ⟨y5, rfl, hy5, hR5, hg5⟩
  have hz5 := hy5.1 (by omega)
  clear hy5
  have hG5 := grownBy_trans hG4 hg5
  have zg5 := hR5.lt
  have hyw : IntKind.i64.wrap (1 + y5) = 1 + y5 := IntWalk.i64_in _ (by omega)
  go_wp2_with fail
  refine (one_litR w.heap.size 4 _ [1 + y5, 5, 10, 20, 1, 21, 0] 7 hR5 (by omega) (by simp) (by simp) rfl).mono ?_
  rintro e wd6 ⟨y6, rfl, hy6, hR6, hg6⟩
  have hz6 : 0 ≤ y6 ∧ y6 ≤ 21 := by simp at hy6; omega
  clear hy6 hR5
  have hG6 := grownBy_trans hG5 hg6
  have hbe := hb1.grown hG6 hb1.size (fun k hk => by cases hk; omega)
  go_wp2
  go_ret2
  exact ⟨y4, y6, rfl, hz4, hz6, hbe⟩
end Go.Proofs.Ytbldfhfciihddaa
