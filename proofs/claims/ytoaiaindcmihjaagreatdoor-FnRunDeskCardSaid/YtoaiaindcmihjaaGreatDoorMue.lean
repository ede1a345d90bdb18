
import Derived.Test.YtoaiaindcmihjaaGreatDoorMud
import Derived.Test.YtoaiaindcmihjaaGreatDoorMua
import Derived.Deep.LoopGhost
import Derived.Test.YtoaiaindcmihjaaGreatDoorMuc
import Derived.Test.YtoaiaindcmihjaaGreatDoorMub
import Derived.Lib.FieldsP
/-
  Chapter 3's draws. (Written by gendraw.py.)
-/
namespace Go.Proofs.YtoaiaindcmihjaaGreatDoor
open Go.RowKit

theorem one_lit (g p : Nat) (w : World) (l : List Int) (n : Nat) (hR : Rdr w g p) (hp : p ≤ 1000000) (h0 : 0 < l.length) (hl : l.length ≤ 1000000) (hn : l.length = n) :
    Calls Tryz.prog 41 #[.pointer (some ⟨g, 0, none⟩), .slice (some ⟨w.heap.size, 0, none⟩) n n] (w.alloc (.cells (l.map (Value.int .i64)).toArray 3)) fun e w' => ∃ y, e = .returned (.int .i64 y) ∧ y ∈ l ∧ Rdr w' g (p + 1) ∧ w.grownBy w' (some g) := by
  have hlt := hR.lt
  refine (one_any g p w.heap.size n l _ (hR.below ((Below.refl _ _).alloc (Nat.le_refl _) _)) hp (CellsAt.lit w l) hlt h0 hl n hn).mono ?_
  rintro e w' ⟨y, rfl, hy, hR', hg⟩
  exact ⟨y, rfl, hy, hR', grownBy_trans (World.grownBy_alloc w _ _) hg⟩

theorem php : ∀ (n : Nat) (l : List Int) (f : Nat → Int), (∀ i j, i ≤ n → j ≤ n → f i = f j → i = j) → (∀ i, i ≤ n → f i ∈ l) → n < l.length := by
  intro n
  induction n with
  | zero => intro l f _ h; exact List.length_pos_of_mem (h 0 (Nat.le_refl _))
  | succ n ih =>
    intro l f hi h
    have h1 := h (n + 1) (Nat.le_refl _)
    have h2 := ih (l.erase (f (n + 1))) f (fun i j a b => hi i j (by omega) (by omega)) (fun i a => by
      rw [List.mem_erase_of_ne]
      · exact h i (by omega)
      · intro e; have := hi i (n + 1) (by omega) (Nat.le_refl _) e; omega)
    rw [List.length_erase_of_mem h1] at h2
    omega
/-- Some number is not among fewer than 31: how far it is. -/
theorem next_free (l : List Int) (x : Int) (hx : 0 ≤ x ∧ x ≤ 30) (hl : l.length ≤ 20) : ∃ D : Nat, D ≤ 30 ∧ (x + D) % 31 ∉ l ∧ ∀ d : Nat, d < D → (x + d) % 31 ∈ l := by
  have hex : ∃ D : Nat, D ≤ 30 ∧ (x + D) % 31 ∉ l := by
    apply Classical.byContradiction
    intro hn
    have := php 30 l (fun d => (x + d) % 31) (fun i j a b e => by have e' : (x + i) % 31 = (x + j) % 31 := e; omega) (fun i a => Classical.byContradiction fun h => hn ⟨i, a, h⟩)
    omega
  have key : ∀ n : Nat, (∃ D : Nat, D ≤ n ∧ D ≤ 30 ∧ (x + D) % 31 ∉ l) → ∃ D : Nat, D ≤ 30 ∧ (x + D) % 31 ∉ l ∧ ∀ d : Nat, d < D → (x + d) % 31 ∈ l := by
    intro n
    induction n with
    | zero =>
      rintro ⟨D, h1, h2, h3⟩
      exact ⟨D, h2, h3, fun d hd => by omega⟩
    | succ n ih =>
      rintro ⟨D, h1, h2, h3⟩
      by_cases e : ∃ D : Nat, D ≤ n ∧ D ≤ 30 ∧ (x + D) % 31 ∉ l
      · exact ih e
      · refine ⟨D, h2, h3, fun d hd => Classical.byContradiction fun h => e ⟨d, by omega, by omega, h⟩⟩
  obtain ⟨D, h1, h2⟩ := hex
  exact key D ⟨D, Nat.le_refl _, h1, h2⟩

set_option maxHeartbeats 8000000 in
set_option maxRecDepth 100000 in
theorem someKeysQ_any (g p : Nat) (w : World) (hR : Rdr w g p) (hp : p ≤ 900000) :
    Calls Tryz.prog 46 #[.pointer (some ⟨g, 0, none⟩)] w fun e w' => ∃ (v : Value) (l : List Int) (q : Nat), e = .returned v ∧ Own w' w.heap.size v l ∧ l.length ≤ 9 ∧ (∀ x ∈ l, -1 ≤ x ∧ x ≤ 31) ∧ Rdr w' g q ∧ q ≤ p + 100 ∧ w.grownBy w' (some g) := by
  have zg := hR.lt
  go_enter Tryz.func46, Tryz.ntmps46
  have ho1 : Own (w.alloc (.cells #[] 3)) w.heap.size (.slice (some ⟨w.heap.size, 0, none⟩) 0 0) [] := (Own.lit0 w w.heap.size (Nat.le_refl _))
  have hR2 := hR.below ((Below.refl w.heap.size w).alloc (Nat.le_refl _) (.cells #[] 3))
  have hg2 := World.grownBy_alloc w (.cells #[] 3) (some g)
  obtain ⟨w0, e0⟩ : ∃ w0, w0 = w.alloc (.cells #[] 3) := ⟨_, rfl⟩
  rw [← e0] at ho1 hR2 hg2
  have E0 := Lib.hid e0
  have z0 : w0.heap.size = w.heap.size + 1 := by rw [e0]; simp
  have hone := one_lit g p w0 [3, 4, 2, 5, 1, 0, 6] 7 hR2 (by omega) (by simp) (by simp) rfl
  rw [z0] at hone
  have HONE := Lib.hid hone
  clear e0 hR hR2 hone
  go_wp2_with fail
  rw [← E0.out]
  refine HONE.out.mono ?_
  rintro e w2 ⟨nn, rfl, hnn, hR3, hg3⟩
  have hnn2 : nn ≤ 6 := by simp at hnn; omega
  have ho2 := ho1.kept hg3 (by simp [Value.ownBlock]; omega)
  have hg4 := grownBy_trans hg2 hg3
  clear hnn hg3 hg2 ho1 HONE
  go_wp2
  go_loopg [3] 7 (fun n v wr => ∃ (l : List Int) (q : Nat), l.length + n = 7 ∧ Own wr w.heap.size v l ∧ (∀ x ∈ l, -1 ≤ x ∧ x ≤ 31) ∧ Rdr wr g q ∧ q ≤ p + 1 + l.length ∧ w.grownBy wr (some g))
  case atStart => exact ⟨[], p + 1, by simp, ho2, by simp, hR3, by simp, hg4⟩
  case round =>
    clear ho2 hR3 hg4
    obtain ⟨l, q, hln, ho, hsm, hR, hq, hg⟩ := hrel
    obtain ⟨a5, c5, rfl, hrd, hlc, hcm, hblk⟩ := ho.form
    have hz := hg.size
    have HLN := Lib.hid hln
    have hl7 : l.length ≤ 7 := by omega
    have HSM := Lib.hid hsm
    clear hln hblk hcm hsm
    by_cases hlt : (l.length : Int) < nn
    · go_wp2_with fail
      refine (pick_any g q _ _ hR (by omega) (by omega)).mono ?_
      rintro e wa ⟨x1, rfl, hx1, hRa, hga⟩
      have hx1' := hx1.1 (by omega)
      replace ho := ho.kept hga (ho.ne_g zg)
      replace hg := grownBy_trans hg hga
      have hza := hg.size
      have hrd2 := ho.reads
      obtain ⟨D, hD, hno, hin⟩ := next_free l x1 (by omega) (by omega)
      have HNO := Lib.hid hno
      have HIN := Lib.hid hin
      clear hx1 hga hR hrd hno hin
      obtain ⟨gko, hgko⟩ : ∃ y, y = gk := ⟨_, rfl⟩
      rw [← hgko] at HLN
      have hgk1 : 1 ≤ gk := by have := HLN.out; omega
      rw [← hgko] at hgk1
      have HGK := Lib.hid hgko
      clear hgko
      have hx30 : Hid (x1 = (x1 + (0 : Nat)) % 31) := by show x1 = (x1 + (0 : Nat)) % 31; omega
      go_wp2_with fail
      go_loopg [5] D (fun n s wr => ∃ d : Nat, d + n = D ∧ s = .int .i64 ((x1 + d) % 31) ∧ wr = wa)
      case atStart => exact ⟨0, by omega, by rw [← hx30.out], rfl⟩
      case round =>
        obtain ⟨d, hdn, rfl, rfl⟩ := hrel
        have hDN := Lib.hid hdn
        have hdD : d ≤ D := by omega
        clear hdn
        obtain ⟨X, hX⟩ : ∃ X, X = (x1 + d) % 31 := ⟨_, rfl⟩
        have hXr : 0 ≤ X ∧ X ≤ 30 := by omega
        have hXs : (X + 1) % 31 = (x1 + (d + 1 : Nat)) % 31 := by omega
        have hh := has_any a5 l l.length c5 X wr hrd2 rfl (by omega)
        rw [← hX]
        by_cases e : d = D
        · have hI : inL l X = false := inL_no (by rw [hX, e]; exact HNO.out)
          rw [hI] at hh
          have HH := Lib.hid hh
          clear e hI hh hX hXs
          go_wp2_with fail
          refine HH.out.mono ?_
          rintro e w' ⟨rfl, rfl⟩
          go_wp2_with (at_builtin; refine push_int rfl (.tmp 22) (.tmp 24) rfl w.heap.size _ l X rfl ho rfl (by omega) hza ?_)
          intro v' we oe ne ge
          have hRe := hRa.kept ge (fun k hk => by have := (ho.lt k hk).1; omega)
          have hge := grownBy_own hg ho (Nat.le_refl _) ge
          have hsm2 : ∀ x ∈ l ++ [X], -1 ≤ x ∧ x ≤ 31 := by
            intro x hx
            rcases List.mem_append.1 hx with h | h
            · exact HSM.out x h
            · simp only [List.mem_singleton] at h; subst h; omega
          clear ge ho hg hRa
          go_wp2
          go_roundg (gko - 1)
          case measure => have := HGK.out; omega
          case rel => exact ⟨l ++ [X], q + 1, by have := HLN.out; simp; omega, oe, hsm2, hRe, by simp; omega, hge⟩
        · have hI : inL l X = true := inL_yes (by rw [hX]; exact HIN.out d (by omega))
          rw [hI] at hh
          have HH := Lib.hid hh
          have HXS := Lib.hid hXs
          clear hI hh hX hXs
          go_wp2_with fail
          refine HH.out.mono ?_
          rintro e w' ⟨rfl, rfl⟩
          go_wp2
          go_roundg (gk - 1)
          case measure => have := hDN.out; omega
          case rel => exact ⟨d + 1, by have := hDN.out; omega, by rw [← HXS.out], rfl⟩
    · clear hrd
      go_wp2_with fail
      refine (pick_any g q _ _ hR (by omega) (by omega)).mono ?_
      rintro e wa ⟨x1, rfl, hx1, hRa, hga⟩
      replace ho := ho.kept hga (ho.ne_g zg)
      replace hg := grownBy_trans hg hga
      have hza := hg.size
      have hga2 := hRa.lt
      clear hx1 hga hR
      by_cases hx0 : x1 = 0
      · have hd2 : (x1 == 0) = true := by simp [hx0]
        clear hx0
        go_wp2_with fail
        refine (one_lit g (q + 1) wa [31, -1] 2 hRa (by omega) (by simp) (by simp) rfl).mono ?_
        rintro e wb ⟨z, rfl, hzz, hR3, hg3⟩
        have hz2 : -1 ≤ z ∧ z ≤ 31 := by simp at hzz; omega
        have hob := ho.kept hg3 (ho.ne_g zg)
        have hgb := grownBy_trans hg hg3
        have hzb := hgb.size
        clear hzz hg3 ho hg hRa
        go_wp2_with (at_builtin; refine push_int rfl (.tmp 30) (.tmp 34) rfl w.heap.size (.slice a5 l.length c5) l z rfl hob rfl (by omega) hzb ?_)
        intro v' we oe ne ge
        have hRe := hR3.kept ge (fun k hk => by have := (hob.lt k hk).1; omega)
        have hge := grownBy_own hgb hob (Nat.le_refl _) ge
        have hsm2 : ∀ x ∈ l ++ [z], -1 ≤ x ∧ x ≤ 31 := by
          intro x hx
          rcases List.mem_append.1 hx with h | h
          · exact HSM.out x h
          · simp only [List.mem_singleton] at h; subst h; omega
        clear ge hob hgb hR3
        go_wp2
        go_ret
        exact ⟨v', _, _, rfl, oe, by simp; omega, hsm2, hRe, by omega, hge⟩
      by_cases hx01 : x1 = 1
      · have hd2 : (x1 == 0) = false := by simpa using hx0
        have hd3 : (x1 == 1) = true := by simp [hx01]
        clear hx0 hx01
        go_wp2_with (at_builtin; refine push_two rfl (.tmp 38) (.tmp 39) rfl w.heap.size (.slice a5 l.length c5) l 3 3 rfl ho rfl (by omega) hza ?_)
        intro v' we oe ne ge
        have hRe := hRa.kept ge (fun k hk => by have := (ho.lt k hk).1; omega)
        have hge := grownBy_own hg ho (Nat.le_refl _) ge
        have hs2 : ∀ x ∈ l ++ [3, 3], -1 ≤ x ∧ x ≤ 31 := by
          intro x hx
          rcases List.mem_append.1 hx with h | h
          · exact HSM.out x h
          · simp at h; subst h; omega
        clear ge ho hg hRa
        go_wp2
        go_ret
        exact ⟨v', _, _, rfl, oe, by simp; omega, hs2, hRe, by omega, hge⟩
      · have hd2 : (x1 == 0) = false := by simpa using hx0
        have hd3 : (x1 == 1) = false := by simpa using hx01
        clear hx0 hx01
        go_wp2
        go_ret
        exact ⟨_, l, _, rfl, ho, by omega, HSM.out, hRa, by omega, hg⟩
theorem someKeys_any (g p : Nat) (w : World) (hR : Rdr w g p) (hp : p ≤ 900000) :
    Calls Tryz.prog 46 #[.pointer (some ⟨g, 0, none⟩)] w fun e w' => ∃ (v : Value) (l : List Int) (q : Nat), e = .returned v ∧ Own w' w.heap.size v l ∧ l.length ≤ 9 ∧ (∀ x ∈ l, -1 ≤ x ∧ x ≤ 31) ∧ Rdr w' g q ∧ w.grownBy w' (some g) := by
  refine (someKeysQ_any g p w hR hp).mono ?_
  rintro e w' ⟨v, l, q, h1, h2, h3, h4, h5, _, h6⟩
  exact ⟨v, l, q, h1, h2, h3, h4, h5, h6⟩

end Go.Proofs.YtoaiaindcmihjaaGreatDoor
/-
  Chapter 6's draws: names.
-/
namespace Go.Proofs.YtoaiaindcmihjaaGreatDoor
open Go.RowKit

/-- Some number is not among fewer than 64: how far it is. -/
theorem next_freeN (l : List Int) (x : Int) (hx : 0 ≤ x ∧ x ≤ 63) (hl : l.length ≤ 20) : ∃ D : Nat, D ≤ 63 ∧ (x + D) % 64 ∉ l ∧ ∀ d : Nat, d < D → (x + d) % 64 ∈ l := by
  have hex : ∃ D : Nat, D ≤ 63 ∧ (x + D) % 64 ∉ l := by
    apply Classical.byContradiction
    intro hn
    have := php 63 l (fun d => (x + d) % 64) (fun i j a b e => by have e' : (x + i) % 64 = (x + j) % 64 := e; omega) (fun i a => Classical.byContradiction fun h => hn ⟨i, a, h⟩)
    omega
  have key : ∀ n : Nat, (∃ D : Nat, D ≤ n ∧ D ≤ 63 ∧ (x + D) % 64 ∉ l) → ∃ D : Nat, D ≤ 63 ∧ (x + D) % 64 ∉ l ∧ ∀ d : Nat, d < D → (x + d) % 64 ∈ l := by
    intro n
    induction n with
    | zero =>
      rintro ⟨D, h1, h2, h3⟩
      exact ⟨D, h2, h3, fun d hd => by omega⟩
    | succ n ih =>
      rintro ⟨D, h1, h2, h3⟩
      by_cases e : ∃ D : Nat, D ≤ n ∧ D ≤ 63 ∧ (x + D) % 64 ∉ l
      · exact ih e
      · refine ⟨D, h2, h3, fun d hd => Classical.byContradiction fun h => e ⟨d, by omega, by omega, h⟩⟩
  obtain ⟨D, h1, h2⟩ := hex
  exact key D ⟨D, Nat.le_refl _, h1, h2⟩

set_option maxHeartbeats 8000000 in
set_option maxRecDepth 100000 in
theorem someNames_any (g p : Nat) (w : World) (hR : Rdr w g p) (hp : p ≤ 900000) :
    Calls Tryz.prog 28 #[.pointer (some ⟨g, 0, none⟩)] w fun e w' => ∃ (v : Value) (l : List Int) (q : Nat), e = .returned v ∧ Own w' w.heap.size v l ∧ l.length ≤ 15 ∧ (∀ x ∈ l, -1 ≤ x ∧ x ≤ 64) ∧ Rdr w' g q ∧ q ≤ p + 100 ∧ w.grownBy w' (some g) := by
  have zg := hR.lt
  go_enter Tryz.func28, Tryz.ntmps28
  have ho1 : Own (w.alloc (.cells #[] 3)) w.heap.size (.slice (some ⟨w.heap.size, 0, none⟩) 0 0) [] := (Own.lit0 w w.heap.size (Nat.le_refl _))
  have hR2 := hR.below ((Below.refl w.heap.size w).alloc (Nat.le_refl _) (.cells #[] 3))
  have hg2 := World.grownBy_alloc w (.cells #[] 3) (some g)
  obtain ⟨w0, e0⟩ : ∃ w0, w0 = w.alloc (.cells #[] 3) := ⟨_, rfl⟩
  rw [← e0] at ho1 hR2 hg2
  have E0 := Lib.hid e0
  have z0 : w0.heap.size = w.heap.size + 1 := by rw [e0]; simp
  have hone := one_lit g p w0 [5, 6, 4, 8, 3, 12, 2, 1, 0] 9 hR2 (by omega) (by simp) (by simp) rfl
  rw [z0] at hone
  have HONE := Lib.hid hone
  clear e0 hR hR2 hone
  go_wp2_with fail
  rw [← E0.out]
  refine HONE.out.mono ?_
  rintro e w2 ⟨nn, rfl, hnn, hR3, hg3⟩
  have hnn2 : nn ≤ 12 := by simp at hnn; omega
  have ho2 := ho1.kept hg3 (by simp [Value.ownBlock]; omega)
  have hg4 := grownBy_trans hg2 hg3
  clear hnn hg3 hg2 ho1 HONE
  go_wp2
  go_loopg [3] 13 (fun n v wr => ∃ (l : List Int) (q : Nat), l.length + n = 13 ∧ Own wr w.heap.size v l ∧ (∀ x ∈ l, -1 ≤ x ∧ x ≤ 64) ∧ Rdr wr g q ∧ q ≤ p + 1 + 4 * l.length ∧ w.grownBy wr (some g))
  case atStart => exact ⟨[], p + 1, by simp, ho2, by simp, hR3, by simp, hg4⟩
  case round =>
    clear ho2 hR3 hg4
    obtain ⟨l, q, hln, ho, hsm, hR, hq, hg⟩ := hrel
    obtain ⟨a5, c5, rfl, hrd, hlc, hcm, hblk⟩ := ho.form
    have hz := hg.size
    have HLN := Lib.hid hln
    have hl7 : l.length ≤ 13 := by omega
    have HSM := Lib.hid hsm
    clear hln hblk hcm hsm
    by_cases hlt : (l.length : Int) < nn
    · go_wp2_with fail
      refine (pick_any g q _ _ hR (by omega) (by omega)).mono ?_
      rintro e wb ⟨y1, rfl, hy1, hRb, hgb⟩
      have hy1' := hy1.1 (by omega)
      replace ho := ho.kept hgb (ho.ne_g zg)
      replace hg := grownBy_trans hg hgb
      clear hy1 hgb hR
      go_wp2_with fail
      refine (pick_any g (q + 1) _ _ hRb (by omega) (by omega)).mono ?_
      rintro e wc ⟨y2, rfl, hy2, hRc, hgc⟩
      have hy2' := hy2.1 (by omega)
      replace ho := ho.kept hgc (ho.ne_g zg)
      replace hg := grownBy_trans hg hgc
      have e8 : IntKind.i64.wrap (8 * y2) = 8 * y2 := IntWalk.i64_in _ (by omega)
      clear hy2 hgc hRb
      go_wp2_with fail
      refine (pick_any g (q + 1 + 1) _ _ hRc (by omega) (by omega)).mono ?_
      rintro e wd ⟨y3, rfl, hy3, hRd, hgd⟩
      have hy3' := hy3.1 (by omega)
      replace ho := ho.kept hgd (ho.ne_g zg)
      replace hg := grownBy_trans hg hgd
      clear hy3 hgd hRc
      go_wp2_with fail
      refine (one_lit g (q + 1 + 1 + 1) wd [y1, 8 * y2, y3] 3 hRd (by omega) (by simp) (by simp) rfl).mono ?_
      rintro e wa ⟨x1, rfl, hx1, hRa, hga⟩
      have hx1' : 0 ≤ x1 ∧ x1 ≤ 63 := by simp at hx1; omega
      replace ho := ho.kept hga (ho.ne_g zg)
      replace hg := grownBy_trans hg hga
      have hza := hg.size
      have hrd2 := ho.reads
      have hR := hRd
      clear hRd
      obtain ⟨D, hD, hno, hin⟩ := next_freeN l x1 (by omega) (by omega)
      have HNO := Lib.hid hno
      have HIN := Lib.hid hin
      clear hx1 hga hR hrd hno hin
      obtain ⟨gko, hgko⟩ : ∃ y, y = gk := ⟨_, rfl⟩
      rw [← hgko] at HLN
      have hgk1 : 1 ≤ gk := by have := HLN.out; omega
      rw [← hgko] at hgk1
      have HGK := Lib.hid hgko
      clear hgko
      have hx30 : Hid (x1 = (x1 + (0 : Nat)) % 64) := by show x1 = (x1 + (0 : Nat)) % 64; omega
      go_wp2_with fail
      go_loopg [5] D (fun n s wr => ∃ d : Nat, d + n = D ∧ s = .int .i64 ((x1 + d) % 64) ∧ wr = wa)
      case atStart => exact ⟨0, by omega, by rw [← hx30.out], rfl⟩
      case round =>
        obtain ⟨d, hdn, rfl, rfl⟩ := hrel
        have hDN := Lib.hid hdn
        have hdD : d ≤ D := by omega
        clear hdn
        obtain ⟨X, hX⟩ : ∃ X, X = (x1 + d) % 64 := ⟨_, rfl⟩
        have hXr : 0 ≤ X ∧ X ≤ 63 := by omega
        have hXs : (X + 1) % 64 = (x1 + (d + 1 : Nat)) % 64 := by omega
        have hh := has_any a5 l l.length c5 X wr hrd2 rfl (by omega)
        rw [← hX]
        by_cases e : d = D
        · have hI : inL l X = false := inL_no (by rw [hX, e]; exact HNO.out)
          rw [hI] at hh
          have HH := Lib.hid hh
          clear e hI hh hX hXs
          go_wp2_with fail
          refine HH.out.mono ?_
          rintro e w' ⟨rfl, rfl⟩
          go_wp2_with (at_builtin; refine push_int rfl (.tmp 30) (.tmp 32) rfl w.heap.size _ l X rfl ho rfl (by omega) hza ?_)
          intro v' we oe ne ge
          have hRe := hRa.kept ge (fun k hk => by have := (ho.lt k hk).1; omega)
          have hge := grownBy_own hg ho (Nat.le_refl _) ge
          have hsm2 : ∀ x ∈ l ++ [X], -1 ≤ x ∧ x ≤ 64 := by
            intro x hx
            rcases List.mem_append.1 hx with h | h
            · exact HSM.out x h
            · simp only [List.mem_singleton] at h; subst h; omega
          clear ge ho hg hRa
          go_wp2
          go_roundg (gko - 1)
          case measure => have := HGK.out; omega
          case rel => exact ⟨l ++ [X], q + 1 + 1 + 1 + 1, by have := HLN.out; simp; omega, oe, hsm2, hRe, by simp; omega, hge⟩
        · have hI : inL l X = true := inL_yes (by rw [hX]; exact HIN.out d (by omega))
          rw [hI] at hh
          have HH := Lib.hid hh
          have HXS := Lib.hid hXs
          clear hI hh hX hXs
          go_wp2_with fail
          refine HH.out.mono ?_
          rintro e w' ⟨rfl, rfl⟩
          go_wp2
          go_roundg (gk - 1)
          case measure => have := hDN.out; omega
          case rel => exact ⟨d + 1, by have := hDN.out; omega, by rw [← HXS.out], rfl⟩
    · clear hrd
      go_wp2_with fail
      refine (pick_any g q _ _ hR (by omega) (by omega)).mono ?_
      rintro e wa ⟨x1, rfl, hx1, hRa, hga⟩
      replace ho := ho.kept hga (ho.ne_g zg)
      replace hg := grownBy_trans hg hga
      have hza := hg.size
      have hga2 := hRa.lt
      clear hx1 hga hR
      by_cases hx0 : x1 = 0
      · have hd2 : (x1 == 0) = true := by simp [hx0]
        clear hx0
        go_wp2_with fail
        refine (one_lit g (q + 1) wa [64, -1] 2 hRa (by omega) (by simp) (by simp) rfl).mono ?_
        rintro e wb ⟨z, rfl, hzz, hR3, hg3⟩
        have hz2 : -1 ≤ z ∧ z ≤ 64 := by simp at hzz; omega
        have hob := ho.kept hg3 (ho.ne_g zg)
        have hgb := grownBy_trans hg hg3
        have hzb := hgb.size
        clear hzz hg3 ho hg hRa
        go_wp2_with (at_builtin; refine push_int rfl (.tmp 38) (.tmp 42) rfl w.heap.size (.slice a5 l.length c5) l z rfl hob rfl (by omega) hzb ?_)
        intro v' we oe ne ge
        have hRe := hR3.kept ge (fun k hk => by have := (hob.lt k hk).1; omega)
        have hge := grownBy_own hgb hob (Nat.le_refl _) ge
        have hsm2 : ∀ x ∈ l ++ [z], -1 ≤ x ∧ x ≤ 64 := by
          intro x hx
          rcases List.mem_append.1 hx with h | h
          · exact HSM.out x h
          · simp only [List.mem_singleton] at h; subst h; omega
        clear ge hob hgb hR3
        go_wp2
        go_ret
        exact ⟨v', _, _, rfl, oe, by simp; omega, hsm2, hRe, by omega, hge⟩
      by_cases hx01 : x1 = 1
      · have hd2 : (x1 == 0) = false := by simpa using hx0
        have hd3 : (x1 == 1) = true := by simp [hx01]
        clear hx0 hx01
        go_wp2_with (at_builtin; refine push_two rfl (.tmp 46) (.tmp 47) rfl w.heap.size (.slice a5 l.length c5) l 5 5 rfl ho rfl (by omega) hza ?_)
        intro v' we oe ne ge
        have hRe := hRa.kept ge (fun k hk => by have := (ho.lt k hk).1; omega)
        have hge := grownBy_own hg ho (Nat.le_refl _) ge
        have hs2 : ∀ x ∈ l ++ [5, 5], -1 ≤ x ∧ x ≤ 64 := by
          intro x hx
          rcases List.mem_append.1 hx with h | h
          · exact HSM.out x h
          · simp at h; subst h; omega
        clear ge ho hg hRa
        go_wp2
        go_ret
        exact ⟨v', _, _, rfl, oe, by simp; omega, hs2, hRe, by omega, hge⟩
      · have hd2 : (x1 == 0) = false := by simpa using hx0
        have hd3 : (x1 == 1) = false := by simpa using hx01
        clear hx0 hx01
        go_wp2
        go_ret
        exact ⟨_, l, _, rfl, ho, by omega, HSM.out, hRa, by omega, hg⟩

end Go.Proofs.YtoaiaindcmihjaaGreatDoor
/-
  Chapter 6's draws: LineOf, LineMoves, TreeText.
-/
namespace Go.Proofs.YtoaiaindcmihjaaGreatDoor
open Go.RowKit

set_option maxHeartbeats 4000000 in
theorem drawTreeText_any (a : Option Addr) (n cap : Nat) (w : World) (hB : Bytes w w.heap.size a n) (hn : n ≤ 9223372036854775807) (hc : n ≤ cap) :
    Calls Tryz.prog 8 #[.slice a n cap] w fun e w' => ∃ (v : Value) (l : List Int), e = .returned v ∧ Own w' w.heap.size v l ∧ l.length ≤ 15 ∧ (∀ x ∈ l, -1 ≤ x ∧ x ≤ 64) ∧ Below w.heap.size w w' := by
  go_enter Tryz.func8, Tryz.ntmps8
  go_wp2_with fail
  refine (newReader_any a n cap w hB hn hc).mono ?_
  rintro e w1 ⟨rfl, R1, B1, s1⟩
  clear hB hn hc
  go_wp2_with fail
  refine (someNames_any w.heap.size 0 w1 R1 (by omega)).mono ?_
  rintro e w5 ⟨v, l, q, rfl, o5, hl, hx, R5, hq, g5⟩
  have B5 := B1.grown g5 B1.size (fun k hk => by cases hk; exact Nat.le_refl _)
  go_wp2
  go_ret
  exact ⟨v, l, rfl, o5.mono B1.size, hl, hx, B5⟩
end Go.Proofs.YtoaiaindcmihjaaGreatDoor
/-
  The reader's of; mutate; DrawReadTree.
-/
namespace Go.Proofs.YtoaiaindcmihjaaGreatDoor
open Go.RowKit

/-- The cells from an address on hold texts. -/
def SCells (w : World) (b off : Nat) (l : List (List UInt8)) : Prop := ∀ i, i < l.length → w.cell? ⟨b, off + i, none⟩ = some (.string (B8 (l.getD i [])))
theorem SCells.lit (w : World) (l : List (List UInt8)) : SCells (w.alloc (.cells (l.map fun s => Value.string (B8 s)).toArray 9)) w.heap.size 0 l := by
  intro i hi
  rw [cell_of_row _ _ _ _ _ _ (heap_alloc_new _ _)]
  simp [List.getD, hi]
set_option maxHeartbeats 1000000 in
theorem of_any (g p : Nat) (gl : Nat) (cap : Nat) (l : List (List UInt8)) (w : World) (hR : Rdr w g p) (hp : p ≤ 1000000) (hc : SCells w gl 0 l) (hgl : g < gl) (h0 : 0 < l.length) (hl : l.length ≤ 1000000) (n : Nat) (hn : l.length = n) :
    Calls Tryz.prog 43 #[.pointer (some ⟨g, 0, none⟩), .slice (some ⟨gl, 0, none⟩) n cap] w fun e w' => ∃ y, e = .returned (.string (B8 y)) ∧ y ∈ l ∧ Rdr w' g (p + 1) ∧ w.grownBy w' (some g) := by
  subst hn
  go_enter Tryz.func43, Tryz.ntmps43
  go_wp2_with fail
  refine (pick_any g p _ _ hR hp (by omega)).mono ?_
  rintro e w' ⟨y, rfl, hy, hR', hg⟩
  obtain ⟨y0, y1⟩ := hy.pos (by omega)
  obtain ⟨i, rfl⟩ := Int.eq_ofNat_of_zero_le y0
  have hil : i < l.length := by omega
  have hcell : w'.cell? ⟨gl, i, none⟩ = some (.string (B8 (l.getD i []))) := by
    have := hc i hil
    rw [Nat.zero_add] at this
    exact hg.cell this (by simp; omega)
  obtain ⟨x, hx⟩ : ∃ x, l.getD i [] = x := ⟨_, rfl⟩
  rw [hx] at hcell
  have hm : x ∈ l := by rw [← hx, List.getD_eq_getElem?_getD, List.getElem?_eq_getElem hil]; exact List.getElem_mem hil
  clear hx
  go_wp2
  go_ret
  exact ⟨x, rfl, hm, hR', hg⟩
theorem of_lit (g p : Nat) (w : World) (l : List (List UInt8)) (n : Nat) (hR : Rdr w g p) (hp : p ≤ 1000000) (h0 : 0 < l.length) (hl : l.length ≤ 1000000) (hn : l.length = n) :
    Calls Tryz.prog 43 #[.pointer (some ⟨g, 0, none⟩), .slice (some ⟨w.heap.size, 0, none⟩) n n] (w.alloc (.cells (l.map fun s => Value.string (B8 s)).toArray 9)) fun e w' => ∃ y, e = .returned (.string (B8 y)) ∧ y ∈ l ∧ Rdr w' g (p + 1) ∧ w.grownBy w' (some g) := by
  have hlt := hR.lt
  refine (of_any g p w.heap.size n l _ (hR.below ((Below.refl _ _).alloc (Nat.le_refl _) _)) hp (SCells.lit w l) hlt h0 hl n hn).mono ?_
  rintro e w' ⟨y, rfl, hy, hR', hg⟩
  exact ⟨y, rfl, hy, hR', grownBy_trans (World.grownBy_alloc w _ _) hg⟩
theorem B8_take (s : List UInt8) (k : Nat) : (B8 s).extract 0 k = B8 (s.take k) := by
  rw [ByteArray.extract_mk]; simp
set_option maxHeartbeats 8000000 in
set_option maxRecDepth 100000 in
theorem mutate_any (g p : Nat) (s : List UInt8) (w : World) (hR : Rdr w g p) (hp : p ≤ 800000) (hs : s.length ≤ 2000) :
    Calls Tryz.prog 38 #[.pointer (some ⟨g, 0, none⟩), .string (B8 s)] w fun e w' => ∃ (t : List UInt8) (q : Nat), e = .returned (.string (B8 t)) ∧ t.length ≤ s.length + 1 ∧ Rdr w' g q ∧ q ≤ p + 3 ∧ w.grownBy w' (some g) := by
  have hsz := B8_size s
  have htk := B8_take s
  have hdr := B8_drop s
  have hap := fun t => B8_app s t
  obtain ⟨S, hS⟩ : ∃ S, S = B8 s := ⟨_, rfl⟩
  rw [← hS] at hsz htk hdr hap ⊢
  obtain ⟨N, hN⟩ : ∃ N, N = s.length := ⟨_, rfl⟩
  rw [← hN] at hsz hdr hs ⊢
  have HN := Lib.hid hN
  have HS := Lib.hid hS
  have HTK := Lib.hid htk
  have HDR := Lib.hid hdr
  have HAP := Lib.hid hap
  clear hN hS htk hdr hap
  go_enter Tryz.func38, Tryz.ntmps38
  go_wp2_with fail
  refine (pick_any g p _ _ hR (by omega) (by omega)).mono ?_
  rintro e w1 ⟨kk, rfl, hk, R1, g1⟩
  have hk' := hk.1 (by omega)
  obtain ⟨k, rfl⟩ : ∃ k : Nat, kk = k := ⟨kk.toNat, by omega⟩
  clear hk hR
  go_wp2_with fail
  refine (pick_any g (p + 1) _ _ R1 (by omega) (by omega)).mono ?_
  rintro e w2 ⟨z, rfl, hz, R2, g2⟩
  have hz' := hz.1 (by omega)
  have G2 := grownBy_trans g1 g2
  clear hz g1 g2 R1
  have hz5 : z = 0 ∨ z = 1 ∨ z = 2 ∨ z = 3 ∨ z = 4 := by omega
  rcases hz5 with rfl | rfl | rfl | rfl | rfl
  · by_cases hkN : k < N
    · have kN : (k : Int) < (N : Int) := by omega
      have e1 : IntKind.i64.wrap ((k : Int) + 1) = ((k + 1 : Nat) : Int) := by rw [IntWalk.i64_in _ (by omega)]; omega
      have k1 : (k : Int) + 1 ≤ (N : Int) := by omega
      have k2 : (k : Int) ≤ (N : Int) := by omega
      have k0 : (0 : Int) ≤ (k : Int) + 1 := by omega
      have lim1 : ¬ 9223372036854775807 < k + 1 := by omega
      have lim2 : ¬ 9223372036854775807 < k + 1 + (N - (k + 1)) := by omega
      have ht := HTK.out k
      have hd := HDR.out (k + 1)
      have hT : (s.take k).length = k := by rw [List.length_take]; have := HN.out; omega
      have hD : (s.drop (k + 1)).length = N - (k + 1) := by rw [List.length_drop]; have := HN.out; omega
      have ha : ∀ y : List UInt8, B8 (s.take k) ++ B8 y = B8 (s.take k ++ y) := fun y => B8_app _ _
      obtain ⟨T, hTT⟩ : ∃ T, T = s.take k := ⟨_, rfl⟩
      obtain ⟨D, hDD⟩ : ∃ D, D = s.drop (k + 1) := ⟨_, rfl⟩
      rw [← hTT] at ht hT ha
      rw [← hDD] at hd hD
      have hof : Calls Tryz.prog 43 #[.pointer (some ⟨g, 0, none⟩), .slice (some ⟨w2.heap.size, 0, none⟩) 7 7] (w2.alloc (.cells #[.string ⟨#[48]⟩, .string ⟨#[49]⟩, .string ⟨#[55]⟩, .string ⟨#[44]⟩, .string ⟨#[40]⟩, .string ⟨#[46]⟩, .string ⟨#[32]⟩] 9)).drew fun e w' => ∃ y, e = .returned (.string (B8 y)) ∧ y.length = 1 ∧ Hid (Rdr w' g (p + 2 + 1)) ∧ Hid (w2.grownBy w' (some g)) := by
        refine (of_lit g (p + 2) w2.drew [[48], [49], [55], [44], [40], [46], [32]] 7 (R2.of_block fun _ _ => rfl) (by omega) (by simp) (by simp) rfl).mono ?_
        rintro e w' ⟨y, rfl, hy, hR', hg⟩
        exact ⟨y, rfl, by simp at hy; rcases hy with h | h | h | h | h | h | h <;> rw [h] <;> rfl, hR', ⟨hg.os, hg.tape, hg.output, hg.size, hg.block⟩⟩
      have HOF := Lib.hid hof
      have HA := Lib.hid ha
      clear hof hTT hDD ha HTK HDR HAP R2
      go_wp2_with fail
      go_region_law (go_simp; go_at_call 43; refine HOF.out.mono ?_; rintro e w3 ⟨y, rfl, hy1, R3, g3⟩; try dsimp only)
      all_goals
        have G3 := grownBy_trans G2 g3.out
        go_wp2
        go_ret
        exact ⟨T ++ y ++ D, p + 2 + 1, by rw [← B8_app, ← B8_app]; rfl, by simp only [List.length_append]; omega, R3.out, by omega, G3⟩
    · have kN : ¬ (k : Int) < (N : Int) := by omega
      go_wp2
      go_ret
      exact ⟨s, p + 2, by rw [HS.out]; rfl, by have := HN.out; omega, R2, by omega, G2⟩
  · by_cases hkN : k < N
    · have kN : (k : Int) < (N : Int) := by omega
      have e1 : IntKind.i64.wrap ((k : Int) + 1) = ((k + 1 : Nat) : Int) := by rw [IntWalk.i64_in _ (by omega)]; omega
      have k1 : (k : Int) + 1 ≤ (N : Int) := by omega
      have k2 : (k : Int) ≤ (N : Int) := by omega
      have k0 : (0 : Int) ≤ (k : Int) + 1 := by omega
      have lim1 : ¬ 9223372036854775807 < k + 1 := by omega
      have lim2 : ¬ 9223372036854775807 < k + 1 + (N - (k + 1)) := by omega
      have ht := HTK.out k
      have hd := HDR.out (k + 1)
      have hT : (s.take k).length = k := by rw [List.length_take]; have := HN.out; omega
      have hD : (s.drop (k + 1)).length = N - (k + 1) := by rw [List.length_drop]; have := HN.out; omega
      have ha : ∀ y : List UInt8, B8 (s.take k) ++ B8 y = B8 (s.take k ++ y) := fun y => B8_app _ _
      obtain ⟨T, hTT⟩ : ∃ T, T = s.take k := ⟨_, rfl⟩
      obtain ⟨D, hDD⟩ : ∃ D, D = s.drop (k + 1) := ⟨_, rfl⟩
      rw [← hTT] at ht hT ha
      rw [← hDD] at hd hD
      have hof : Calls Tryz.prog 43 #[.pointer (some ⟨g, 0, none⟩), .slice (some ⟨w2.heap.size, 0, none⟩) 7 7] (w2.alloc (.cells #[.string ⟨#[48]⟩, .string ⟨#[49]⟩, .string ⟨#[55]⟩, .string ⟨#[44]⟩, .string ⟨#[40]⟩, .string ⟨#[46]⟩, .string ⟨#[32]⟩] 9)).drew fun e w' => ∃ y, e = .returned (.string (B8 y)) ∧ y.length = 1 ∧ Hid (Rdr w' g (p + 2 + 1)) ∧ Hid (w2.grownBy w' (some g)) := by
        refine (of_lit g (p + 2) w2.drew [[48], [49], [55], [44], [40], [46], [32]] 7 (R2.of_block fun _ _ => rfl) (by omega) (by simp) (by simp) rfl).mono ?_
        rintro e w' ⟨y, rfl, hy, hR', hg⟩
        exact ⟨y, rfl, by simp at hy; rcases hy with h | h | h | h | h | h | h <;> rw [h] <;> rfl, hR', ⟨hg.os, hg.tape, hg.output, hg.size, hg.block⟩⟩
      have HOF := Lib.hid hof
      have HA := Lib.hid ha
      clear hof hTT hDD ha HTK HDR HAP R2
      go_wp2_with fail
      go_region_law (go_simp; go_at_call 43; refine HOF.out.mono ?_; rintro e w3 ⟨y, rfl, hy1, R3, g3⟩; try dsimp only)
      all_goals
        have G3 := grownBy_trans G2 g3.out
        go_wp2
        go_ret
        exact ⟨T ++ y ++ D, p + 2 + 1, by rw [← B8_app, ← B8_app]; rfl, by simp only [List.length_append]; omega, R3.out, by omega, G3⟩
    · have kN : ¬ (k : Int) < (N : Int) := by omega
      go_wp2
      go_ret
      exact ⟨s, p + 2, by rw [HS.out]; rfl, by have := HN.out; omega, R2, by omega, G2⟩
  · have ht := HTK.out k
    have k2 : (k : Int) ≤ (N : Int) := by omega
    have hT : (s.take k).length ≤ N := by rw [List.length_take]; have := HN.out; omega
    go_wp2
    go_ret
    exact ⟨s.take k, p + 2, rfl, by omega, R2, by omega, G2⟩
  · have hof : Calls Tryz.prog 43 #[.pointer (some ⟨g, 0, none⟩), .slice (some ⟨w2.heap.size, 0, none⟩) 4 4] (w2.alloc (.cells #[.string ⟨#[48]⟩, .string ⟨#[44]⟩, .string ⟨#[32]⟩, .string ⟨#[41]⟩] 9)) fun e w' => ∃ y, e = .returned (.string (B8 y)) ∧ y.length = 1 ∧ Rdr w' g (p + 2 + 1) ∧ w2.grownBy w' (some g) := by
      refine (of_lit g (p + 2) w2 [[48], [44], [32], [41]] 4 R2 (by omega) (by simp) (by simp) rfl).mono ?_
      rintro e w' ⟨y, rfl, hy, hR', hg⟩
      exact ⟨y, rfl, by simp at hy; rcases hy with h | h | h | h <;> rw [h] <;> rfl, hR', hg⟩
    have HOF := Lib.hid hof
    clear hof HTK HDR R2
    go_wp2_with fail
    refine HOF.out.mono ?_
    rintro e w3 ⟨y, rfl, hy1, R3, g3⟩
    have G3 := grownBy_trans G2 g3
    go_wp2
    go_ret
    exact ⟨s ++ y, p + 2 + 1, by rw [← HAP.out]; rfl, by have := HN.out; rw [List.length_append]; omega, R3, by omega, G3⟩
  · go_wp2
    go_ret
    exact ⟨s, p + 2, by rw [HS.out]; rfl, by have := HN.out; omega, R2, by omega, G2⟩
end Go.Proofs.YtoaiaindcmihjaaGreatDoor
/-
  The draws of chapter 1 that give homes, and AllLooks' two numbers.
-/
namespace Go.Proofs.YtoaiaindcmihjaaGreatDoor
open Go.RowKit

theorem bytes_of_row {w : World} {a : Option Addr} {len cap : Nat} {zs : List Int}
    (h : (a = none ∧ len = 0 ∧ cap = 0 ∧ zs = []) ∨
      ∃ x, a = some x ∧ len ≤ cap ∧ cap ≤ maxLen ∧ zs.length = cap ∧ (∀ i, i < zs.length → w.cell? (x.add i) = some (.int .u8 (zs.getD i 0))) ∧ ∀ n ∈ zs, (Lit.int .u8 n).wf = true) :
    Bytes w w.heap.size a len ∧ len ≤ 9223372036854775807 ∧ len ≤ cap := by
  rcases h with ⟨rfl, rfl, rfl, rfl⟩ | ⟨x, rfl, h1, h2, h3, h4, h5⟩
  · exact ⟨.inl rfl, by omega, by omega⟩
  · unfold maxLen at h2
    refine ⟨?_, by omega, h1⟩
    by_cases h0 : len = 0
    · exact .inl h0
    · obtain ⟨b, off, spot⟩ := x
      have hc := h4 0 (by omega)
      have hspot : spot = none := by simpa [Addr.add] using World.cell?_spot hc
      subst hspot
      refine .inr ⟨b, off, rfl, ?_, fun i hi => ?_⟩
      · have := World.block_lt_of_cell? w _ hc
        simpa [Addr.add] using this
      · have hm : zs.getD i 0 ∈ zs := by
          have hi2 : i < zs.length := by omega
          simp only [List.getD, List.getElem?_eq_getElem hi2, Option.getD_some]
          exact List.getElem_mem hi2
        have h6 := h5 _ hm
        clear hm
        have h7 := h4 i (by omega)
        rw [Addr.add_lit] at h7
        generalize zs.getD i 0 = y at h6 h7
        refine ⟨y, ?_, ?_, h7⟩
        all_goals (simp [Lit.wf, IntKind.min, IntKind.max, IntKind.signed, IntKind.bits] at h6; omega)

/-- A row of one's own stands above a smaller number too. -/
theorem Own.base {w : World} {base base' : Nat} {v : Value} {l : List Int} (h : Own w base v l) (hb : base' ≤ base) : Own w base' v l := by
  refine ⟨h.1, ?_⟩
  rcases h.2 with h | ⟨g, cap, cur, h1, h2, h3⟩
  · exact .inl h
  · exact .inr ⟨g, cap, cur, h1, Nat.le_trans hb h2, h3⟩

end Go.Proofs.YtoaiaindcmihjaaGreatDoor
/-
  Chapter 4's draws that give rings and keys.
-/
namespace Go.Proofs.YtoaiaindcmihjaaGreatDoor
open Go.RowKit

theorem one_litR (g p : Nat) (w : World) (l : List Int) (n : Nat) (hR : Rdr w g p) (hp : p ≤ 1000000) (h0 : 0 < l.length) (hl : l.length ≤ 1000000) (hn : l.length = n) :
    Calls Tryz.prog 41 #[.pointer (some ⟨g, 0, none⟩), .slice (some ⟨w.heap.size, 0, none⟩) n n] (w.alloc (.cells (l.map (Value.int .i64)).toArray 3)) fun e w' => ∃ y, e = .returned (.int .i64 y) ∧ y ∈ l ∧ Rdr w' g (p + 1) ∧ w.grownBy w' (some g) := by
  have hlt := hR.lt
  refine (one_any g p w.heap.size n l _ (hR.below ((Below.refl _ _).alloc (Nat.le_refl _) _)) hp (CellsAt.lit w l) hlt h0 hl n hn).mono ?_
  rintro e w' ⟨y, rfl, hy, hR', hg⟩
  exact ⟨y, rfl, hy, hR', grownBy_trans (World.grownBy_alloc w _ _) hg⟩

theorem phpR : ∀ (n : Nat) (l : List Int) (f : Nat → Int), (∀ i j, i ≤ n → j ≤ n → f i = f j → i = j) → (∀ i, i ≤ n → f i ∈ l) → n < l.length := by
  intro n
  induction n with
  | zero => intro l f _ h; exact List.length_pos_of_mem (h 0 (Nat.le_refl _))
  | succ n ih =>
    intro l f hi h
    have h1 := h (n + 1) (Nat.le_refl _)
    have h2 := ih (l.erase (f (n + 1))) f (fun i j a b => hi i j (by omega) (by omega)) (fun i a => by
      rw [List.mem_erase_of_ne]
      · exact h i (by omega)
      · intro e; have := hi i (n + 1) (by omega) (Nat.le_refl _) e; omega)
    rw [List.length_erase_of_mem h1] at h2
    omega
/-- Some number is not among fewer than 64: how far it is. -/
theorem next_free64 (l : List Int) (x : Int) (hx : 0 ≤ x ∧ x ≤ 63) (hl : l.length ≤ 20) : ∃ D : Nat, D ≤ 63 ∧ (x + D) % 64 ∉ l ∧ ∀ d : Nat, d < D → (x + d) % 64 ∈ l := by
  have hex : ∃ D : Nat, D ≤ 63 ∧ (x + D) % 64 ∉ l := by
    apply Classical.byContradiction
    intro hn
    have := phpR 63 l (fun d => (x + d) % 64) (fun i j a b e => by have e' : (x + i) % 64 = (x + j) % 64 := e; omega) (fun i a => Classical.byContradiction fun h => hn ⟨i, a, h⟩)
    omega
  have key : ∀ n : Nat, (∃ D : Nat, D ≤ n ∧ D ≤ 63 ∧ (x + D) % 64 ∉ l) → ∃ D : Nat, D ≤ 63 ∧ (x + D) % 64 ∉ l ∧ ∀ d : Nat, d < D → (x + d) % 64 ∈ l := by
    intro n
    induction n with
    | zero =>
      rintro ⟨D, h1, h2, h3⟩
      exact ⟨D, h2, h3, fun d hd => by omega⟩
    | succ n ih =>
      rintro ⟨D, h1, h2, h3⟩
      by_cases e : ∃ D : Nat, D ≤ n ∧ D ≤ 63 ∧ (x + D) % 64 ∉ l
      · exact ih e
      · refine ⟨D, h2, h3, fun d hd => Classical.byContradiction fun h => e ⟨d, by omega, by omega, h⟩⟩
  obtain ⟨D, h1, h2⟩ := hex
  exact key D ⟨D, Nat.le_refl _, h1, h2⟩

theorem Reads.get0 {w : World} {a : Option Addr} {l : List Int} (h : Reads w a l) (hl : 0 < l.length) : ∃ y, (∃ b, a = some b ∧ w.cell? b = some (.int .i64 y)) ∧ Hid (l.getD 0 0 = y) := by
  obtain ⟨b, off, y, e, _, hc, hy⟩ := h.get hl
  exact ⟨y, ⟨⟨b, off, none⟩, e, hc⟩, hy⟩
set_option maxHeartbeats 4000000 in
theorem someRing_any (g p : Nat) (w : World) (hR : Rdr w g p) (hp : p ≤ 900000) :
    Calls Tryz.prog 45 #[.pointer (some ⟨g, 0, none⟩)] w fun e w' => ∃ (v : Value) (l : List Int) (q : Nat), e = .returned v ∧ Own w' w.heap.size v l ∧ l.length ≤ 9 ∧ (∀ x ∈ l, -1 ≤ x ∧ x ≤ 64) ∧ Rdr w' g q ∧ q ≤ p + 100 ∧ w.grownBy w' (some g) := by
  have zg := hR.lt
  go_enter Tryz.func45, Tryz.ntmps45
  have ho1 : Own (w.alloc (.cells #[] 3)) w.heap.size (.slice (some ⟨w.heap.size, 0, none⟩) 0 0) [] := (Own.lit0 w w.heap.size (Nat.le_refl _))
  have hR2 := hR.below ((Below.refl w.heap.size w).alloc (Nat.le_refl _) (.cells #[] 3))
  have hg2 := World.grownBy_alloc w (.cells #[] 3) (some g)
  obtain ⟨w0, e0⟩ : ∃ w0, w0 = w.alloc (.cells #[] 3) := ⟨_, rfl⟩
  rw [← e0] at ho1 hR2 hg2
  have E0 := Lib.hid e0
  have z0 : w0.heap.size = w.heap.size + 1 := by rw [e0]; simp
  have hone := one_litR g p w0 [3, 4, 2, 5, 1, 6] 6 hR2 (by omega) (by simp) (by simp) rfl
  rw [z0] at hone
  have HONE := Lib.hid hone
  clear e0 hR hR2 hone
  go_wp2_with fail
  rw [← E0.out]
  refine HONE.out.mono ?_
  rintro e w2 ⟨nn, rfl, hnn, hR3, hg3⟩
  have hnn2 : 1 ≤ nn ∧ nn ≤ 6 := by simp at hnn; omega
  have ho2 := ho1.kept hg3 (by simp [Value.ownBlock]; omega)
  have hg4 := grownBy_trans hg2 hg3
  clear hnn hg3 hg2 ho1 HONE
  go_wp2
  go_loopg [3] 7 (fun n v wr => ∃ (l : List Int) (q : Nat), l.length + n = 7 ∧ Own wr w.heap.size v l ∧ (∀ x ∈ l, -1 ≤ x ∧ x ≤ 64) ∧ Rdr wr g q ∧ q ≤ p + 1 + l.length ∧ w.grownBy wr (some g))
  case atStart => exact ⟨[], p + 1, by simp, ho2, by simp, hR3, by simp, hg4⟩
  case round =>
    clear ho2 hR3 hg4
    obtain ⟨l, q, hln, ho, hsm, hR, hq, hg⟩ := hrel
    obtain ⟨a5, c5, rfl, hrd, hlc, hcm, hblk⟩ := ho.form
    have hz := hg.size
    have HLN := Lib.hid hln
    have hl7 : l.length ≤ 7 := by omega
    have HSM := Lib.hid hsm
    clear hln hblk hcm hsm
    by_cases hlt : (l.length : Int) < nn
    · go_wp2_with fail
      refine (pick_any g q _ _ hR (by omega) (by omega)).mono ?_
      rintro e wa ⟨x1, rfl, hx1, hRa, hga⟩
      have hx1' := hx1.1 (by omega)
      replace ho := ho.kept hga (ho.ne_g zg)
      replace hg := grownBy_trans hg hga
      have hza := hg.size
      have hrd2 := ho.reads
      obtain ⟨D, hD, hno, hin⟩ := next_free64 l x1 (by omega) (by omega)
      have HNO := Lib.hid hno
      have HIN := Lib.hid hin
      clear hx1 hga hR hrd hno hin
      obtain ⟨gko, hgko⟩ : ∃ y, y = gk := ⟨_, rfl⟩
      rw [← hgko] at HLN
      have hgk1 : 1 ≤ gk := by have := HLN.out; omega
      rw [← hgko] at hgk1
      have HGK := Lib.hid hgko
      clear hgko
      have hx30 : Hid (x1 = (x1 + (0 : Nat)) % 64) := by show x1 = (x1 + (0 : Nat)) % 64; omega
      go_wp2_with fail
      go_loopg [5] D (fun n s wr => ∃ d : Nat, d + n = D ∧ s = .int .i64 ((x1 + d) % 64) ∧ wr = wa)
      case atStart => exact ⟨0, by omega, by rw [← hx30.out], rfl⟩
      case round =>
        obtain ⟨d, hdn, rfl, rfl⟩ := hrel
        have hDN := Lib.hid hdn
        have hdD : d ≤ D := by omega
        clear hdn
        obtain ⟨X, hX⟩ : ∃ X, X = (x1 + d) % 64 := ⟨_, rfl⟩
        have hXr : 0 ≤ X ∧ X ≤ 63 := by omega
        have hXs : (X + 1) % 64 = (x1 + (d + 1 : Nat)) % 64 := by omega
        have hh := has_any a5 l l.length c5 X wr hrd2 rfl (by omega)
        rw [← hX]
        by_cases e : d = D
        · have hI : inL l X = false := inL_no (by rw [hX, e]; exact HNO.out)
          rw [hI] at hh
          have HH := Lib.hid hh
          clear e hI hh hX hXs
          go_wp2_with fail
          refine HH.out.mono ?_
          rintro e w' ⟨rfl, rfl⟩
          go_wp2_with (at_builtin; refine push_int rfl (.tmp 22) (.tmp 24) rfl w.heap.size _ l X rfl ho rfl (by omega) hza ?_)
          intro v' we oe ne ge
          have hRe := hRa.kept ge (fun k hk => by have := (ho.lt k hk).1; omega)
          have hge := grownBy_own hg ho (Nat.le_refl _) ge
          have hsm2 : ∀ x ∈ l ++ [X], -1 ≤ x ∧ x ≤ 64 := by
            intro x hx
            rcases List.mem_append.1 hx with h | h
            · exact HSM.out x h
            · simp only [List.mem_singleton] at h; subst h; omega
          clear ge ho hg hRa
          go_wp2
          go_roundg (gko - 1)
          case measure => have := HGK.out; omega
          case rel => exact ⟨l ++ [X], q + 1, by have := HLN.out; simp; omega, oe, hsm2, hRe, by simp; omega, hge⟩
        · have hI : inL l X = true := inL_yes (by rw [hX]; exact HIN.out d (by omega))
          rw [hI] at hh
          have HH := Lib.hid hh
          have HXS := Lib.hid hXs
          clear hI hh hX hXs
          go_wp2_with fail
          refine HH.out.mono ?_
          rintro e w' ⟨rfl, rfl⟩
          go_wp2
          go_roundg (gk - 1)
          case measure => have := hDN.out; omega
          case rel => exact ⟨d + 1, by have := hDN.out; omega, by rw [← HXS.out], rfl⟩
    · clear hrd
      go_wp2_with fail
      refine (pick_any g q _ _ hR (by omega) (by omega)).mono ?_
      rintro e wa ⟨x1, rfl, hx1, hRa, hga⟩
      replace ho := ho.kept hga (ho.ne_g zg)
      replace hg := grownBy_trans hg hga
      have hza := hg.size
      have hga2 := hRa.lt
      clear hx1 hga hR
      by_cases hx0 : x1 = 0
      · have hd2 : (x1 == 0) = true := by simp [hx0]
        clear hx0
        go_wp2_with fail
        refine (one_litR g (q + 1) wa [64, -1] 2 hRa (by omega) (by simp) (by simp) rfl).mono ?_
        rintro e wb ⟨z, rfl, hzz, hR3, hg3⟩
        have hz2 : -1 ≤ z ∧ z ≤ 64 := by simp at hzz; omega
        have hob := ho.kept hg3 (ho.ne_g zg)
        have hgb := grownBy_trans hg hg3
        have hzb := hgb.size
        clear hzz hg3 ho hg hRa
        go_wp2_with (at_builtin; refine push_int rfl (.tmp 30) (.tmp 34) rfl w.heap.size (.slice a5 l.length c5) l z rfl hob rfl (by omega) hzb ?_)
        intro v' we oe ne ge
        have hRe := hR3.kept ge (fun k hk => by have := (hob.lt k hk).1; omega)
        have hge := grownBy_own hgb hob (Nat.le_refl _) ge
        have hsm2 : ∀ x ∈ l ++ [z], -1 ≤ x ∧ x ≤ 64 := by
          intro x hx
          rcases List.mem_append.1 hx with h | h
          · exact HSM.out x h
          · simp only [List.mem_singleton] at h; subst h; omega
        clear ge hob hgb hR3
        go_wp2
        go_ret
        exact ⟨v', _, _, rfl, oe, by simp; omega, hsm2, hRe, by omega, hge⟩
      by_cases hx01 : x1 = 1
      · have hd2 : (x1 == 0) = false := by simpa using hx0
        have hd3 : (x1 == 1) = true := by simp [hx01]
        clear hx0 hx01
        obtain ⟨y0, hc0, hy0⟩ := ho.reads.get0 (by omega)
        obtain ⟨b0, rfl, hc0⟩ := hc0
        have h0l : 0 < l.length := by omega
        have hy0b := HSM.out y0 (by have := hy0.out; rw [← this]; exact getD_mem h0l)
        go_wp2_with (at_builtin; refine push_int rfl (.tmp 38) (.tmp 42) rfl w.heap.size (.slice (some b0) l.length c5) l y0 rfl ho rfl (by omega) hza ?_)
        intro v' we oe ne ge
        have hRe := hRa.kept ge (fun k hk => by have := (ho.lt k hk).1; omega)
        have hge := grownBy_own hg ho (Nat.le_refl _) ge
        have hs2 : ∀ x ∈ l ++ [y0], -1 ≤ x ∧ x ≤ 64 := by
          intro x hx
          rcases List.mem_append.1 hx with h | h
          · exact HSM.out x h
          · simp at h; subst h; exact hy0b
        clear ge ho hg hRa
        go_wp2
        go_ret
        exact ⟨v', _, _, rfl, oe, by simp; omega, hs2, hRe, by omega, hge⟩
      by_cases hx02 : x1 = 2
      · have hd2 : (x1 == 0) = false := by simpa using hx0
        have hd3 : (x1 == 1) = false := by simpa using hx01
        have hd4 : (x1 == 2) = true := by simp [hx02]
        clear hx0 hx01 hx02
        have hlit := Own.lit0 wa w.heap.size hza
        have hRl := hRa.below ((Below.refl wa.heap.size wa).alloc (Nat.le_refl _) (.cells #[] 3))
        have hgl := grownBy_alloc' hg (.cells #[] 3)
        go_wp2
        go_ret
        exact ⟨_, [], _, rfl, hlit, by simp, by simp, hRl, by omega, hgl⟩
      · have hd2 : (x1 == 0) = false := by simpa using hx0
        have hd3 : (x1 == 1) = false := by simpa using hx01
        have hd4 : (x1 == 2) = false := by simpa using hx02
        clear hx0 hx01 hx02
        go_wp2
        go_ret
        exact ⟨_, l, _, rfl, ho, by omega, HSM.out, hRa, by omega, hg⟩

end Go.Proofs.YtoaiaindcmihjaaGreatDoor
/-
  spec.DrawRunDesk.
-/
namespace Go.Proofs.YtoaiaindcmihjaaGreatDoor
open Go.RowKit

theorem OwnX.ne_g {w : World} {base : Nat} {v : Value} {l : List (List UInt8)} (h : OwnX w base v l) {g : Nat} (hg : g < base) : v.ownBlock = none ∨ v.ownBlock ≠ some g := by
  cases hv : v.ownBlock with
  | none => exact .inl rfl
  | some k =>
    have := h.lt k hv
    exact .inr (fun e => by cases e; omega)
theorem OwnX.mono {w : World} {base base' : Nat} {v : Value} {l : List (List UInt8)} (h : OwnX w base v l) (hb : base' ≤ base) : OwnX w base' v l := by
  refine ⟨h.1, ?_⟩
  rcases h.2 with hn | ⟨g, cap, cur, hv, hbg, r⟩
  · exact .inl hn
  · exact .inr ⟨g, cap, cur, hv, by omega, r⟩
theorem Reads.grownQ {w w' : World} {a : Option Addr} {l : List Int} {g : Nat} (h : Reads w a l) (hg : w.grownBy w' (some g)) (ha : ∀ x, a = some x → g < x.block) : Reads w' a l := by
  rcases h with h0 | ⟨b, off, rfl, hb, hc⟩
  · exact .inl h0
  · have hlt : g < b := ha _ rfl
    refine .inr ⟨b, off, rfl, Nat.lt_of_lt_of_le hb hg.size, fun i hi => ?_⟩
    have e := hg.block b hb (fun e => by cases e; omega)
    exact (World.cell?_of_block (w := w) e).trans (hc i hi)
theorem small_lt {l : List Int} (h : ∀ x ∈ l, -1 ≤ x ∧ x ≤ 64) : ∀ x ∈ l, x < 1000000 := fun x hx => by have := h x hx; omega
set_option maxHeartbeats 16000000 in
set_option maxRecDepth 100000 in
theorem drawRunDesk_any (a : Option Addr) (n cap : Nat) (w : World) (hB : Bytes w w.heap.size a n) (hn : n ≤ 9223372036854775807) (hc : n ≤ cap) :
    Calls Tryz.prog 18 #[.slice a n cap] w fun e w' => ∃ (v : Value) (ls : List (List UInt8)), e = .returned v ∧ OwnX w' w.heap.size v ls ∧ ls.length ≤ 5 ∧ (∀ s ∈ ls, s.length ≤ 1000) ∧ Below w.heap.size w w' := by
  go_enter Tryz.func18, Tryz.ntmps18
  go_wp2_with fail
  refine (newReader_any a n cap w hB hn hc).mono ?_
  rintro e w1 ⟨rfl, R1, B1, s1⟩
  clear hB hn hc
  have z1 : w.heap.size < w1.heap.size := R1.lt
  have ho1 := OwnX.lit0 w1 w1.heap.size (Nat.le_refl _)
  have R2 := R1.below ((Below.refl w1.heap.size w1).alloc (Nat.le_refl _) (.cells #[] 9))
  have B2 := B1.alloc B1.size (.cells #[] 9)
  obtain ⟨w2, e2⟩ : ∃ w2, w2 = w1.alloc (.cells #[] 9) := ⟨_, rfl⟩
  rw [← e2] at ho1 R2 B2
  have E2 := Lib.hid e2
  have z2 : w2.heap.size = w1.heap.size + 1 := by rw [e2]; simp
  have hone := one_lit w.heap.size 0 w2 [4, 5, 2, 0] 4 R2 (by omega) (by simp) (by simp) rfl
  rw [z2] at hone
  have HONE := Lib.hid hone
  clear hone e2 R1 B1
  go_wp2_with fail
  rw [← E2.out]
  refine HONE.out.mono ?_
  rintro e w3 ⟨nn, rfl, hnn, R3, g3⟩
  have hnn2 : 0 ≤ nn ∧ nn ≤ 5 := by simp at hnn; omega
  have ho3 := ho1.kept g3 (ho1.ne_g z1)
  have B3 := B2.grown g3 B2.size (fun k hk => by cases hk; exact Nat.le_refl _)
  have z3 : w1.heap.size ≤ w3.heap.size := by have := g3.size; omega
  obtain ⟨bs, hbs⟩ : ∃ bs, bs = w1.heap.size := ⟨_, rfl⟩
  have HBS := Lib.hid hbs
  rw [← hbs] at z1 z3
  have ho4 : OwnX w3 bs (.slice (some ⟨w1.heap.size, 0, none⟩) 0 0) [] := by rw [hbs]; exact ho3
  clear hnn g3 R2 B2 ho1 ho3 HONE z2 hbs
  go_wp2_with fail
  go_loopw [4, 5] (fun ov nv wr => ∃ (ls : List (List UInt8)) (m q : Nat), nv = .int .i64 (m : Int) ∧ ls.length + m ≤ 5 ∧ OwnX wr bs ov ls ∧ Hid (∀ s ∈ ls, s.length ≤ 1000) ∧ Rdr wr w.heap.size q ∧ q + 500 * m ≤ 5000 ∧ bs ≤ wr.heap.size ∧ Below w.heap.size w wr) (fun _ nv _ => (intOf nv).toNat)
  case atStart => exact ⟨[], nn.toNat, 1, by rw [show ((nn.toNat : Nat) : Int) = nn by omega], by simp; omega, ho4, (fun s h => by simp at h), R3, by omega, z3, B3⟩
  case round =>
    clear ho4 R3 B3 z3
    rename World => wo
    obtain ⟨ls, m, q, rfl, hlm, ho, hls, R, hq, hz, B⟩ := hrel
    by_cases hm : 0 < m
    rotate_left
    · obtain rfl : m = 0 := by omega
      go_wp2
      go_ret
      exact ⟨_, ls, rfl, ho.mono (by have := HBS.out; omega), by omega, hls.out, B⟩
    have hm1 : (m : Int) > 0 := by omega
    have hml : ls.length ≤ 4 := by omega
    have em : IntKind.i64.wrap ((m : Int) - 1) = ((m - 1 : Nat) : Int) := by rw [IntWalk.i64_in _ (by omega)]; omega
    have HLM := Lib.hid hlm
    clear hlm
    have hzg := R.lt
    go_wp2_with fail
    refine (someHomes_any w.heap.size q _ R (by omega)).mono ?_
    rintro e w4 ⟨y1, v4, l4, q4, rfl, _, o4, hl4, hs4, _, R4, hq4, g4⟩
    have ho4 := ho.kept g4 (ho.ne_g z1)
    have B4 := B.grown g4 B.size (fun k hk => by cases hk; exact Nat.le_refl _)
    have z4 : bs ≤ w4.heap.size := Nat.le_trans hz g4.size
    clear ho R B g4 hz
    obtain ⟨a4, c4, rfl, r4, _, _, hb4⟩ := o4.form
    have hb4' : ∀ x, a4 = some x → w.heap.size < x.block := fun x hx => by have := (hb4 x hx).2.2.1; omega
    have HB4 := Lib.hid hb4'
    clear hb4 hb4'
    have hlt4 : ∀ x ∈ l4, x < 1000000 := fun x hx => by have := hs4 x hx; omega
    have HLT4 := Lib.hid hlt4
    clear o4 hs4 hlt4
    go_wp2_with fail
    refine (of_lit w.heap.size q4 w4 [[108, 105, 110, 101, 97, 114], [102, 97, 105, 114]] 2 R4 (by omega) (by simp) (by simp) rfl).mono ?_
    rintro e w5 ⟨t5, rfl, ht5, R5, g5⟩
    have hl5 : t5.length ≤ 6 := by simp at ht5; rcases ht5 with h | h <;> rw [h] <;> simp
    have ho5 := ho4.kept g5 (ho4.ne_g z1)
    have B5 := B4.grown g5 B4.size (fun k hk => by cases hk; exact Nat.le_refl _)
    have z5 : bs ≤ w5.heap.size := Nat.le_trans z4 g5.size
    have r5 : Reads w5 a4 l4 := Reads.grownQ r4 g5 HB4.out
    have ct := listText_any a4 l4 c4 w5 r5 (by omega) HLT4.out
    have htl := ltx_len l4 HLT4.out
    obtain ⟨T4, hT4⟩ : ∃ T, T = ltx l4 := ⟨_, rfl⟩
    rw [← hT4] at ct htl
    have CT := Lib.hid ct
    clear ht5 g5 R4 ho4 B4 z4 r4 ct hT4
    go_wp2_with fail
    refine CT.out.mono ?_
    rintro e w' ⟨rfl, rfl⟩
    have es : B8 t5 ++ (ByteArray.mk #[32]) ++ B8 T4 = B8 (t5 ++ [32] ++ T4) := by rw [← B8_app, ← B8_app]
    have hs0 : (t5 ++ [32] ++ T4).length ≤ 200 := by simp only [List.length_append, List.length_singleton]; omega
    obtain ⟨s0, hs0e⟩ : ∃ s, s = t5 ++ [32] ++ T4 := ⟨_, rfl⟩
    rw [← hs0e] at es hs0
    have ES := Lib.hid es
    clear es hs0e r5 CT
    go_wp2_with fail
    rw [ES.out]
    refine (pick_any w.heap.size (q4 + 1) 4 _ R5 (by omega) (by omega)).mono ?_
    rintro e w6 ⟨k6, rfl, hk6, R6, g6⟩
    have ho6 := ho5.kept g6 (ho5.ne_g z1)
    have B6 := B5.grown g6 B5.size (fun k hk => by cases hk; exact Nat.le_refl _)
    have z6 : bs ≤ w6.heap.size := Nat.le_trans z5 g6.size
    clear hk6 g6 R5 ho5 B5 z5 ES hl5 htl
    by_cases k0 : k6 = 0
    · have dk0 : (k6 == 0) = true := by simp [k0]
      clear k0
      go_wp2_with fail
      refine (someRing_any w.heap.size (q4 + 1 + 1) _ R6 (by omega)).mono ?_
      rintro e w7 ⟨v7, l7, q7, rfl, o7, hl7, hx7, R7, hq7, g7⟩
      have hx7' : ∀ x ∈ l7, x < 1000000 := fun x hx => by have := hx7 x hx; omega
      have ho7 := ho6.kept g7 (ho6.ne_g z1)
      have B7 := B6.grown g7 B6.size (fun k hk => by cases hk; exact Nat.le_refl _)
      have z7 : bs ≤ w7.heap.size := Nat.le_trans z6 g7.size
      obtain ⟨a7, c7, rfl, r7, _, _, _⟩ := o7.form
      have ct := listText_any a7 l7 c7 w7 r7 (by omega) hx7'
      have htl := ltx_len l7 hx7'
      obtain ⟨T7, hT7⟩ : ∃ T, T = ltx l7 := ⟨_, rfl⟩
      rw [← hT7] at ct htl
      have CT := Lib.hid ct
      clear g7 R6 ho6 B6 z6 r7 ct hT7 hx7 hx7' o7
      go_wp2_with fail
      refine CT.out.mono ?_
      rintro e w' ⟨rfl, rfl⟩
      have es : (ByteArray.mk #[115, 104, 97, 114, 101, 115, 32]) ++ B8 T7 = B8 ([115, 104, 97, 114, 101, 115, 32] ++ T7) := by rw [← B8_app]
      have hs7 : ([115, 104, 97, 114, 101, 115, 32] ++ T7).length ≤ 200 := by simp only [List.length_append, List.length_cons, List.length_nil]; omega
      obtain ⟨s7, hs7e⟩ : ∃ s, s = [115, 104, 97, 114, 101, 115, 32] ++ T7 := ⟨_, rfl⟩
      rw [← hs7e] at es hs7
      have ES := Lib.hid es
      clear es hs7e CT
      go_wp2_with fail
      rw [ES.out]
      refine (pick_any w.heap.size q7 8 _ R7 (by omega) (by omega)).mono ?_
      rintro e wp ⟨z8, rfl, hz8, Rp, gp⟩
      have Op := ho7.kept gp (ho7.ne_g z1)
      have Bp := B7.grown gp B7.size (fun k hk => by cases hk; exact Nat.le_refl _)
      have zp : bs ≤ wp.heap.size := Nat.le_trans z7 gp.size
      clear hz8 gp R7 ho7 B7 z7
      by_cases c0 : z8 = 0
      · have d0 : (z8 == 0) = true := by simp [c0]
        clear c0
        go_wp2_with fail
        refine (of_lit w.heap.size (q7 + 1) wp [[], [104, 101, 108, 112], [108, 105, 110, 101, 97, 114], [108, 105, 110, 101, 97, 114, 32, 49, 48], [102, 97, 105, 114, 32, 49, 44], [115, 104, 97, 114, 101, 115, 32, 51, 44, 51], [116, 114, 101, 101, 32, 54, 52], [119, 97, 108, 107, 32, 49], [97, 112, 97, 114, 116, 32, 120], [116, 114, 101, 101, 32], [102, 97, 105, 114, 32, 49, 44, 32, 50]] 11 Rp (by omega) (by simp) (by simp) rfl).mono ?_
        rintro e wr ⟨t, rfl, ht, Rr, gr⟩
        have hSl : t.length ≤ 1000 := by simp at ht; rcases ht with h | h | h | h | h | h | h | h | h | h | h <;> rw [h] <;> simp
        have Or := Op.kept gr (Op.ne_g z1)
        have Br := Bp.grown gr Bp.size (fun k hk => by cases hk; exact Nat.le_refl _)
        have zr : bs ≤ wr.heap.size := Nat.le_trans zp gr.size
        clear ht gr Rp Op Bp zp
        obtain ⟨St, hSt⟩ : ∃ S, S = t := ⟨_, rfl⟩
        rw [← hSt] at hSl ⊢
        have hLL : Hid (∀ s ∈ ls ++ [St], s.length ≤ 1000) := fun t ht => by
          rcases List.mem_append.1 ht with h | h
          · exact hls.out t h
          · rw [List.mem_singleton] at h; subst h; omega
        clear hSt
        go_wp2_with (at_builtin; refine push_str rfl (.tmp 63) (.tmp 65) rfl bs _ ls St rfl Or rfl (by omega) zr ?_)
        intro v' wf of gf
        have Rf := Rr.kept gf (fun k hk => by have := (Or.lt k hk).1; omega)
        have Bf := Br.grown gf Br.size (fun k hk => by have := (Or.lt k hk).1; omega)
        have zf : bs ≤ wf.heap.size := Nat.le_trans zr gf.size
        have hlm := HLM.out
        clear gf Or Rr Br
        go_wp2
        go_roundw
        case rel => exact ⟨ls ++ [St], m - 1, (q7 + 1 + 1), by go_num, by rw [List.length_append, List.length_singleton]; omega, of, hLL, Rf, by omega, zf, Bf⟩
        case measure => simp [intOf]; omega
      have d0 : (z8 == 0) = false := by simpa using c0
      by_cases c1 : z8 = 1
      · have d1 : (z8 == 1) = true := by simp [c1]
        clear c0 c1
        go_wp2_with fail
        refine (mutate_any w.heap.size (q7 + 1) s7 wp Rp (by omega) (by omega)).mono ?_
        rintro e wr ⟨t, qt, rfl, ht, Rr, hqt, gr⟩
        have hSl : t.length ≤ 1000 := by omega
        have Or := Op.kept gr (Op.ne_g z1)
        have Br := Bp.grown gr Bp.size (fun k hk => by cases hk; exact Nat.le_refl _)
        have zr : bs ≤ wr.heap.size := Nat.le_trans zp gr.size
        clear ht gr Rp Op Bp zp
        obtain ⟨St, hSt⟩ : ∃ S, S = t := ⟨_, rfl⟩
        rw [← hSt] at hSl ⊢
        have hLL : Hid (∀ s ∈ ls ++ [St], s.length ≤ 1000) := fun t ht => by
          rcases List.mem_append.1 ht with h | h
          · exact hls.out t h
          · rw [List.mem_singleton] at h; subst h; omega
        clear hSt
        go_wp2_with (at_builtin; refine push_str rfl (.tmp 63) (.tmp 65) rfl bs _ ls St rfl Or rfl (by omega) zr ?_)
        intro v' wf of gf
        have Rf := Rr.kept gf (fun k hk => by have := (Or.lt k hk).1; omega)
        have Bf := Br.grown gf Br.size (fun k hk => by have := (Or.lt k hk).1; omega)
        have zf : bs ≤ wf.heap.size := Nat.le_trans zr gf.size
        have hlm := HLM.out
        clear gf Or Rr Br
        go_wp2
        go_roundw
        case rel => exact ⟨ls ++ [St], m - 1, qt, by go_num, by rw [List.length_append, List.length_singleton]; omega, of, hLL, Rf, by omega, zf, Bf⟩
        case measure => simp [intOf]; omega
      · have d1 : (z8 == 1) = false := by simpa using c1
        clear c0 c1
        have hSl : (s7).length ≤ 1000 := by omega
        obtain ⟨St, hSt⟩ : ∃ S, S = s7 := ⟨_, rfl⟩
        rw [← hSt] at hSl ⊢
        have hLL : Hid (∀ s ∈ ls ++ [St], s.length ≤ 1000) := fun t ht => by
          rcases List.mem_append.1 ht with h | h
          · exact hls.out t h
          · rw [List.mem_singleton] at h; subst h; omega
        clear hSt
        go_wp2_with (at_builtin; refine push_str rfl (.tmp 63) (.tmp 65) rfl bs _ ls St rfl Op rfl (by omega) zp ?_)
        intro v' wf of gf
        have Rf := Rp.kept gf (fun k hk => by have := (Op.lt k hk).1; omega)
        have Bf := Bp.grown gf Bp.size (fun k hk => by have := (Op.lt k hk).1; omega)
        have zf : bs ≤ wf.heap.size := Nat.le_trans zp gf.size
        have hlm := HLM.out
        clear gf Op Rp Bp
        go_wp2
        go_roundw
        case rel => exact ⟨ls ++ [St], m - 1, (q7 + 1), by go_num, by rw [List.length_append, List.length_singleton]; omega, of, hLL, Rf, by omega, zf, Bf⟩
        case measure => simp [intOf]; omega
    have dk0 : (k6 == 0) = false := by simpa using k0
    by_cases k1 : k6 = 1
    · have dk1 : (k6 == 1) = true := by simp [k1]
      clear k0 k1
      go_wp2_with fail
      refine (someNames_any w.heap.size (q4 + 1 + 1) _ R6 (by omega)).mono ?_
      rintro e w7 ⟨v7, l7, q7, rfl, o7, hl7, hx7, R7, hq7, g7⟩
      have hx7' : ∀ x ∈ l7, x < 1000000 := fun x hx => by have := hx7 x hx; omega
      have ho7 := ho6.kept g7 (ho6.ne_g z1)
      have B7 := B6.grown g7 B6.size (fun k hk => by cases hk; exact Nat.le_refl _)
      have z7 : bs ≤ w7.heap.size := Nat.le_trans z6 g7.size
      obtain ⟨a7, c7, rfl, r7, _, _, _⟩ := o7.form
      have ct := listText_any a7 l7 c7 w7 r7 (by omega) hx7'
      have htl := ltx_len l7 hx7'
      obtain ⟨T7, hT7⟩ : ∃ T, T = ltx l7 := ⟨_, rfl⟩
      rw [← hT7] at ct htl
      have CT := Lib.hid ct
      clear g7 R6 ho6 B6 z6 r7 ct hT7 hx7 hx7' o7
      go_wp2_with fail
      refine CT.out.mono ?_
      rintro e w' ⟨rfl, rfl⟩
      have es : (ByteArray.mk #[116, 114, 101, 101, 32]) ++ B8 T7 = B8 ([116, 114, 101, 101, 32] ++ T7) := by rw [← B8_app]
      have hs7 : ([116, 114, 101, 101, 32] ++ T7).length ≤ 200 := by simp only [List.length_append, List.length_cons, List.length_nil]; omega
      obtain ⟨s7, hs7e⟩ : ∃ s, s = [116, 114, 101, 101, 32] ++ T7 := ⟨_, rfl⟩
      rw [← hs7e] at es hs7
      have ES := Lib.hid es
      clear es hs7e CT
      go_wp2_with fail
      rw [ES.out]
      refine (pick_any w.heap.size q7 8 _ R7 (by omega) (by omega)).mono ?_
      rintro e wp ⟨z8, rfl, hz8, Rp, gp⟩
      have Op := ho7.kept gp (ho7.ne_g z1)
      have Bp := B7.grown gp B7.size (fun k hk => by cases hk; exact Nat.le_refl _)
      have zp : bs ≤ wp.heap.size := Nat.le_trans z7 gp.size
      clear hz8 gp R7 ho7 B7 z7
      by_cases c0 : z8 = 0
      · have d0 : (z8 == 0) = true := by simp [c0]
        clear c0
        go_wp2_with fail
        refine (of_lit w.heap.size (q7 + 1) wp [[], [104, 101, 108, 112], [108, 105, 110, 101, 97, 114], [108, 105, 110, 101, 97, 114, 32, 49, 48], [102, 97, 105, 114, 32, 49, 44], [115, 104, 97, 114, 101, 115, 32, 51, 44, 51], [116, 114, 101, 101, 32, 54, 52], [119, 97, 108, 107, 32, 49], [97, 112, 97, 114, 116, 32, 120], [116, 114, 101, 101, 32], [102, 97, 105, 114, 32, 49, 44, 32, 50]] 11 Rp (by omega) (by simp) (by simp) rfl).mono ?_
        rintro e wr ⟨t, rfl, ht, Rr, gr⟩
        have hSl : t.length ≤ 1000 := by simp at ht; rcases ht with h | h | h | h | h | h | h | h | h | h | h <;> rw [h] <;> simp
        have Or := Op.kept gr (Op.ne_g z1)
        have Br := Bp.grown gr Bp.size (fun k hk => by cases hk; exact Nat.le_refl _)
        have zr : bs ≤ wr.heap.size := Nat.le_trans zp gr.size
        clear ht gr Rp Op Bp zp
        obtain ⟨St, hSt⟩ : ∃ S, S = t := ⟨_, rfl⟩
        rw [← hSt] at hSl ⊢
        have hLL : Hid (∀ s ∈ ls ++ [St], s.length ≤ 1000) := fun t ht => by
          rcases List.mem_append.1 ht with h | h
          · exact hls.out t h
          · rw [List.mem_singleton] at h; subst h; omega
        clear hSt
        go_wp2_with (at_builtin; refine push_str rfl (.tmp 63) (.tmp 65) rfl bs _ ls St rfl Or rfl (by omega) zr ?_)
        intro v' wf of gf
        have Rf := Rr.kept gf (fun k hk => by have := (Or.lt k hk).1; omega)
        have Bf := Br.grown gf Br.size (fun k hk => by have := (Or.lt k hk).1; omega)
        have zf : bs ≤ wf.heap.size := Nat.le_trans zr gf.size
        have hlm := HLM.out
        clear gf Or Rr Br
        go_wp2
        go_roundw
        case rel => exact ⟨ls ++ [St], m - 1, (q7 + 1 + 1), by go_num, by rw [List.length_append, List.length_singleton]; omega, of, hLL, Rf, by omega, zf, Bf⟩
        case measure => simp [intOf]; omega
      have d0 : (z8 == 0) = false := by simpa using c0
      by_cases c1 : z8 = 1
      · have d1 : (z8 == 1) = true := by simp [c1]
        clear c0 c1
        go_wp2_with fail
        refine (mutate_any w.heap.size (q7 + 1) s7 wp Rp (by omega) (by omega)).mono ?_
        rintro e wr ⟨t, qt, rfl, ht, Rr, hqt, gr⟩
        have hSl : t.length ≤ 1000 := by omega
        have Or := Op.kept gr (Op.ne_g z1)
        have Br := Bp.grown gr Bp.size (fun k hk => by cases hk; exact Nat.le_refl _)
        have zr : bs ≤ wr.heap.size := Nat.le_trans zp gr.size
        clear ht gr Rp Op Bp zp
        obtain ⟨St, hSt⟩ : ∃ S, S = t := ⟨_, rfl⟩
        rw [← hSt] at hSl ⊢
        have hLL : Hid (∀ s ∈ ls ++ [St], s.length ≤ 1000) := fun t ht => by
          rcases List.mem_append.1 ht with h | h
          · exact hls.out t h
          · rw [List.mem_singleton] at h; subst h; omega
        clear hSt
        go_wp2_with (at_builtin; refine push_str rfl (.tmp 63) (.tmp 65) rfl bs _ ls St rfl Or rfl (by omega) zr ?_)
        intro v' wf of gf
        have Rf := Rr.kept gf (fun k hk => by have := (Or.lt k hk).1; omega)
        have Bf := Br.grown gf Br.size (fun k hk => by have := (Or.lt k hk).1; omega)
        have zf : bs ≤ wf.heap.size := Nat.le_trans zr gf.size
        have hlm := HLM.out
        clear gf Or Rr Br
        go_wp2
        go_roundw
        case rel => exact ⟨ls ++ [St], m - 1, qt, by go_num, by rw [List.length_append, List.length_singleton]; omega, of, hLL, Rf, by omega, zf, Bf⟩
        case measure => simp [intOf]; omega
      · have d1 : (z8 == 1) = false := by simpa using c1
        clear c0 c1
        have hSl : (s7).length ≤ 1000 := by omega
        obtain ⟨St, hSt⟩ : ∃ S, S = s7 := ⟨_, rfl⟩
        rw [← hSt] at hSl ⊢
        have hLL : Hid (∀ s ∈ ls ++ [St], s.length ≤ 1000) := fun t ht => by
          rcases List.mem_append.1 ht with h | h
          · exact hls.out t h
          · rw [List.mem_singleton] at h; subst h; omega
        clear hSt
        go_wp2_with (at_builtin; refine push_str rfl (.tmp 63) (.tmp 65) rfl bs _ ls St rfl Op rfl (by omega) zp ?_)
        intro v' wf of gf
        have Rf := Rp.kept gf (fun k hk => by have := (Op.lt k hk).1; omega)
        have Bf := Bp.grown gf Bp.size (fun k hk => by have := (Op.lt k hk).1; omega)
        have zf : bs ≤ wf.heap.size := Nat.le_trans zp gf.size
        have hlm := HLM.out
        clear gf Op Rp Bp
        go_wp2
        go_roundw
        case rel => exact ⟨ls ++ [St], m - 1, (q7 + 1), by go_num, by rw [List.length_append, List.length_singleton]; omega, of, hLL, Rf, by omega, zf, Bf⟩
        case measure => simp [intOf]; omega
    have dk1 : (k6 == 1) = false := by simpa using k1
    by_cases k2 : k6 = 2
    · have dk2 : (k6 == 2) = true := by simp [k2]
      clear k0 k1 k2
      go_wp2_with fail
      refine (someKeysQ_any w.heap.size (q4 + 1 + 1) _ R6 (by omega)).mono ?_
      rintro e w7 ⟨v7, l7, q7, rfl, o7, hl7, hx7, R7, hq7, g7⟩
      have hx7' : ∀ x ∈ l7, x < 1000000 := fun x hx => by have := hx7 x hx; omega
      have ho7 := ho6.kept g7 (ho6.ne_g z1)
      have B7 := B6.grown g7 B6.size (fun k hk => by cases hk; exact Nat.le_refl _)
      have z7 : bs ≤ w7.heap.size := Nat.le_trans z6 g7.size
      obtain ⟨a7, c7, rfl, r7, _, _, _⟩ := o7.form
      have ct := listText_any a7 l7 c7 w7 r7 (by omega) hx7'
      have htl := ltx_len l7 hx7'
      obtain ⟨T7, hT7⟩ : ∃ T, T = ltx l7 := ⟨_, rfl⟩
      rw [← hT7] at ct htl
      have CT := Lib.hid ct
      clear g7 R6 ho6 B6 z6 r7 ct hT7 hx7 hx7' o7
      go_wp2_with fail
      refine CT.out.mono ?_
      rintro e w' ⟨rfl, rfl⟩
      have es : (ByteArray.mk #[97, 112, 97, 114, 116, 32]) ++ B8 T7 = B8 ([97, 112, 97, 114, 116, 32] ++ T7) := by rw [← B8_app]
      have hs7 : ([97, 112, 97, 114, 116, 32] ++ T7).length ≤ 200 := by simp only [List.length_append, List.length_cons, List.length_nil]; omega
      obtain ⟨s7, hs7e⟩ : ∃ s, s = [97, 112, 97, 114, 116, 32] ++ T7 := ⟨_, rfl⟩
      rw [← hs7e] at es hs7
      have ES := Lib.hid es
      clear es hs7e CT
      go_wp2_with fail
      rw [ES.out]
      refine (pick_any w.heap.size q7 8 _ R7 (by omega) (by omega)).mono ?_
      rintro e wp ⟨z8, rfl, hz8, Rp, gp⟩
      have Op := ho7.kept gp (ho7.ne_g z1)
      have Bp := B7.grown gp B7.size (fun k hk => by cases hk; exact Nat.le_refl _)
      have zp : bs ≤ wp.heap.size := Nat.le_trans z7 gp.size
      clear hz8 gp R7 ho7 B7 z7
      by_cases c0 : z8 = 0
      · have d0 : (z8 == 0) = true := by simp [c0]
        clear c0
        go_wp2_with fail
        refine (of_lit w.heap.size (q7 + 1) wp [[], [104, 101, 108, 112], [108, 105, 110, 101, 97, 114], [108, 105, 110, 101, 97, 114, 32, 49, 48], [102, 97, 105, 114, 32, 49, 44], [115, 104, 97, 114, 101, 115, 32, 51, 44, 51], [116, 114, 101, 101, 32, 54, 52], [119, 97, 108, 107, 32, 49], [97, 112, 97, 114, 116, 32, 120], [116, 114, 101, 101, 32], [102, 97, 105, 114, 32, 49, 44, 32, 50]] 11 Rp (by omega) (by simp) (by simp) rfl).mono ?_
        rintro e wr ⟨t, rfl, ht, Rr, gr⟩
        have hSl : t.length ≤ 1000 := by simp at ht; rcases ht with h | h | h | h | h | h | h | h | h | h | h <;> rw [h] <;> simp
        have Or := Op.kept gr (Op.ne_g z1)
        have Br := Bp.grown gr Bp.size (fun k hk => by cases hk; exact Nat.le_refl _)
        have zr : bs ≤ wr.heap.size := Nat.le_trans zp gr.size
        clear ht gr Rp Op Bp zp
        obtain ⟨St, hSt⟩ : ∃ S, S = t := ⟨_, rfl⟩
        rw [← hSt] at hSl ⊢
        have hLL : Hid (∀ s ∈ ls ++ [St], s.length ≤ 1000) := fun t ht => by
          rcases List.mem_append.1 ht with h | h
          · exact hls.out t h
          · rw [List.mem_singleton] at h; subst h; omega
        clear hSt
        go_wp2_with (at_builtin; refine push_str rfl (.tmp 63) (.tmp 65) rfl bs _ ls St rfl Or rfl (by omega) zr ?_)
        intro v' wf of gf
        have Rf := Rr.kept gf (fun k hk => by have := (Or.lt k hk).1; omega)
        have Bf := Br.grown gf Br.size (fun k hk => by have := (Or.lt k hk).1; omega)
        have zf : bs ≤ wf.heap.size := Nat.le_trans zr gf.size
        have hlm := HLM.out
        clear gf Or Rr Br
        go_wp2
        go_roundw
        case rel => exact ⟨ls ++ [St], m - 1, (q7 + 1 + 1), by go_num, by rw [List.length_append, List.length_singleton]; omega, of, hLL, Rf, by omega, zf, Bf⟩
        case measure => simp [intOf]; omega
      have d0 : (z8 == 0) = false := by simpa using c0
      by_cases c1 : z8 = 1
      · have d1 : (z8 == 1) = true := by simp [c1]
        clear c0 c1
        go_wp2_with fail
        refine (mutate_any w.heap.size (q7 + 1) s7 wp Rp (by omega) (by omega)).mono ?_
        rintro e wr ⟨t, qt, rfl, ht, Rr, hqt, gr⟩
        have hSl : t.length ≤ 1000 := by omega
        have Or := Op.kept gr (Op.ne_g z1)
        have Br := Bp.grown gr Bp.size (fun k hk => by cases hk; exact Nat.le_refl _)
        have zr : bs ≤ wr.heap.size := Nat.le_trans zp gr.size
        clear ht gr Rp Op Bp zp
        obtain ⟨St, hSt⟩ : ∃ S, S = t := ⟨_, rfl⟩
        rw [← hSt] at hSl ⊢
        have hLL : Hid (∀ s ∈ ls ++ [St], s.length ≤ 1000) := fun t ht => by
          rcases List.mem_append.1 ht with h | h
          · exact hls.out t h
          · rw [List.mem_singleton] at h; subst h; omega
        clear hSt
        go_wp2_with (at_builtin; refine push_str rfl (.tmp 63) (.tmp 65) rfl bs _ ls St rfl Or rfl (by omega) zr ?_)
        intro v' wf of gf
        have Rf := Rr.kept gf (fun k hk => by have := (Or.lt k hk).1; omega)
        have Bf := Br.grown gf Br.size (fun k hk => by have := (Or.lt k hk).1; omega)
        have zf : bs ≤ wf.heap.size := Nat.le_trans zr gf.size
        have hlm := HLM.out
        clear gf Or Rr Br
        go_wp2
        go_roundw
        case rel => exact ⟨ls ++ [St], m - 1, qt, by go_num, by rw [List.length_append, List.length_singleton]; omega, of, hLL, Rf, by omega, zf, Bf⟩
        case measure => simp [intOf]; omega
      · have d1 : (z8 == 1) = false := by simpa using c1
        clear c0 c1
        have hSl : (s7).length ≤ 1000 := by omega
        obtain ⟨St, hSt⟩ : ∃ S, S = s7 := ⟨_, rfl⟩
        rw [← hSt] at hSl ⊢
        have hLL : Hid (∀ s ∈ ls ++ [St], s.length ≤ 1000) := fun t ht => by
          rcases List.mem_append.1 ht with h | h
          · exact hls.out t h
          · rw [List.mem_singleton] at h; subst h; omega
        clear hSt
        go_wp2_with (at_builtin; refine push_str rfl (.tmp 63) (.tmp 65) rfl bs _ ls St rfl Op rfl (by omega) zp ?_)
        intro v' wf of gf
        have Rf := Rp.kept gf (fun k hk => by have := (Op.lt k hk).1; omega)
        have Bf := Bp.grown gf Bp.size (fun k hk => by have := (Op.lt k hk).1; omega)
        have zf : bs ≤ wf.heap.size := Nat.le_trans zp gf.size
        have hlm := HLM.out
        clear gf Op Rp Bp
        go_wp2
        go_roundw
        case rel => exact ⟨ls ++ [St], m - 1, (q7 + 1), by go_num, by rw [List.length_append, List.length_singleton]; omega, of, hLL, Rf, by omega, zf, Bf⟩
        case measure => simp [intOf]; omega
    have dk2 : (k6 == 2) = false := by simpa using k2
    clear k0 k1 k2
    go_wp2_with fail
    refine (pick_any w.heap.size (q4 + 1 + 1) 8 _ R6 (by omega) (by omega)).mono ?_
    rintro e wp ⟨z8, rfl, hz8, Rp, gp⟩
    have Op := ho6.kept gp (ho6.ne_g z1)
    have Bp := B6.grown gp B6.size (fun k hk => by cases hk; exact Nat.le_refl _)
    have zp : bs ≤ wp.heap.size := Nat.le_trans z6 gp.size
    clear hz8 gp R6 ho6 B6 z6
    by_cases c0 : z8 = 0
    · have d0 : (z8 == 0) = true := by simp [c0]
      clear c0
      go_wp2_with fail
      refine (of_lit w.heap.size ((q4 + 1 + 1) + 1) wp [[], [104, 101, 108, 112], [108, 105, 110, 101, 97, 114], [108, 105, 110, 101, 97, 114, 32, 49, 48], [102, 97, 105, 114, 32, 49, 44], [115, 104, 97, 114, 101, 115, 32, 51, 44, 51], [116, 114, 101, 101, 32, 54, 52], [119, 97, 108, 107, 32, 49], [97, 112, 97, 114, 116, 32, 120], [116, 114, 101, 101, 32], [102, 97, 105, 114, 32, 49, 44, 32, 50]] 11 Rp (by omega) (by simp) (by simp) rfl).mono ?_
      rintro e wr ⟨t, rfl, ht, Rr, gr⟩
      have hSl : t.length ≤ 1000 := by simp at ht; rcases ht with h | h | h | h | h | h | h | h | h | h | h <;> rw [h] <;> simp
      have Or := Op.kept gr (Op.ne_g z1)
      have Br := Bp.grown gr Bp.size (fun k hk => by cases hk; exact Nat.le_refl _)
      have zr : bs ≤ wr.heap.size := Nat.le_trans zp gr.size
      clear ht gr Rp Op Bp zp
      obtain ⟨St, hSt⟩ : ∃ S, S = t := ⟨_, rfl⟩
      rw [← hSt] at hSl ⊢
      have hLL : Hid (∀ s ∈ ls ++ [St], s.length ≤ 1000) := fun t ht => by
        rcases List.mem_append.1 ht with h | h
        · exact hls.out t h
        · rw [List.mem_singleton] at h; subst h; omega
      clear hSt
      go_wp2_with (at_builtin; refine push_str rfl (.tmp 63) (.tmp 65) rfl bs _ ls St rfl Or rfl (by omega) zr ?_)
      intro v' wf of gf
      have Rf := Rr.kept gf (fun k hk => by have := (Or.lt k hk).1; omega)
      have Bf := Br.grown gf Br.size (fun k hk => by have := (Or.lt k hk).1; omega)
      have zf : bs ≤ wf.heap.size := Nat.le_trans zr gf.size
      have hlm := HLM.out
      clear gf Or Rr Br
      go_wp2
      go_roundw
      case rel => exact ⟨ls ++ [St], m - 1, ((q4 + 1 + 1) + 1 + 1), by go_num, by rw [List.length_append, List.length_singleton]; omega, of, hLL, Rf, by omega, zf, Bf⟩
      case measure => simp [intOf]; omega
    have d0 : (z8 == 0) = false := by simpa using c0
    by_cases c1 : z8 = 1
    · have d1 : (z8 == 1) = true := by simp [c1]
      clear c0 c1
      go_wp2_with fail
      refine (mutate_any w.heap.size ((q4 + 1 + 1) + 1) s0 wp Rp (by omega) (by omega)).mono ?_
      rintro e wr ⟨t, qt, rfl, ht, Rr, hqt, gr⟩
      have hSl : t.length ≤ 1000 := by omega
      have Or := Op.kept gr (Op.ne_g z1)
      have Br := Bp.grown gr Bp.size (fun k hk => by cases hk; exact Nat.le_refl _)
      have zr : bs ≤ wr.heap.size := Nat.le_trans zp gr.size
      clear ht gr Rp Op Bp zp
      obtain ⟨St, hSt⟩ : ∃ S, S = t := ⟨_, rfl⟩
      rw [← hSt] at hSl ⊢
      have hLL : Hid (∀ s ∈ ls ++ [St], s.length ≤ 1000) := fun t ht => by
        rcases List.mem_append.1 ht with h | h
        · exact hls.out t h
        · rw [List.mem_singleton] at h; subst h; omega
      clear hSt
      go_wp2_with (at_builtin; refine push_str rfl (.tmp 63) (.tmp 65) rfl bs _ ls St rfl Or rfl (by omega) zr ?_)
      intro v' wf of gf
      have Rf := Rr.kept gf (fun k hk => by have := (Or.lt k hk).1; omega)
      have Bf := Br.grown gf Br.size (fun k hk => by have := (Or.lt k hk).1; omega)
      have zf : bs ≤ wf.heap.size := Nat.le_trans zr gf.size
      have hlm := HLM.out
      clear gf Or Rr Br
      go_wp2
      go_roundw
      case rel => exact ⟨ls ++ [St], m - 1, qt, by go_num, by rw [List.length_append, List.length_singleton]; omega, of, hLL, Rf, by omega, zf, Bf⟩
      case measure => simp [intOf]; omega
    · have d1 : (z8 == 1) = false := by simpa using c1
      clear c0 c1
      have hSl : (s0).length ≤ 1000 := by omega
      obtain ⟨St, hSt⟩ : ∃ S, S = s0 := ⟨_, rfl⟩
      rw [← hSt] at hSl ⊢
      have hLL : Hid (∀ s ∈ ls ++ [St], s.length ≤ 1000) := fun t ht => by
        rcases List.mem_append.1 ht with h | h
        · exact hls.out t h
        · rw [List.mem_singleton] at h; subst h; omega
      clear hSt
      go_wp2_with (at_builtin; refine push_str rfl (.tmp 63) (.tmp 65) rfl bs _ ls St rfl Op rfl (by omega) zp ?_)
      intro v' wf of gf
      have Rf := Rp.kept gf (fun k hk => by have := (Op.lt k hk).1; omega)
      have Bf := Bp.grown gf Bp.size (fun k hk => by have := (Op.lt k hk).1; omega)
      have zf : bs ≤ wf.heap.size := Nat.le_trans zp gf.size
      have hlm := HLM.out
      clear gf Op Rp Bp
      go_wp2
      go_roundw
      case rel => exact ⟨ls ++ [St], m - 1, ((q4 + 1 + 1) + 1), by go_num, by rw [List.length_append, List.length_singleton]; omega, of, hLL, Rf, by omega, zf, Bf⟩
      case measure => simp [intOf]; omega
end Go.Proofs.YtoaiaindcmihjaaGreatDoor
/-
  The law of RunDesk, from what impl's function gives.
-/
namespace Go.Proofs.YtoaiaindcmihjaaGreatDoor
open Go.RowKit

def RunDeskGives (G : World → Prop) : Prop := ∀ (a : Option Addr) (ls : List (List UInt8)) (cap : Nat) (w : World), G w → ReadsX w a ls → ls.length ≤ 1048586 → ls.length ≤ cap → (∀ s ∈ ls, s.length ≤ 1048576) → Calls Tryz.prog 19 #[.slice a ls.length cap] w fun e w' => e = .returned (.string (B8 (RDk ls))) ∧ Below w.heap.size w w'
theorem ReadsX.take {w : World} {a : Option Addr} {ls : List (List UInt8)} (h : ReadsX w a ls) (k : Nat) : ReadsX w a (ls.take k) := by
  rcases h with rfl | ⟨b, off, ha, hb, hc⟩
  · exact .inl (by simp)
  · refine .inr ⟨b, off, ha, hb, fun i hi => ?_⟩
    rw [List.length_take] at hi
    rw [hc i (by omega)]
    simp [List.getD, List.getElem?_take, show i < k by omega]
set_option maxHeartbeats 16000000 in
set_option maxRecDepth 100000 in
theorem lawFnRunDesk_of {G : World → Prop} (HI : RunDeskGives G) (a : Option Addr) (n cap : Nat) (w : World) (HG : ∀ wx, Below w.heap.size w wx → G wx) (hB : Bytes w w.heap.size a n) (hn : n ≤ 9223372036854775807) (hc : n ≤ cap) :
    Calls Tryz.prog 5 #[.slice a n cap] w fun e w' => e = .returned (.bool true) ∧ Below w.heap.size w w' := by
  by_cases hbig : 1048576 < n
  · go_enter Tryz.func5, Tryz.ntmps5
    go_wp2
    go_ret
    exact ⟨rfl, Below.refl _ _⟩
  go_enter Tryz.func5, Tryz.ntmps5
  go_wp2_with fail
  refine (drawRunDesk_any a n cap w hB hn hc).mono ?_
  rintro e w1 ⟨v1, ls, rfl, o1, hl5, hlen, B1⟩
  obtain ⟨a1, c1, rfl, r1, hlc, hcm⟩ := o1.form
  unfold maxLen at hcm
  have hs : ∀ s ∈ ls, s.length ≤ 1048576 := fun s h => by have := hlen s h; omega
  clear hB hn hc o1
  have cI := fun wx (hb : Below w.heap.size w wx) (h : ReadsX wx a1 ls) => HI a1 ls c1 wx (HG wx hb) h (by omega) hlc hs
  have cS := fun wx (h : ReadsX wx a1 ls) => specRunDesk_any a1 ls c1 wx h (by omega) hs
  have cT := fun k (hk : k ≤ ls.length) wx (hb : Below w.heap.size w wx) (h : ReadsX wx a1 ls) => HI a1 (ls.take k) c1 wx (HG wx hb) (h.take k) (by rw [List.length_take]; omega) (by rw [List.length_take]; omega) (fun s hs' => hs s (List.mem_of_mem_take hs'))
  have hcount := RDk_count (ls := ls) (by omega)
  have htake := fun k => RDk_take (ls := ls) (by omega) k
  have hRl := RDk_len ls
  obtain ⟨R, hR⟩ : ∃ R, R = RDk ls := ⟨_, rfl⟩
  rw [← hR] at cI cS hcount hRl
  simp only [← hR] at htake
  have hlR := B8_list R
  have hszR := B8_size R
  have htkR := fun k => B8_sub R 0 k
  have cN := fun wx => newlines_any R wx (by omega)
  rw [hcount] at cN
  obtain ⟨S, hS⟩ : ∃ S, S = B8 R := ⟨_, rfl⟩
  rw [← hS] at cI cS hlR hszR cN
  simp only [← hS] at htkR
  have CI := Lib.hid cI
  have CS := Lib.hid cS
  have CT := Lib.hid cT
  have CN := Lib.hid cN
  have HTAKE := Lib.hid htake
  have HTK := Lib.hid htkR
  have hRR : (R != R) = false := by simp
  have hRR2 : (R == R) = true := by simp
  obtain ⟨N, hN⟩ : ∃ N, N = R.length := ⟨_, rfl⟩
  rw [← hN] at hszR
  have HN := Lib.hid hN
  obtain ⟨M, hM⟩ : ∃ M, M = ls.length := ⟨_, rfl⟩
  have HM := Lib.hid hM
  rw [← hM] at hl5 hlc CI CS CN ⊢
  clear cI cS cT cN hcount htake hR hS HI HG hs hlen htkR hN hM hRl
  go_wp2_with fail
  refine (CI.out _ B1 r1).mono ?_
  rintro e w2 ⟨rfl, b2⟩
  have r2 := r1.below b2
  have B2 := B1.trans (b2.mono B1.size)
  clear b2 r1 B1
  go_wp2_with fail
  refine (CS.out _ r2).mono ?_
  rintro e w3 ⟨rfl, b3⟩
  have r3 := r2.below b3
  have B3 := B2.trans (b3.mono B2.size)
  clear b3 r2 B2
  by_cases h0 : R = []
  · have hb : (R == ([] : List UInt8)) = true := by rw [h0]; rfl
    clear h0
    go_wp2_with fail
    refine (CS.out _ r3).mono ?_
    rintro e w4 ⟨rfl, b4⟩
    have B4 := B3.trans (b4.mono B3.size)
    go_wp2
    go_ret
    exact ⟨rfl, B4⟩
  · have hb : (R == ([] : List UInt8)) = false := by simpa using h0
    clear h0 CI CS
    go_wp2
    go_loopw [5] (fun kv wr => ∃ k : Nat, k ≤ M + 1 ∧ kv = .int .i64 (k : Int) ∧ ReadsX wr a1 ls ∧ Below w.heap.size w wr) (fun kv _ => M + 1 - (intOf kv).toNat)
    case atStart => exact ⟨0, by omega, rfl, r3, B3⟩
    case round =>
      clear r3 B3
      rename World => wo
      obtain ⟨k, hk, rfl, hr, hB⟩ := hrel
      by_cases hle : k ≤ M
      · have hk1 : (k : Int) ≤ (M : Int) := by omega
        have hk2 : (k : Int) ≤ (c1 : Int) := by omega
        have cT := CT.out k (by have := HM.out; omega) wo hB hr
        have hlk : (ls.take k).length = k := by rw [List.length_take]; have := HM.out; omega
        rw [hlk] at cT
        obtain ⟨t, ht⟩ := HTAKE.out k
        obtain ⟨E, hE⟩ : ∃ E, E = RDk (ls.take k) := ⟨_, rfl⟩
        rw [← hE] at cT ht
        have hEl : E.length ≤ N := by rw [HN.out, ht, List.length_append]; omega
        have htk := HTK.out E.length
        rw [show (R.drop 0).take (E.length - 0) = E by rw [ht]; simp] at htk
        have hszE := B8_size E
        have hlE := B8_list E
        obtain ⟨F, hF⟩ : ∃ F, F = B8 E := ⟨_, rfl⟩
        rw [← hF] at cT htk hszE hlE
        obtain ⟨L, hL⟩ : ∃ L, L = E.length := ⟨_, rfl⟩
        rw [← hL] at htk hszE hEl
        have hEE : (E != E) = false := by simp
        have hgt : ¬ (L : Int) > (N : Int) := by omega
        have hgt2 : (L : Int) ≤ (N : Int) := by omega
        have CTk := Lib.hid cT
        clear cT hlk ht hE hF hL
        go_wp2_with fail
        refine CTk.out.mono ?_
        rintro e w2' ⟨rfl, b2⟩
        have hr2 := hr.below b2
        have hB2 := hB.trans (b2.mono hB.size)
        clear b2 hr hB CTk
        go_wp2
        go_roundw
        case rel => exact ⟨k + 1, by omega, by go_num, hr2, hB2⟩
        case measure => simp [intOf]; omega
      · have hk1 : ¬ (k : Int) ≤ (M : Int) := by omega
        have hMM : ((M : Int) == (M : Int)) = true := by simp
        clear CT
        go_wp2_with fail
        refine (CN.out _).mono ?_
        rintro e w' ⟨rfl, rfl⟩
        go_wp2
        go_ret
        exact ⟨rfl, hB⟩
end Go.Proofs.YtoaiaindcmihjaaGreatDoor
/-
  Texts cut into the runs of digits: what strings.FieldsFunc gives of a text, and of the text of a tree.
-/
namespace Go.Proofs.YtoaiaindcmihjaaGreatDoor

/-- No digit. -/
def isN (r : Nat) : Bool := decide (r < 48) || decide (57 < r)
theorem isN_isD (x : UInt8) : isN x.toNat = !isD x := by
  unfold isN isD
  by_cases h : 48 ≤ x.toNat ∧ x.toNat ≤ 57
  · rw [decide_eq_true h, decide_eq_false (by omega), decide_eq_false (by omega)]; rfl
  · rw [decide_eq_false h]
    by_cases h1 : x.toNat < 48
    · rw [decide_eq_true h1]; rfl
    · rw [decide_eq_false h1, decide_eq_true (by omega)]; rfl
/-- The runs of digits; the first one may have begun. -/
def frun : List UInt8 → Option (List UInt8) → List (List UInt8)
  | [], st => st.toList
  | x :: t, st => if isD x = true then frun t (some (st.getD [] ++ [x])) else st.toList ++ frun t none
theorem frun_nod {s : List UInt8} (h : nod s) (p : List UInt8) : frun s (some p) = p :: frun s none := by
  cases s with
  | nil => rfl
  | cons c t => rw [frun, frun, h c t rfl]; simp
theorem frun_app : ∀ (p s : List UInt8) (q : List UInt8), (∀ c ∈ p, isD c = true) → frun (p ++ s) (some q) = frun s (some (q ++ p)) := by
  intro p
  induction p with
  | nil => intro s q _; simp
  | cons c p ih =>
    intro s q h
    rw [List.cons_append, frun, if_pos (h c (by simp)), ih _ _ (fun x hx => h x (List.mem_cons_of_mem _ hx))]
    simp
theorem dec_isD : ∀ (n : Nat), ∀ c ∈ dec n, isD c = true := by
  intro n
  induction n using Nat.strongRecOn with
  | ind n ih =>
    intro c hc
    by_cases h : n < 10
    · rw [dec_lt h, List.mem_singleton] at hc
      rw [hc]; exact isD_dgt h
    · rw [dec_ge h, List.mem_append, List.mem_singleton] at hc
      rcases hc with hc | hc
      · exact ih (n / 10) (by omega) c hc
      · rw [hc]; exact isD_dgt (by omega)
theorem frun_dec (n : Nat) {s : List UInt8} (h : nod s) : frun (dec n ++ s) none = dec n :: frun s none := by
  obtain ⟨m, t, h1, h2⟩ := dec_head n
  have hd := dec_isD n
  rw [h2] at hd ⊢
  rw [List.cons_append, frun, if_pos (hd _ (by simp)), frun_app t s _ (fun c hc => hd c (by simp [hc])), frun_nod h]
  simp
theorem frun_sep {c : UInt8} (h : isD c = false) (s : List UInt8) : frun (c :: s) none = frun s none := by
  rw [frun, h]; simp
/-- The runs of digits of the text of a tree are its names. -/
theorem frun_ttr {l : List Int} (hn : l.Nodup) (hr : ∀ x ∈ l, 0 ≤ x ∧ x ≤ 63) : ∀ f d e s, f + d = 6 → e < 2 ^ d → nod s → frun (ttr l f d e ++ s) none = (lvs l f d e).map (fun x => dec x.toNat) ++ frun s none := by
  have one : ∀ f d e s, (tfl l d e).length ≤ 1 → nod s → frun (ttr l f d e ++ s) none = (tfl l d e).map (fun x => dec x.toNat) ++ frun s none := by
    intro f d e s h hs
    rcases tfl_cases l d e with h0 | ⟨x, h1⟩ | h2
    · rw [ttr_none h0, h0, List.singleton_append, frun_sep (by decide)]; rfl
    · rw [ttr_one h1, h1, frun_dec _ hs]; rfl
    · omega
  intro f
  induction f with
  | zero =>
    intro d e s hf he hs
    obtain rfl : d = 6 := by omega
    exact one 0 6 e s (tfl_six hn hr e) hs
  | succ f ih =>
    intro d e s hf he hs
    have hp : 2 ^ (d + 1) = 2 * 2 ^ d := by rw [Nat.pow_succ]; omega
    by_cases h : (tfl l d e).length ≤ 1
    · rw [lvs, if_pos h]; exact one (f + 1) d e s h hs
    · rw [lvs, if_neg h, ttr_more (by omega)]
      have e1 : [40] ++ ttr l f (d + 1) e ++ [32] ++ ttr l f (d + 1) (e + 2 ^ d) ++ [41] ++ s = 40 :: (ttr l f (d + 1) e ++ 32 :: (ttr l f (d + 1) (e + 2 ^ d) ++ 41 :: s)) := by simp
      rw [e1, frun_sep (by decide), ih (d + 1) e _ (by omega) (by omega) (nod_cons (by decide)), frun_sep (by decide), ih (d + 1) (e + 2 ^ d) _ (by omega) (by omega) (nod_cons (by decide)), frun_sep (by decide)]
      simp
theorem ttr_ascii (l : List Int) : ∀ f d e, ∀ c ∈ ttr l f d e, c.toNat < 128 := by
  have dg : ∀ n, ∀ c ∈ dec n, c.toNat < 128 := fun n c hc => by
    have := dec_isD n c hc
    unfold isD at this
    have := of_decide_eq_true this
    omega
  intro f
  induction f with
  | zero =>
    intro d e c hc
    rcases tfl_cases l d e with h0 | ⟨x, h1⟩ | h2
    · rw [ttr_none h0, List.mem_singleton] at hc; rw [hc]; decide
    · rw [ttr_one h1] at hc; exact dg _ c hc
    · cases hx : tfl l d e with
      | nil => rw [hx] at h2; simp at h2
      | cons x t =>
        rw [ttr, hx] at hc
        exact dg _ c hc
  | succ f ih =>
    intro d e c hc
    rcases tfl_cases l d e with h0 | ⟨x, h1⟩ | h2
    · rw [ttr_none h0, List.mem_singleton] at hc; rw [hc]; decide
    · rw [ttr_one h1] at hc; exact dg _ c hc
    · rw [ttr_more h2] at hc
      simp only [List.mem_append, List.mem_singleton] at hc
      rcases hc with (((hc | hc) | hc) | hc) | hc
      · rw [hc]; decide
      · exact ih _ _ c hc
      · rw [hc]; decide
      · exact ih _ _ c hc
      · rw [hc]; decide
/-- The fields, by the pass over the runes, of a text in ASCII. -/
theorem spans_ascii (s : List UInt8) (ha : ∀ c ∈ s, c.toNat < 128) : ∀ (f pos : Nat) (st : Option Nat) (acc : List (Nat × Nat)), s.length ≤ pos + f → pos ≤ s.length → (∀ a, st = some a → a ≤ pos) →
    (Go.Lib.closeSpans (B8 s) (Go.Lib.spansFromP isN (B8 s) f pos st acc)).map (fun p => (s.drop p.1).take (p.2 - p.1)) = acc.map (fun p => (s.drop p.1).take (p.2 - p.1)) ++ frun (s.drop pos) (st.map fun a => (s.drop a).take (pos - a)) := by
  have hsz : (B8 s).size = s.length := by show s.toArray.size = _; simp
  intro f
  induction f with
  | zero =>
    intro pos st acc h hp hst
    obtain rfl : pos = s.length := by omega
    rw [List.drop_length]
    cases st with
    | none => simp [Go.Lib.spansFromP, Go.Lib.closeSpans, frun]
    | some a => simp [Go.Lib.spansFromP, Go.Lib.closeSpans, frun, hsz]
  | succ f ih =>
    intro pos st acc h hp hst
    by_cases hlt : pos < s.length
    · have hx : s.drop pos = s[pos] :: s.drop (pos + 1) := (List.drop_eq_getElem_cons hlt)
      have hdc : Utf8.decode (B8 s) pos = (s[pos].toNat, 1) := by
        rw [← Go.Lib.decodeL_drop]
        show Go.Lib.decodeL (s.drop pos) = _
        rw [hx]
        rw [Go.Lib.decodeL_N]
        exact Go.Lib.decodeN_ascii _ _ _ _ _ (ha _ (List.getElem_mem hlt))
      simp only [Go.Lib.spansFromP]
      rw [if_pos (by rw [hsz]; exact hlt), hdc, isN_isD, hx, frun]
      have grow : ∀ a, a ≤ pos → (s.drop a).take (pos + 1 - a) = (s.drop a).take (pos - a) ++ [s[pos]] := fun a h => by
        rw [show pos + 1 - a = pos - a + 1 by omega, List.take_add_one]
        congr 1
        rw [List.getElem?_drop, show a + (pos - a) = pos by omega]
        simp [hlt]
      cases hd : isD s[pos] with
      | true =>
        simp only [Bool.not_true, Bool.false_eq_true, if_false, if_true]
        cases st with
        | none =>
          rw [ih (pos + 1) (some pos) acc (by omega) (by omega) (fun a h => by cases h; omega)]
          have := grow pos (Nat.le_refl _)
          simp only [Option.map_some, Option.map_none, Option.getD_none]
          rw [this]; simp
        | some a =>
          rw [ih (pos + 1) (some a) acc (by omega) (by omega) (fun b h => by cases h; have := hst a rfl; omega)]
          simp only [Option.map_some, Option.getD_some]
          rw [grow a (hst a rfl)]
      | false =>
        simp only [Bool.not_false, if_true, Bool.false_eq_true, if_false]
        cases st with
        | none =>
          rw [ih (pos + 1) none acc (by omega) (by omega) (fun a h => by cases h)]
          simp
        | some a =>
          rw [ih (pos + 1) none (acc ++ [(a, pos)]) (by omega) (by omega) (fun a h => by cases h)]
          simp
    · obtain rfl : pos = s.length := by omega
      rw [Go.Lib.spansFromP_end _ _ _ _ _ _ (by rw [hsz]; omega), List.drop_length]
      cases st with
      | none => simp [Go.Lib.closeSpans, frun]
      | some a => simp [Go.Lib.closeSpans, frun, hsz]
theorem fields_ascii (s : List UInt8) (ha : ∀ c ∈ s, c.toNat < 128) : Go.Lib.goFieldsP isN (B8 s) = (frun s none).map B8 := by
  have hsz : (B8 s).size = s.length := by show s.toArray.size = _; simp
  have h := spans_ascii s ha (B8 s).size 0 none [] (by rw [hsz]; omega) (by omega) (fun a h => by cases h)
  unfold Go.Lib.goFieldsP Go.Lib.spansOfP
  simp only [List.map_nil, List.nil_append, List.drop_zero, Option.map_none] at h
  rw [← h, List.map_map]
  refine List.map_congr_left fun p _ => ?_
  show (B8 s).extract p.1 p.2 = B8 ((s.drop p.1).take (p.2 - p.1))
  exact ByteArray.extract_mk s p.1 p.2
/-- The fields of the text of a tree. -/
theorem fields_TXT {l : List Int} (hv : VNm l = true) : Go.Lib.goFieldsP isN (B8 (TXT l)) = ((lvs l 6 0 0).map (fun x => dec x.toNat)).map B8 := by
  obtain ⟨h1, h2, h3⟩ := VNm_iff.1 hv
  have e : TXT l = ttr l 6 0 0 := by unfold TXT; rw [if_pos hv]
  rw [e, fields_ascii _ (ttr_ascii l 6 0 0)]
  have := frun_ttr h3 h2 6 0 0 [] rfl (by simp) nod_nil
  rw [List.append_nil] at this
  rw [this]
  simp [frun]
end Go.Proofs.YtoaiaindcmihjaaGreatDoor
