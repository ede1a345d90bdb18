
import Derived.Test.YtoaiaindcmihjaaGreatDoorMub
import Derived.Test.YtoaiaindcmihjaaGreatDoorMua
/-
  spec.readTree, ReadTree.
-/
namespace Go.Proofs.YtoaiaindcmihjaaGreatDoor
open Go.RowKit

theorem B8_size (s : List UInt8) : (B8 s).size = s.length := rfl
theorem B8_list (s : List UInt8) : (B8 s).toList = s := ByteArray.toList_mk s
theorem B8_get (s : List UInt8) (k : Nat) (h : k < (B8 s).size) : ((B8 s)[k]'h).toNat = (s.getD k 0).toNat := by
  have h2 : k < s.length := h
  have e : (B8 s)[k]'h = s[k] := by show s.toArray[k] = s[k]; simp
  rw [e]; simp [List.getD, h2]
theorem B8_drop (s : List UInt8) (k : Nat) : (B8 s).extract k s.length = B8 (s.drop k) := by
  rw [ByteArray.extract_mk]
  congr 2
  exact List.take_of_length_le (by rw [List.length_drop]; omega)
/-- What readTree gives. -/
def RdP (w w' : World) (e : Ending) (o : Option (List Int × List UInt8)) : Prop :=
  (o = none ∧ e = .returned (.tuple #[.slice none 0 0, .string (B8 []), .bool false]) ∨ ∃ v L r, o = some (L, r) ∧ e = .returned (.tuple #[v, .string (B8 r), .bool true]) ∧ Own w' w.heap.size v L) ∧ Below w.heap.size w w'
set_option maxHeartbeats 8000000 in
theorem readTree_any : ∀ (g : Nat) (s : List UInt8) (w : World), s.length < g → s.length ≤ 400 → Calls Tryz.prog 39 #[.string (B8 s)] w fun e w' => RdP w w' e (rd g s) := by
  intro g
  induction g with
  | zero => intro s w h; omega
  | succ g ih =>
    intro s w hg h400
    cases s with
    | nil =>
      have hl := B8_list []
      have hs : rd (g + 1) [] = none := by rw [rd]
      rw [hs]
      go_enter Tryz.func39, Tryz.ntmps39
      go_wp2
      go_ret3
      exact ⟨.inl ⟨rfl, rfl⟩, Below.refl _ _⟩
    | cons c t =>
      have hsz : (B8 (c :: t)).size = t.length + 1 := rfl
      have hl := B8_list (c :: t)
      have hdr := B8_drop (c :: t) 1
      have hg0 := B8_get (c :: t) 0
      rw [List.length_cons] at hg h400 hdr
      rw [List.drop_succ_cons, List.drop_zero] at hdr
      rw [show (c :: t).getD 0 0 = c from rfl] at hg0
      obtain ⟨S, hS⟩ : ∃ S, S = B8 (c :: t) := ⟨_, rfl⟩
      rw [← hS] at hsz hl hdr hg0 ⊢
      have HS := Lib.hid hS
      clear hS
      obtain ⟨C, hC⟩ : ∃ C : Nat, C = c.toNat := ⟨_, rfl⟩
      have hC256 : C < 256 := by rw [hC]; exact UInt8.toNat_lt c
      rw [← hC] at hg0
      have HC := Lib.hid hC
      have ht1 : (1 : Int) ≤ (t.length : Int) + 1 := by omega
      clear hC
      by_cases h46 : C = 46
      · subst h46
        have hc : c = 46 := UInt8.toNat_inj.1 HC.out.symm
        have hR : rd (g + 1) (c :: t) = some ([], t) := by rw [rd, if_pos hc]
        rw [hR]
        have ho := Own.lit0 w w.heap.size (Nat.le_refl _)
        have hB := (Below.refl w.heap.size w).alloc (Nat.le_refl _) (.cells #[] 3)
        clear hR hc
        go_enter Tryz.func39, Tryz.ntmps39
        have ho2 := ho.below (Below.refl _ _).drew
        have hB2 := hB.drew
        go_wp2_with fail
        go_region_law (fail)
        all_goals
          go_wp2
          go_ret3
          exact ⟨.inr ⟨_, [], t, rfl, rfl, ho2⟩, hB2⟩
      · by_cases h40 : C = 40
        · subst h40
          have hc : c = 40 := UInt8.toNat_inj.1 HC.out.symm
          have hne : rd (g + 1) (c :: t) = (match rd g t with
              | some (a, c1 :: r) => if c1 = 32 then
                  match rd g r with
                  | some (b, c2 :: m) => if c2 = 41 then some (a ++ b, m) else none
                  | _ => none
                else none
              | _ => none) := by rw [rd, if_neg (by rw [hc]; decide), if_pos hc]; rfl
          obtain ⟨RR, hRR⟩ : ∃ RR, RR = rd (g + 1) (c :: t) := ⟨_, rfl⟩
          rw [← hRR] at hne ⊢
          have HNE := Lib.hid hne
          have I1 := Lib.hid (ih t w (by omega) (by omega))
          have I2 := Lib.hid ih
          clear hne hRR hc ih
          go_enter Tryz.func39, Tryz.ntmps39
          go_wp2_with fail
          refine I1.out.mono ?_
          rintro e w1 ⟨⟨h1, rfl⟩ | ⟨v1, L1, r1, h1, rfl, o1⟩, B1⟩
          · have hR : RR = none := by rw [HNE.out, h1]
            have HR := Lib.hid hR
            clear h1 hR I1
            go_wp2
            go_ret3
            exact ⟨.inl ⟨HR.out, rfl⟩, B1⟩
          · have k1 := rd_len _ _ _ _ h1
            have H1 := Lib.hid h1
            obtain ⟨a1, cc1, rfl, hr1, _, _, _⟩ := o1.form
            clear h1 I1
            cases r1 with
            | nil =>
              have hR : RR = none := by rw [HNE.out, H1.out]
              have hl1 := B8_list []
              have HR := Lib.hid hR
              clear hR k1
              go_wp2
              go_ret3
              exact ⟨.inl ⟨HR.out, rfl⟩, B1⟩
            | cons c1 r =>
              have hsz1 : (B8 (c1 :: r)).size = r.length + 1 := rfl
              have hl1 := B8_list (c1 :: r)
              have hdr1 := B8_drop (c1 :: r) 1
              have hg1 := B8_get (c1 :: r) 0
              rw [List.length_cons] at hdr1 k1
              rw [List.drop_succ_cons, List.drop_zero] at hdr1
              rw [show (c1 :: r).getD 0 0 = c1 from rfl] at hg1
              obtain ⟨S1, hS1⟩ : ∃ S1, S1 = B8 (c1 :: r) := ⟨_, rfl⟩
              rw [← hS1] at hsz1 hl1 hdr1 hg1 ⊢
              obtain ⟨C1, hC1⟩ : ∃ C1 : Nat, C1 = c1.toNat := ⟨_, rfl⟩
              rw [← hC1] at hg1
              have HC1 := Lib.hid hC1
              have hrl : r.length ≤ 400 := by omega
              have hL1 : L1.length ≤ 400 := by omega
              have hrg : r.length < g := by omega
              clear hS1 hC1 k1
              by_cases h32 : C1 = 32
              rotate_left
              · have hc1 : ¬ c1 = 32 := fun e => h32 (by rw [HC1.out, e]; rfl)
                have hR : RR = none := by rw [HNE.out, H1.out]; exact if_neg hc1
                have hd1 : ((C1 : Int) != 32) = true := by simp; omega
                have HR := Lib.hid hR
                clear hR hc1
                go_wp2
                go_ret3
                exact ⟨.inl ⟨HR.out, rfl⟩, B1⟩
              subst h32
              have hc1 : c1 = 32 := UInt8.toNat_inj.1 HC1.out.symm
              have hne2 : RR = (match rd g r with
                  | some (b, c2 :: m) => if c2 = 41 then some (L1 ++ b, m) else none
                  | _ => none) := by rw [HNE.out, H1.out]; exact if_pos hc1
              have HNE2 := Lib.hid hne2
              have I3 := Lib.hid (I2.out r w1 hrg hrl)
              clear hne2 hc1 I2 HNE
              go_wp2_with fail
              refine I3.out.mono ?_
              rintro e w2 ⟨⟨h2, rfl⟩ | ⟨v2, L2, r2, h2, rfl, o2⟩, B2⟩
              · have hR : RR = none := by rw [HNE2.out, h2]
                have HR := Lib.hid hR
                have B3 := B1.trans (B2.mono B1.size)
                clear h2 hR I3
                go_wp2
                go_ret3
                exact ⟨.inl ⟨HR.out, rfl⟩, B3⟩
              · have k2 := rd_len _ _ _ _ h2
                have H2 := Lib.hid h2
                obtain ⟨a2, cc2, rfl, hr2, _, _, _⟩ := o2.form
                have hr1b := hr1.below B2
                have B3 := B1.trans (B2.mono B1.size)
                clear h2 I3 o1 o2 hr1 B1 B2
                cases r2 with
                | nil =>
                  have hR : RR = none := by rw [HNE2.out, H2.out]
                  have hl2 := B8_list []
                  have HR := Lib.hid hR
                  clear hR k2
                  go_wp2
                  go_ret3
                  exact ⟨.inl ⟨HR.out, rfl⟩, B3⟩
                | cons c2 m =>
                  have hsz2 : (B8 (c2 :: m)).size = m.length + 1 := rfl
                  have hl2 := B8_list (c2 :: m)
                  have hdr2 := B8_drop (c2 :: m) 1
                  have hg2 := B8_get (c2 :: m) 0
                  rw [List.length_cons] at hdr2 k2
                  rw [List.drop_succ_cons, List.drop_zero] at hdr2
                  rw [show (c2 :: m).getD 0 0 = c2 from rfl] at hg2
                  obtain ⟨S2, hS2⟩ : ∃ S2, S2 = B8 (c2 :: m) := ⟨_, rfl⟩
                  rw [← hS2] at hsz2 hl2 hdr2 hg2 ⊢
                  obtain ⟨C2, hC2⟩ : ∃ C2 : Nat, C2 = c2.toNat := ⟨_, rfl⟩
                  rw [← hC2] at hg2
                  have HC2 := Lib.hid hC2
                  have hL2 : L2.length ≤ 400 := by omega
                  have hm1 : (1 : Int) ≤ (m.length : Int) + 1 := by omega
                  clear hS2 hC2 k2
                  by_cases h41 : C2 = 41
                  rotate_left
                  · have hc2 : ¬ c2 = 41 := fun e => h41 (by rw [HC2.out, e]; rfl)
                    have hR : RR = none := by rw [HNE2.out, H2.out]; exact if_neg hc2
                    have hd2 : ((C2 : Int) != 41) = true := by simp; omega
                    have HR := Lib.hid hR
                    clear hR hc2
                    go_wp2
                    go_ret3
                    exact ⟨.inl ⟨HR.out, rfl⟩, B3⟩
                  subst h41
                  have hc2 : c2 = 41 := UInt8.toNat_inj.1 HC2.out.symm
                  have hR : RR = some (L1 ++ L2, m) := by rw [HNE2.out, H2.out]; exact if_pos hc2
                  have HR := Lib.hid hR
                  have hlit := (Own.lit0 w2 w2.heap.size (Nat.le_refl _)).below (Below.refl _ _).drew
                  have b1 := ((Below.refl w2.heap.size w2).alloc (Nat.le_refl _) (.cells #[] 3)).drew
                  clear hR hc2
                  go_wp2_with fail
                  go_region_law (first
                    | (refine step_all rfl (.tmp 60) (.tmp 61) rfl w2.heap.size (.slice (some ⟨w2.heap.size, 0, none⟩) 0 0) [] rfl hlit b1.size a1 L1 _ _ rfl rfl (hr1b.below b1) (by omega) (by simp) ?_; intro u1 x1 p1 q1; have D1 := b1.grown q1 b1.size (fun q hq => by simp [Value.ownBlock] at hq; omega))
                    | (refine step_all rfl (.tmp 62) (.tmp 63) rfl w2.heap.size u1 L1 rfl p1 D1.size a2 L2 _ _ rfl rfl (hr2.below D1) (by omega) (by omega) ?_; intro u2 x2 p2 q2; have D2 := Below.grownB D1 p1 q2 D1.size (Nat.le_refl _)))
                  all_goals
                    have D3 := B3.trans (D2.mono B3.size)
                    go_wp2
                    go_ret3
                    exact ⟨.inr ⟨_, _, _, HR.out, rfl, p2.mono B3.size⟩, D3⟩
        · have hd46 : ((C : Int) == 46) = false := by simp; omega
          have hd40 : ((C : Int) == 40) = false := by simp; omega
          have hR0 : rd (g + 1) (c :: t) = if (rdn 0 0 (c :: t)).2.1 = 0 then none else some ([((rdn 0 0 (c :: t)).1 : Int)], (rdn 0 0 (c :: t)).2.2) := by
            rw [rd, if_neg (fun e => h46 (by rw [HC.out, e]; rfl)), if_neg (fun e => h40 (by rw [HC.out, e]; rfl))]
          have hgk := fun k (hk : k < t.length + 1) => B8_get (c :: t) k hk
          have hdk := fun k => B8_drop (c :: t) k
          have hgk2 : ∀ k, k < t.length + 1 → ∀ h : k < S.size, (S[k]'h).toNat = ((c :: t).getD k 0).toNat := by rw [HS.out]; exact fun k _ h => B8_get (c :: t) k h
          clear hgk
          have hgk := hgk2
          clear hgk2
          rw [← HS.out] at hdk
          obtain ⟨s, hs⟩ : ∃ s, s = c :: t := ⟨_, rfl⟩
          rw [← hs] at hR0 hgk hdk hl ⊢
          have hsl : t.length + 1 = s.length := by rw [hs]; rfl
          rw [hsl] at hgk hsz h400 hdr
          obtain ⟨N, hN⟩ : ∃ N, N = s.length := ⟨_, rfl⟩
          rw [← hN] at hgk hdk hsz h400 hdr
          have HN := Lib.hid hN
          obtain ⟨RR, hRR⟩ : ∃ RR, RR = rd (g + 1) s := ⟨_, rfl⟩
          rw [← hRR] at hR0 ⊢
          have HR0 := Lib.hid hR0
          have HGK := Lib.hid hgk
          have HDK := Lib.hid hdk
          have hN0 : 0 < N := by omega
          have hne : (s == ([] : List UInt8)) = false := by rw [hs]; rfl
          have hl' : (S.toList == ([] : List UInt8)) = false := by rw [hl]; exact hne
          clear hR0 hRR hN hsl hgk hdk hdr ih hl hs hne ht1 HC h46 h40
          go_enter Tryz.func39, Tryz.ntmps39
          go_wp2
          go_loop [11, 12] (fun nv kv => ∃ n k : Nat, k ≤ N ∧ nv = .int .i64 (n : Int) ∧ kv = .int .i64 (k : Int) ∧ n ≤ 9999 ∧ Hid (rdn 0 0 s = rdn n k (s.drop k))) (fun _ kv => N - (intOf kv).toNat)
          case atStart => exact ⟨0, 0, by omega, rfl, rfl, by omega, rfl⟩
          case round =>
            obtain ⟨n, k, hk, rfl, rfl, hn9, hrn⟩ := hrel
            have hstop : rdn n k (s.drop k) = (n, k, s.drop k) → (k = 0 → RR = none) ∧ (k ≠ 0 → RR = some ([(n : Int)], s.drop k)) := fun h => by
              have h1 := hrn.out.trans h
              have h2 := HR0.out
              rw [h1] at h2
              exact ⟨fun e => by rw [h2]; exact if_pos e, fun e => by rw [h2]; exact if_neg e⟩
            have HSTOP := Lib.hid hstop
            clear hstop
            have hdk := HDK.out k
            by_cases hlt : k < N
            · have hk1 : (k : Int) < (N : Int) := by omega
              have hgk := HGK.out k hlt
              have hdrop : s.drop k = s.getD k 0 :: s.drop (k + 1) := by
                have h : k < s.length := by have := HN.out; omega
                rw [List.drop_eq_getElem_cons h]; simp [List.getD, h]
              obtain ⟨x, hx⟩ : ∃ x, x = s.getD k 0 := ⟨_, rfl⟩
              rw [← hx] at hgk hdrop
              obtain ⟨D, hD⟩ : ∃ D : Nat, D = x.toNat := ⟨_, rfl⟩
              have hD256 : D < 256 := by rw [hD]; exact UInt8.toNat_lt x
              rw [← hD] at hgk
              have hisD : isD x = decide (48 ≤ D ∧ D ≤ 57) := by unfold isD; rw [hD]
              have hstep : rdn n k (s.drop k) = if (48 ≤ D ∧ D ≤ 57) ∧ n < 1000 then rdn (10 * n + (D - 48)) (k + 1) (s.drop (k + 1)) else (n, k, s.drop k) := by
                rw [hdrop, rdn, hisD, ← hD]
                simp
              have HST := Lib.hid hstep
              clear hstep hisD hD hx hdrop
              by_cases hd : (48 ≤ D ∧ D ≤ 57) ∧ n < 1000
              · have hs := HST.out
                rw [if_pos hd] at hs
                have hs2 := hrn.out.trans hs
                have HS2 := Lib.hid hs2
                have d1 : (48 : Int) ≤ (D : Int) := by omega
                have d2 : (D : Int) ≤ 57 := by omega
                have d3 : (n : Int) < 1000 := by omega
                have hw : IntKind.u8.wrap ((D : Int) - 48) = (D : Int) - 48 := by simp [IntKind.wrap, IntKind.signed, IntKind.bits]; omega
                clear hs hs2 HSTOP HST hrn hd
                go_wp2
                go_round
                case rel => exact ⟨10 * n + (D - 48), k + 1, by omega, by go_num, by go_num, by omega, HS2⟩
                case measure => simp [intOf]; omega
              · have hst := HST.out
                rw [if_neg hd] at hst
                have hcase : ¬ 48 ≤ D ∨ (48 ≤ D ∧ ¬ D ≤ 57) ∨ (48 ≤ D ∧ D ≤ 57 ∧ ¬ n < 1000) := by omega
                have HST2 := Lib.hid hst
                clear hd hst
                rcases hcase with e1 | ⟨e1, e2⟩ | ⟨e1, e2, e3⟩
                · have d1 : ¬ (48 : Int) ≤ (D : Int) := by omega
                  have hs := HSTOP.out HST2.out
                  by_cases hk0 : k = 0
                  · have HR := Lib.hid (hs.1 hk0)
                    have hkk : ((k : Int) == 0) = true := by simp [hk0]
                    clear hs HSTOP HST hrn HR0 HGK hk0 hdk
                    go_wp2
                    go_ret3
                    exact ⟨.inl ⟨HR.out, rfl⟩, Below.refl _ _⟩
                  · have HR := Lib.hid (hs.2 hk0)
                    have hkk : ((k : Int) == 0) = false := by simp; omega
                    have hkN : (k : Int) ≤ (N : Int) := by omega
                    have ho := (Own.lit w w.heap.size (Nat.le_refl _) (n : Int)).below (Below.refl _ _).drew
                    have hB := ((Below.refl w.heap.size w).alloc (Nat.le_refl _) (.cells #[.int .i64 (n : Int)] 3)).drew
                    clear hs HSTOP HST hrn HR0 HGK
                    go_wp2_with fail
                    go_region_law (fail)
                    all_goals
                      go_wp2
                      go_ret3
                      exact ⟨.inr ⟨.slice (some ⟨w.heap.size, 0, none⟩) 1 1, [(n : Int)], s.drop k, HR.out, by rfl, ho⟩, hB⟩
                · have d1 : (48 : Int) ≤ (D : Int) := by omega
                  have d2 : ¬ (D : Int) ≤ 57 := by omega
                  have hs := HSTOP.out HST2.out
                  by_cases hk0 : k = 0
                  · have HR := Lib.hid (hs.1 hk0)
                    have hkk : ((k : Int) == 0) = true := by simp [hk0]
                    clear hs HSTOP HST hrn HR0 HGK hk0 hdk
                    go_wp2
                    go_ret3
                    exact ⟨.inl ⟨HR.out, rfl⟩, Below.refl _ _⟩
                  · have HR := Lib.hid (hs.2 hk0)
                    have hkk : ((k : Int) == 0) = false := by simp; omega
                    have hkN : (k : Int) ≤ (N : Int) := by omega
                    have ho := (Own.lit w w.heap.size (Nat.le_refl _) (n : Int)).below (Below.refl _ _).drew
                    have hB := ((Below.refl w.heap.size w).alloc (Nat.le_refl _) (.cells #[.int .i64 (n : Int)] 3)).drew
                    clear hs HSTOP HST hrn HR0 HGK
                    go_wp2_with fail
                    go_region_law (fail)
                    all_goals
                      go_wp2
                      go_ret3
                      exact ⟨.inr ⟨.slice (some ⟨w.heap.size, 0, none⟩) 1 1, [(n : Int)], s.drop k, HR.out, by rfl, ho⟩, hB⟩
                · have d1 : (48 : Int) ≤ (D : Int) := by omega
                  have d2 : (D : Int) ≤ 57 := by omega
                  have d3 : ¬ (n : Int) < 1000 := by omega
                  have hs := HSTOP.out HST2.out
                  by_cases hk0 : k = 0
                  · have HR := Lib.hid (hs.1 hk0)
                    have hkk : ((k : Int) == 0) = true := by simp [hk0]
                    clear hs HSTOP HST hrn HR0 HGK hk0 hdk
                    go_wp2
                    go_ret3
                    exact ⟨.inl ⟨HR.out, rfl⟩, Below.refl _ _⟩
                  · have HR := Lib.hid (hs.2 hk0)
                    have hkk : ((k : Int) == 0) = false := by simp; omega
                    have hkN : (k : Int) ≤ (N : Int) := by omega
                    have ho := (Own.lit w w.heap.size (Nat.le_refl _) (n : Int)).below (Below.refl _ _).drew
                    have hB := ((Below.refl w.heap.size w).alloc (Nat.le_refl _) (.cells #[.int .i64 (n : Int)] 3)).drew
                    clear hs HSTOP HST hrn HR0 HGK
                    go_wp2_with fail
                    go_region_law (fail)
                    all_goals
                      go_wp2
                      go_ret3
                      exact ⟨.inr ⟨.slice (some ⟨w.heap.size, 0, none⟩) 1 1, [(n : Int)], s.drop k, HR.out, by rfl, ho⟩, hB⟩
            · obtain rfl : k = N := by omega
              have hnil : s.drop k = [] := List.drop_eq_nil_of_le (by have := HN.out; omega)
              have HST2 : Hid (rdn n k (s.drop k) = (n, k, s.drop k)) := by show rdn n k (s.drop k) = (n, k, s.drop k); rw [hnil]; rfl
              have HST := HST2
              clear hdk
              have hs := HSTOP.out HST2.out
              by_cases hk0 : k = 0
              · have HR := Lib.hid (hs.1 hk0)
                have hkk : ((k : Int) == 0) = true := by simp [hk0]
                clear hs HSTOP HST hrn HR0 HGK hk0
                go_wp2
                go_ret3
                exact ⟨.inl ⟨HR.out, rfl⟩, Below.refl _ _⟩
              · rw [hnil] at hs
                have HR := Lib.hid (hs.2 hk0)
                have hkk : ((k : Int) == 0) = false := by simp; omega
                have hkN : (k : Int) ≤ (k : Int) := by omega
                have ho := (Own.lit w w.heap.size (Nat.le_refl _) (n : Int)).below (Below.refl _ _).drew
                have hB := ((Below.refl w.heap.size w).alloc (Nat.le_refl _) (.cells #[.int .i64 (n : Int)] 3)).drew
                clear hs HSTOP HST hrn HR0 HGK
                go_wp2_with fail
                go_region_law (fail)
                all_goals
                  go_wp2
                  go_ret3
                  exact ⟨.inr ⟨.slice (some ⟨w.heap.size, 0, none⟩) 1 1, [(n : Int)], [], HR.out, by rfl, ho⟩, hB⟩
end Go.Proofs.YtoaiaindcmihjaaGreatDoor
/-
  The desk: texts cut at a byte, numbers read and written.
-/
namespace Go.Proofs.YtoaiaindcmihjaaGreatDoor

def cst (c : UInt8) (p : List (List UInt8) × List UInt8) (x : UInt8) : List (List UInt8) × List UInt8 := if x = c then (p.1 ++ [p.2], []) else (p.1, p.2 ++ [x])
/-- What is cut off, and what stands behind the last cut. -/
def cut (c : UInt8) (s : List UInt8) : List (List UInt8) × List UInt8 := s.foldl (cst c) ([], [])
/-- The pieces of a text between the bytes of a kind. -/
def pcs (c : UInt8) (s : List UInt8) : List (List UInt8) := (cut c s).1 ++ [(cut c s).2]
theorem cut_snoc (c : UInt8) (s : List UInt8) (x : UInt8) : cut c (s ++ [x]) = cst c (cut c s) x := by simp [cut]
theorem snocU {α : Type} {P : List α → Prop} (h0 : P []) (h1 : ∀ s x, P s → P (s ++ [x])) : ∀ s, P s := by
  have h : ∀ s : List α, P s.reverse := by
    intro s
    induction s with
    | nil => simpa using h0
    | cons x s ih => rw [List.reverse_cons]; exact h1 _ _ ih
  intro s
  have := h s.reverse
  rwa [List.reverse_reverse] at this
theorem takeU {s : List UInt8} {i : Nat} (h : i < s.length) : s.take (i + 1) = s.take i ++ [s.getD i 0] := by
  rw [List.take_succ_eq_append_getElem h]; simp [List.getD, h]
/-- Where the last piece begins. -/
theorem cut_from (c : UInt8) (s : List UInt8) : ∃ f, f ≤ s.length ∧ (cut c s).2 = s.drop f := by
  revert s; refine snocU ⟨0, by simp, by simp [cut]⟩ fun s x ih => ?_
  · obtain ⟨f, h1, h2⟩ := ih
    rw [cut_snoc]
    unfold cst
    by_cases e : x = c
    · rw [if_pos e]; exact ⟨s.length + 1, by simp, by simp⟩
    · rw [if_neg e]
      refine ⟨f, by simp; omega, ?_⟩
      show (cut c s).2 ++ [x] = _
      rw [h2, List.drop_append_of_le_length h1]
theorem cut_len (c : UInt8) (s : List UInt8) : (cut c s).1.length ≤ s.length := by
  revert s; refine snocU (by simp [cut]) fun s x ih => ?_
  · rw [cut_snoc]
    unfold cst
    by_cases e : x = c
    · rw [if_pos e]; simp; omega
    · rw [if_neg e]; simp; omega
/-- One byte more of a number. -/
def rst (n : Int) (c : UInt8) : Int := if n < 0 ∨ n > 1000 ∨ isD c = false then -1 else 10 * n + ((c.toNat : Int) - 48)
def rnm0 (p : List UInt8) : Int := p.foldl rst 0
theorem rnm0_snoc (p : List UInt8) (c : UInt8) : rnm0 (p ++ [c]) = rst (rnm0 p) c := by simp [rnm0]
theorem rnm0_le (p : List UInt8) : -1 ≤ rnm0 p ∧ rnm0 p ≤ 10009 := by
  revert p; refine snocU (by simp [rnm0]) fun p c ih => ?_
  · rw [rnm0_snoc]
    unfold rst
    split
    · omega
    · rename_i h
      have hd : isD c = true := by
        cases e : isD c with
        | true => rfl
        | false => exact absurd (.inr (.inr e)) h
      unfold isD at hd
      have := of_decide_eq_true hd
      omega
/-- The number of a text in decimal, -1 if it is none. -/
def rnm (p : List UInt8) : Int := if p = [] ∨ rnm0 p < 0 ∨ dec (rnm0 p).toNat ≠ p then -1 else rnm0 p
/-- The numbers of a text. -/
def rls (s : List UInt8) : List Int := (pcs 44 s).map rnm
/-- A number of a list, - for those below 0. -/
def num1 (x : Int) : List UInt8 := if x < 0 then [45] else dec x.toNat
/-- Numbers with a comma between two of them. -/
def ltx : List Int → List UInt8
  | [] => []
  | [x] => num1 x
  | x :: y :: l => num1 x ++ [44] ++ ltx (y :: l)
theorem ltx_snoc (l : List Int) (x : Int) : ltx (l ++ [x]) = (if l = [] then [] else ltx l ++ [44]) ++ num1 x := by
  induction l with
  | nil => simp [ltx]
  | cons y l ih =>
    cases l with
    | nil => simp [ltx]
    | cons z l =>
      rw [List.cons_append, List.cons_append, ltx, ← List.cons_append, ih]
      simp [ltx]
end Go.Proofs.YtoaiaindcmihjaaGreatDoor
/-
  Slices of texts; spec.splitAt, listText.
-/
namespace Go.Proofs.YtoaiaindcmihjaaGreatDoor
open Go.RowKit

/-- The texts' values. -/
def strs (l : List (List UInt8)) : List Value := l.map fun s => .string (B8 s)
theorem strs_get {l : List (List UInt8)} {i : Nat} (h : i < l.length) : (strs l)[i]? = some (.string (B8 (l.getD i []))) := by simp [strs, List.getD, h]
/-- The slice (its address, its length) reads as the texts. -/
def ReadsX (w : World) (a : Option Addr) (l : List (List UInt8)) : Prop := l = [] ∨ ∃ b off, a = some ⟨b, off, none⟩ ∧ b < w.heap.size ∧ ∀ i, i < l.length → w.cell? ⟨b, off + i, none⟩ = some (.string (B8 (l.getD i [])))
theorem ReadsX.below {w w' : World} (h : Below w.heap.size w w') {a : Option Addr} {l : List (List UInt8)} (hc : ReadsX w a l) : ReadsX w' a l := by
  rcases hc with h0 | ⟨b, off, ha, hb, hc⟩
  · exact .inl h0
  · exact .inr ⟨b, off, ha, Nat.lt_of_lt_of_le hb h.size, fun i hi => (h.cell (p := ⟨b, off + i, none⟩) hb).trans (hc i hi)⟩
theorem ReadsX.get {w : World} {a : Option Addr} {l : List (List UInt8)} (h : ReadsX w a l) {k : Nat} (hk : k < l.length) : ∃ b off, a = some ⟨b, off, none⟩ ∧ b < w.heap.size ∧ w.cell? ⟨b, off + k, none⟩ = some (.string (B8 (l.getD k []))) := by
  rcases h with rfl | ⟨b, off, ha, hb, hc⟩
  · simp at hk
  · exact ⟨b, off, ha, hb, hc k hk⟩
/-- A slice of texts of the call's own. -/
def OwnX (w : World) (base : Nat) (v : Value) (l : List (List UInt8)) : Prop := w.ownsRow base 9 1 v l.length (strs l)
theorem OwnX.lt {w : World} {base : Nat} {v : Value} {l : List (List UInt8)} (h : OwnX w base v l) : ∀ k, v.ownBlock = some k → base ≤ k ∧ k < w.heap.size := World.ownsRow.lt h
theorem OwnX.kept {w w' : World} {base : Nat} {v : Value} {l : List (List UInt8)} {row : Option Nat} (h : OwnX w base v l) (hg : w.grownBy w' row) (hne : v.ownBlock = none ∨ v.ownBlock ≠ row) : OwnX w' base v l := World.ownsRow.kept h hg hne
theorem OwnX.below {w w' : World} {base : Nat} {v : Value} {l : List (List UInt8)} (hb : Below w.heap.size w w') (h : OwnX w base v l) : OwnX w' base v l :=
  World.ownsRow.kept h (row := none) ⟨hb.os, hb.tape, hb.output, hb.size, fun i hi _ => hb.block i hi⟩ (by cases hv : v.ownBlock with | none => exact .inl rfl | some q => exact .inr (fun e => by cases e))
theorem OwnX.form {w : World} {base : Nat} {v : Value} {l : List (List UInt8)} (h : OwnX w base v l) : ∃ a cap, v = .slice a l.length cap ∧ ReadsX w a l ∧ l.length ≤ cap ∧ cap ≤ maxLen := by
  rcases h.2 with ⟨rfl, h0⟩ | ⟨g, cap, cur, rfl, hb, hg, hn, hm, hs, ht⟩
  · exact ⟨none, 0, by rw [h0], .inl (List.eq_nil_of_length_eq_zero h0), by omega, by unfold maxLen; omega⟩
  · refine ⟨some ⟨g, 0, none⟩, cap, rfl, .inr ⟨g, 0, rfl, (Array.getElem?_eq_some_iff.1 hg).1, fun i hi => ?_⟩, hn, hm⟩
    rw [World.ownsRow.cellAt h (0 + i) (by omega), Nat.zero_add]
    exact strs_get hi
theorem OwnX.lit0 (w : World) (base : Nat) (hb : base ≤ w.heap.size) : OwnX (w.alloc (.cells #[] 9)) base (.slice (some ⟨w.heap.size, 0, none⟩) 0 0) [] :=
  World.ownsRow_lit w #[] 0 hb (by unfold maxLen; omega) rfl
theorem infoStr : (Tryz.prog.info? 9).map (fun i => (i.zero, i.size, i.bytes)) = some (some (.string ⟨#[]⟩), 1, 16) := by kernel_rfl
/-- 'append(s, x)' of one text onto a slice of the call's own. -/
theorem push_str {wr : World} {ops : Array Oper} {rest : List Oper} {o : Oper} {a : Act} {Q : Exit → Act → World → Prop} (hgd : o.guard = none) (s x : Operand)
    (ho : o.op = .call { callee := .builtin .append, args := #[s, x], argTypes := #[33, 33] })
    (base : Nat) (v : Value) (l : List (List UInt8)) (y : List UInt8) (hs : a.eval s = v) (hown : OwnX wr base v l) (hx : a.eval x = .slice (some ⟨wr.heap.size, 0, none⟩) 1 1)
    (hl : l.length < 1000000000) (hbase : base ≤ wr.heap.size)
    (h : ∀ v' w', OwnX w' base v' (l ++ [y]) → wr.grownBy w' v.ownBlock → wpList Tryz.prog ops Q rest (a.put o.dst v') w') :
    wpList Tryz.prog ops Q (o :: rest) a (wr.alloc (.cells #[.string (B8 y)] 9)) := by
  obtain ⟨i0, hi, hz0, hz1, hz2⟩ := info_parts infoStr
  refine wpList_append_own _ hgd s x 33 ho base 9 i0 (.string ⟨#[]⟩) 1 16 Tryz.underlying33 hi hz0 hz1 hz2 rfl (by decide) v l.length (strs l) hs (World.ownsRow.alloc hown _) ⟨wr.heap.size, 0, none⟩ 1 1 [.string (B8 y)] hx rfl (cell_one_new _ _ _) (fun u hu => by simp at hu; subst hu; rfl) (by unfold maxLen; omega) (by omega) (by simp; omega) fun v' w' h1 h2 _ => h v' w' ?_ ?_
  · unfold OwnX
    rw [List.length_append]
    have e : strs (l ++ [y]) = strs l ++ [.string (B8 y)] := by simp [strs]
    rw [e]; exact h1
  · refine ⟨h2.os, h2.tape, h2.output, Nat.le_trans (by simp) h2.size, fun k hk hne => ?_⟩
    rw [h2.block k (by simp; omega) hne]; exact Below.heap_alloc _ _ _ hk
theorem B8_sub (s : List UInt8) (a b : Nat) : (B8 s).extract a b = B8 ((s.drop a).take (b - a)) := ByteArray.extract_mk s a b
theorem drop_step {s : List UInt8} {f i : Nat} (hf : f ≤ i) (hi : i < s.length) : (s.drop f).take (i + 1 - f) = (s.drop f).take (i - f) ++ [s.getD i 0] := by
  have e : i + 1 - f = (i - f) + 1 := by omega
  have h : i - f < (s.drop f).length := by rw [List.length_drop]; omega
  rw [e, List.take_succ_eq_append_getElem h, List.getElem_drop]
  simp [List.getD, show f + (i - f) = i by omega, hi]
theorem cut_take {c : UInt8} {s : List UInt8} {i : Nat} (hi : i < s.length) : cut c (s.take (i + 1)) = cst c (cut c (s.take i)) (s.getD i 0) := by rw [takeU hi, cut_snoc]
set_option maxHeartbeats 8000000 in
set_option maxRecDepth 100000 in
theorem splitAt_any (s : List UInt8) (c : UInt8) (w : World) (hs : s.length ≤ 9000000) : Calls Tryz.prog 75 #[.string (B8 s), .int .u8 (c.toNat : Int)] w fun e w' => ∃ v, e = .returned v ∧ OwnX w' w.heap.size v (pcs c s) ∧ Below w.heap.size w w' := by
  have hsz := B8_size s
  have hg := B8_get s
  have hsub := B8_sub s
  have hdr := B8_drop s
  obtain ⟨S, hS⟩ : ∃ S, S = B8 s := ⟨_, rfl⟩
  have hgk : ∀ k, k < s.length → ∀ h : k < S.size, (S[k]'h).toNat = (s.getD k 0).toNat := by rw [hS]; exact fun k _ h => hg k h
  rw [← hS] at hsz hsub hdr ⊢
  obtain ⟨N, hN⟩ : ∃ N, N = s.length := ⟨_, rfl⟩
  rw [← hN] at hsz hgk hdr hs
  obtain ⟨cn, hcn⟩ : ∃ cn : Nat, cn = c.toNat := ⟨_, rfl⟩
  rw [← hcn]
  have HN := Lib.hid hN
  have HGK := Lib.hid hgk
  have HSUB := Lib.hid hsub
  have HDR := Lib.hid hdr
  have HCN := Lib.hid hcn
  have ho := OwnX.lit0 w w.heap.size (Nat.le_refl _)
  have hB := (Below.refl w.heap.size w).alloc (Nat.le_refl _) (.cells #[] 9)
  clear hg hS hN hgk hsub hdr hcn
  go_enter Tryz.func75, Tryz.ntmps75
  go_wp2
  go_loopw [5, 6, 7] (fun ov fv iv wr => ∃ i f : Nat, i ≤ N ∧ f ≤ i ∧ iv = .int .i64 (i : Int) ∧ fv = .int .i64 (f : Int) ∧ OwnX wr w.heap.size ov (cut c (s.take i)).1 ∧ Hid ((cut c (s.take i)).2 = (s.drop f).take (i - f)) ∧ Below w.heap.size w wr) (fun _ _ iv _ => N - (intOf iv).toNat)
  case atStart => exact ⟨0, 0, by omega, by omega, rfl, rfl, ho, rfl, hB⟩
  case round =>
    clear ho hB
    rename World => wo
    obtain ⟨i, f, hi, hf, rfl, rfl, ho, h2, hB⟩ := hrel
    have hz := hB.size
    have hlen := cut_len c (s.take i)
    rw [List.length_take] at hlen
    have hT9 : (cut c (s.take i)).1.length ≤ 9000000 := by omega
    by_cases hlt : i < N
    · have hi1 : (i : Int) < (N : Int) := by omega
      have his : i < s.length := by have := HN.out; omega
      have hct := cut_take (c := c) his
      have hgk := HGK.out i hlt
      have hds := drop_step hf his
      obtain ⟨x, hx⟩ : ∃ x, x = s.getD i 0 := ⟨_, rfl⟩
      rw [← hx] at hct hgk hds
      obtain ⟨D, hD⟩ : ∃ D : Nat, D = x.toNat := ⟨_, rfl⟩
      rw [← hD] at hgk
      obtain ⟨T, hT⟩ : ∃ T, T = (cut c (s.take i)).1 := ⟨_, rfl⟩
      rw [← hT] at ho hT9
      by_cases hxc : x = c
      · have hd1 : ((D : Int) == (cn : Int)) = true := by rw [hD, HCN.out, hxc]; simp
        have hc1 : (cut c (s.take (i + 1))).1 = T ++ [(s.drop f).take (i - f)] := by rw [hct]; unfold cst; rw [if_pos hxc, ← hT, h2.out]
        have hc2 : Hid ((cut c (s.take (i + 1))).2 = (s.drop (i + 1)).take (i + 1 - (i + 1))) := by show (cut c (s.take (i + 1))).2 = _; rw [hct]; unfold cst; rw [if_pos hxc]; simp
        have HC1 := Lib.hid hc1
        have hsub := HSUB.out f i
        obtain ⟨Y, hY⟩ : ∃ Y, Y = (s.drop f).take (i - f) := ⟨_, rfl⟩
        rw [← hY] at hsub HC1
        have f1 : (f : Int) ≤ (i : Int) := by omega
        have f2 : (i : Int) ≤ (N : Int) := by omega
        clear hct hds hc1 hY hx hD hT hxc h2 hlen his
        go_wp2_with (at_builtin; refine push_str rfl (.tmp 20) (.tmp 25) rfl w.heap.size _ T Y rfl ho rfl (by omega) hz ?_)
        intro v' wf of gf
        rw [← HC1.out] at of
        have hBf := hB.grown gf hB.size (fun k hk => (ho.lt k hk).1)
        clear gf ho hB
        go_wp2
        go_roundw
        case rel => exact ⟨i + 1, i + 1, by omega, by omega, by go_num, by go_num, of, hc2, hBf⟩
        case measure => simp [intOf]; omega
      · have hd1 : ((D : Int) == (cn : Int)) = false := by
          have hne : ¬ D = cn := fun e => hxc (UInt8.toNat_inj.1 (by rw [← hD, ← HCN.out]; exact e))
          simp; omega
        have hc1 : (cut c (s.take (i + 1))).1 = T := by rw [hct]; unfold cst; rw [if_neg hxc, ← hT]
        have hc2 : Hid ((cut c (s.take (i + 1))).2 = (s.drop f).take (i + 1 - f)) := by show (cut c (s.take (i + 1))).2 = _; rw [hct]; unfold cst; rw [if_neg hxc, hds, h2.out]
        rw [← hc1] at ho
        clear hct hds hc1 hx hD hT hxc h2 hlen his
        go_wp2
        go_roundw
        case rel => exact ⟨i + 1, f, by omega, by omega, by go_num, rfl, ho, hc2, hB⟩
        case measure => simp [intOf]; omega
    · obtain rfl : i = N := by omega
      have htk : s.take i = s := by rw [HN.out, List.take_length]
      have hp : pcs c s = (cut c (s.take i)).1 ++ [(s.drop f).take (i - f)] := by rw [← h2.out, htk]; rfl
      have hdl : (s.drop f).take (i - f) = s.drop f := List.take_of_length_le (by rw [List.length_drop]; have := HN.out; omega)
      rw [hdl] at hp
      have HP := Lib.hid hp
      have hdr := HDR.out f
      obtain ⟨Y, hY⟩ : ∃ Y, Y = s.drop f := ⟨_, rfl⟩
      rw [← hY] at hdr HP
      obtain ⟨T, hT⟩ : ∃ T, T = (cut c (s.take i)).1 := ⟨_, rfl⟩
      rw [← hT] at ho hT9 HP
      have f1 : (f : Int) ≤ (i : Int) := by omega
      clear htk hp hdl hY hT h2 hlen
      go_wp2_with (at_builtin; refine push_str rfl (.tmp 29) (.tmp 33) rfl w.heap.size _ T Y rfl ho rfl (by omega) hz ?_)
      intro v' wf of gf
      rw [← HP.out] at of
      have hBf := hB.grown gf hB.size (fun k hk => (ho.lt k hk).1)
      clear gf ho hB
      go_wp2
      go_ret
      exact ⟨v', rfl, of, hBf⟩
end Go.Proofs.YtoaiaindcmihjaaGreatDoor
/-
  spec.listText.
-/
namespace Go.Proofs.YtoaiaindcmihjaaGreatDoor
open Go.RowKit

theorem num1_len {x : Int} (h : x < 1000000) : (num1 x).length ≤ 6 := by
  unfold num1
  split
  · simp
  · exact dec_short (by omega)
theorem ltx_len : ∀ l : List Int, (∀ x ∈ l, x < 1000000) → (ltx l).length ≤ 7 * l.length := by
  refine snocU (by simp [ltx]) fun l x ih => ?_
  intro h
  have h1 := ih (fun y hy => h y (by simp [hy]))
  have h2 := num1_len (h x (by simp))
  rw [ltx_snoc, List.length_append, List.length_append, List.length_singleton]
  split
  · simp only [List.length_nil]; omega
  · rw [List.length_append, List.length_singleton]; omega
theorem ltx_take {l : List Int} {i : Nat} (h : i < l.length) : ltx (l.take (i + 1)) = (if i = 0 then [] else ltx (l.take i) ++ [44]) ++ num1 (l.getD i 0) := by
  rw [take_snocN h, ltx_snoc]
  congr 1
  by_cases e : i = 0
  · subst e; simp
  · rw [if_neg e, if_neg]
    intro e2
    have := congrArg List.length e2
    rw [List.length_take, List.length_nil] at this
    omega
set_option maxHeartbeats 8000000 in
set_option maxRecDepth 100000 in
theorem listText_any (a : Option Addr) (l : List Int) (cap : Nat) (w : World) (hr : Reads w a l) (hl : l.length ≤ 1000) (hx : ∀ x ∈ l, x < 1000000) : Calls Tryz.prog 44 #[.slice a l.length cap] w fun e w' => e = .returned (.string (B8 (ltx l))) ∧ w = w' := by
  obtain ⟨M, hM⟩ : ∃ M, M = l.length := ⟨_, rfl⟩
  have HM := Lib.hid hM
  have HX := Lib.hid hx
  rw [← hM] at hl ⊢
  clear hM hx
  go_enter Tryz.func44, Tryz.ntmps44
  go_wp2
  go_loop [3, 4] (fun ov iv => ∃ (i : Nat) (T : List UInt8), i ≤ M ∧ iv = .int .i64 (i : Int) ∧ ov = .string (B8 T) ∧ Hid (T = ltx (l.take i)) ∧ T.length ≤ 7 * i) (fun _ iv => M - (intOf iv).toNat)
  case atStart => exact ⟨0, [], by omega, rfl, rfl, rfl, by simp⟩
  case round =>
    obtain ⟨i, T, hi, rfl, rfl, hT, hTl⟩ := hrel
    by_cases hlt : i < M
    · have hi1 : (i : Int) < (M : Int) := by omega
      have hil : i < l.length := by have := HM.out; omega
      obtain ⟨b, off, y, rfl, hb, hc, hy⟩ := hr.get hil
      have hym : y ∈ l := by rw [← hy.out]; exact getD_mem hil
      have hy6 := HX.out y hym
      have hst := ltx_take hil
      rw [hy.out, ← hT.out] at hst
      have hnl := num1_len hy6
      have HST := Lib.hid hst
      clear hst hy hym hil
      by_cases hy0 : y < 0
      · have hn : num1 y = [45] := by unfold num1; rw [if_pos hy0]
        have HN := Lib.hid hn
        by_cases h0 : i = 0
        · have h0' : ¬ (i : Int) > 0 := by omega
          have hT0 : T = [] := by rw [hT.out, h0]; rfl
          have HR : Hid (T ++ [45] = ltx (l.take (i + 1))) := by show T ++ [45] = ltx (l.take (i + 1)); rw [HST.out, if_pos h0, HN.out, hT0]
          have HLL : (T ++ [45]).length ≤ 7 * (i + 1) := by rw [List.length_append, List.length_singleton]; omega
          clear hn hT0 h0 hnl
          go_wp2
          go_round
          case rel => exact ⟨i + 1, T ++ [45], by omega, by go_num, by rw [← B8_app], HR, HLL⟩
          case measure => simp [intOf]; omega
        · have h0' : (i : Int) > 0 := by omega
          have HR : Hid (T ++ [44] ++ [45] = ltx (l.take (i + 1))) := by show T ++ [44] ++ [45] = ltx (l.take (i + 1)); rw [HST.out, if_neg h0, HN.out]
          have HLL : (T ++ [44] ++ [45]).length ≤ 7 * (i + 1) := by simp only [List.length_append, List.length_singleton]; omega
          clear hn h0 hnl
          go_wp2
          go_round
          case rel => exact ⟨i + 1, T ++ [44] ++ [45], by omega, by go_num, by rw [← B8_app, ← B8_app], HR, HLL⟩
          case measure => simp [intOf]; omega
      · obtain ⟨Y, rfl⟩ : ∃ Y : Nat, y = Y := ⟨y.toNat, by omega⟩
        have hn : num1 (Y : Int) = dec Y := by unfold num1; rw [if_neg hy0, Int.toNat_natCast]
        have cn := fun wx => number_any Y wx (by omega)
        rw [hn] at hnl
        obtain ⟨Q, hQ⟩ : ∃ Q, Q = dec Y := ⟨_, rfl⟩
        rw [← hQ] at cn hnl hn
        have HN := Lib.hid hn
        have CN := Lib.hid cn
        by_cases h0 : i = 0
        · have h0' : ¬ (i : Int) > 0 := by omega
          have hT0 : T = [] := by rw [hT.out, h0]; rfl
          have HR : Hid (T ++ Q = ltx (l.take (i + 1))) := by show T ++ Q = ltx (l.take (i + 1)); rw [HST.out, if_pos h0, HN.out, hT0]
          have HLL : (T ++ Q).length ≤ 7 * (i + 1) := by rw [List.length_append]; omega
          clear hn hT0 h0 cn hQ hy0 hy6
          go_wp2_with fail
          refine (CN.out _).mono ?_
          rintro e w' ⟨rfl, rfl⟩
          go_wp2
          go_round
          case rel => exact ⟨i + 1, T ++ Q, by omega, by go_num, by rw [← B8_app], HR, HLL⟩
          case measure => simp [intOf]; omega
        · have h0' : (i : Int) > 0 := by omega
          have HR : Hid (T ++ [44] ++ Q = ltx (l.take (i + 1))) := by show T ++ [44] ++ Q = ltx (l.take (i + 1)); rw [HST.out, if_neg h0, HN.out]
          have HLL : (T ++ [44] ++ Q).length ≤ 7 * (i + 1) := by simp only [List.length_append, List.length_singleton]; omega
          clear hn h0 cn hQ hy0 hy6
          go_wp2_with fail
          refine (CN.out _).mono ?_
          rintro e w' ⟨rfl, rfl⟩
          go_wp2
          go_round
          case rel => exact ⟨i + 1, T ++ [44] ++ Q, by omega, by go_num, by rw [← B8_app, ← B8_app], HR, HLL⟩
          case measure => simp [intOf]; omega
    · obtain rfl : i = M := by omega
      have hf : T = ltx l := by rw [hT.out, HM.out, List.take_length]
      have HF := Lib.hid hf
      clear hf
      go_wp2
      go_ret
      exact ⟨by rw [HF.out]; rfl, rfl⟩
end Go.Proofs.YtoaiaindcmihjaaGreatDoor
/-
  spec.readList.
-/
namespace Go.Proofs.YtoaiaindcmihjaaGreatDoor
open Go.RowKit

theorem OwnX.ne_own {w : World} {base base' : Nat} {v u : Value} {ps : List (List UInt8)} {l : List Int} (h : OwnX w base v ps) (ht : Own w base' u l) : v.ownBlock = none ∨ v.ownBlock ≠ u.ownBlock := by
  rcases h.2 with ⟨rfl, _⟩ | ⟨g, c, cur, rfl, _, hg, _⟩
  · exact .inl rfl
  · refine .inr fun e => ?_
    rcases ht.2 with ⟨rfl, _⟩ | ⟨q, c2, cur2, rfl, _, hg2, _⟩
    · simp [Value.ownBlock] at e
    · have : g = q := by simpa [Value.ownBlock] using e
      subst this
      rw [hg] at hg2
      injection hg2 with hg2
      injection hg2 with _ h3
      exact absurd h3 (by decide)
theorem rnm_le (p : List UInt8) : -1 ≤ rnm p ∧ rnm p ≤ 10009 := by
  have := rnm0_le p
  unfold rnm
  split <;> omega
theorem cut_lens (c : UInt8) : ∀ s, (∀ p ∈ (cut c s).1, p.length ≤ s.length) ∧ (cut c s).2.length ≤ s.length := by
  refine snocU ⟨by simp [cut], by simp [cut]⟩ fun s x ih => ?_
  rw [cut_snoc, List.length_append, List.length_singleton]
  unfold cst
  split
  · refine ⟨fun p hp => ?_, by simp⟩
    rcases List.mem_append.1 hp with h | h
    · have := ih.1 p h; omega
    · rw [List.mem_singleton] at h; rw [h]; have := ih.2; omega
  · refine ⟨fun p hp => by have := ih.1 p hp; omega, ?_⟩
    show ((cut c s).2 ++ [x]).length ≤ _
    rw [List.length_append, List.length_singleton]; have := ih.2; omega
theorem pcs_lens {c : UInt8} {s p : List UInt8} (h : p ∈ pcs c s) : p.length ≤ s.length := by
  unfold pcs at h
  rcases List.mem_append.1 h with h | h
  · exact (cut_lens c s).1 p h
  · rw [List.mem_singleton] at h; rw [h]; exact (cut_lens c s).2
theorem map_take {ps : List (List UInt8)} {i : Nat} (h : i < ps.length) : (ps.take (i + 1)).map rnm = (ps.take i).map rnm ++ [rnm (ps.getD i [])] := by
  rw [List.take_succ_eq_append_getElem h, List.map_append]; simp [List.getD, h]
theorem rnm0_take {p : List UInt8} {k : Nat} (h : k < p.length) : rnm0 (p.take (k + 1)) = rst (rnm0 (p.take k)) (p.getD k 0) := by rw [takeU h, rnm0_snoc]
set_option maxHeartbeats 16000000 in
set_option maxRecDepth 100000 in
theorem readList_any (s : List UInt8) (w : World) (hs : s.length ≤ 9000000) : Calls Tryz.prog 76 #[.string (B8 s)] w fun e w' => ∃ v, e = .returned v ∧ Own w' w.heap.size v (rls s) ∧ Below w.heap.size w w' := by
  have cS := fun wx => splitAt_any s 44 wx hs
  have hpls := fun p (h : p ∈ pcs 44 s) => pcs_lens h
  have hpl : (pcs 44 s).length ≤ s.length + 1 := by unfold pcs; rw [List.length_append, List.length_singleton]; have := cut_len 44 s; omega
  obtain ⟨ps, hps⟩ : ∃ ps, ps = pcs 44 s := ⟨_, rfl⟩
  obtain ⟨S, hS⟩ : ∃ S, S = B8 s := ⟨_, rfl⟩
  rw [← hps] at cS hpl hpls
  have HPL := Lib.hid hpls
  clear hpls
  rw [← hS] at cS ⊢
  rw [show ((44 : UInt8).toNat : Int) = 44 from rfl] at cS
  have hR : rls s = ps.map rnm := by rw [hps]; rfl
  have HR := Lib.hid hR
  have CS := Lib.hid cS
  obtain ⟨R, hRR⟩ : ∃ R, R = rls s := ⟨_, rfl⟩
  rw [← hRR] at HR ⊢
  have ho := Own.lit0 w w.heap.size (Nat.le_refl _)
  have hB := (Below.refl w.heap.size w).alloc (Nat.le_refl _) (.cells #[] 3)
  obtain ⟨M, hM⟩ : ∃ M, M = ps.length := ⟨_, rfl⟩
  have HM := Lib.hid hM
  rw [← hM] at hpl
  have hM9 : M ≤ 9000001 := by omega
  clear cS hps hS hR hRR hM hpl
  go_enter Tryz.func76, Tryz.ntmps76
  go_wp2_with fail
  refine (CS.out _).mono ?_
  rintro e w1 ⟨v1, rfl, o1, b1⟩
  have ho1 := ho.below b1
  have hB1 := hB.trans (b1.mono hB.size)
  obtain ⟨a1, c1, rfl, _, _, _⟩ := o1.form
  rw [← HM.out] at o1 ⊢
  clear b1 ho hB CS
  go_wp2
  go_loopw [3, 5] (fun ov iv wr => ∃ i : Nat, i ≤ M ∧ iv = .int .i64 (i : Int) ∧ Own wr w.heap.size ov ((ps.take i).map rnm) ∧ Hid (OwnX wr (w.alloc (.cells #[] 3)).heap.size (.slice a1 M c1) ps) ∧ Below w.heap.size w wr) (fun _ iv _ => M - (intOf iv).toNat)
  case atStart => exact ⟨0, by omega, rfl, ho1, o1, hB1⟩
  case round =>
    clear ho1 o1 hB1
    rename World => wo
    obtain ⟨i, hi, rfl, ho, hX, hB⟩ := hrel
    by_cases hlt : i < M
    · have hi1 : (i : Int) < (M : Int) := by omega
      have hil : i < ps.length := by have := HM.out; omega
      have hrX : ReadsX wo a1 ps := by
        have h := hX.out
        rw [HM.out] at h
        obtain ⟨a', c', e, h1, _⟩ := h.form
        injection e with e1 _ _
        rw [e1]; exact h1
      obtain ⟨b, off, rfl, hb, hc⟩ := hrX.get hil
      have hmt := map_take hil
      have hpN := HPL.out (ps.getD i []) (by simp [List.getD, hil])
      obtain ⟨p, hp⟩ : ∃ p, p = ps.getD i [] := ⟨_, rfl⟩
      rw [← hp] at hc hmt hpN
      have hsz := B8_size p
      have hl := B8_list p
      have hgk : ∀ k, k < p.length → ∀ S, S = B8 p → ∀ h : k < S.size, (S[k]'h).toNat = (p.getD k 0).toNat := by rintro k _ S rfl h; exact B8_get p k h
      obtain ⟨Q, hQ⟩ : ∃ Q, Q = B8 p := ⟨_, rfl⟩
      have HGK : Hid (∀ k, k < p.length → ∀ h : k < Q.size, (Q[k]'h).toNat = (p.getD k 0).toNat) := fun k hk h => hgk k hk Q hQ h
      rw [← hQ] at hsz hl hc
      obtain ⟨N, hN⟩ : ∃ N, N = p.length := ⟨_, rfl⟩
      rw [← hN] at hsz hpN
      have HN := Lib.hid hN
      have HMT := Lib.hid hmt
      have HO := Lib.hid ho
      have HBB := Lib.hid hB
      clear hQ hgk hmt hp hil hN hrX ho hB
      go_wp2
      go_loop [6, 7] (fun nv kv => ∃ k : Nat, k ≤ N ∧ kv = .int .i64 (k : Int) ∧ nv = .int .i64 (rnm0 (p.take k))) (fun _ kv => N - (intOf kv).toNat)
      case atStart => exact ⟨0, by omega, rfl, rfl⟩
      case round =>
        obtain ⟨k, hk, rfl, rfl⟩ := hrel
        have hn0 := rnm0_le (p.take k)
        by_cases hkN : k < N
        · have hk1 : (k : Int) < (N : Int) := by omega
          have hkp : k < p.length := by have := HN.out; omega
          have hgk := HGK.out k hkp
          have hst := rnm0_take hkp
          obtain ⟨x, hx⟩ : ∃ x, x = p.getD k 0 := ⟨_, rfl⟩
          rw [← hx] at hgk hst
          obtain ⟨D, hD⟩ : ∃ D : Nat, D = x.toNat := ⟨_, rfl⟩
          have hD256 : D < 256 := by rw [hD]; exact UInt8.toNat_lt x
          rw [← hD] at hgk
          obtain ⟨n, hn⟩ : ∃ n, n = rnm0 (p.take k) := ⟨_, rfl⟩
          rw [← hn] at hn0 hst ⊢
          have hisD : isD x = decide (48 ≤ D ∧ D ≤ 57) := by unfold isD; rw [hD]
          by_cases c1 : n < 0
          · have hs : rnm0 (p.take (k + 1)) = -1 := by rw [hst]; unfold rst; rw [if_pos (.inl c1)]
            have HSTEP := Lib.hid hs
            clear hs hst hisD hD hx hn hkp
            go_wp2
            go_round
            case rel => exact ⟨k + 1, by omega, by go_num, by rw [HSTEP.out]⟩
            case measure => simp [intOf]; omega
          by_cases c2 : n > 1000
          · have hs : rnm0 (p.take (k + 1)) = -1 := by rw [hst]; unfold rst; rw [if_pos (.inr (.inl c2))]
            have HSTEP := Lib.hid hs
            clear hs hst hisD hD hx hn hkp
            go_wp2
            go_round
            case rel => exact ⟨k + 1, by omega, by go_num, by rw [HSTEP.out]⟩
            case measure => simp [intOf]; omega
          by_cases c3 : D < 48
          · have hs : rnm0 (p.take (k + 1)) = -1 := by rw [hst]; unfold rst; rw [if_pos (.inr (.inr (by rw [hisD, decide_eq_false (by omega)])))]
            have c3' : (D : Int) < 48 := by omega
            have HSTEP := Lib.hid hs
            clear hs hst hisD hD hx hn hkp c3
            go_wp2
            go_round
            case rel => exact ⟨k + 1, by omega, by go_num, by rw [HSTEP.out]⟩
            case measure => simp [intOf]; omega
          by_cases c4 : D > 57
          · have hs : rnm0 (p.take (k + 1)) = -1 := by rw [hst]; unfold rst; rw [if_pos (.inr (.inr (by rw [hisD, decide_eq_false (by omega)])))]
            have c3' : ¬ (D : Int) < 48 := by omega
            have c4' : (D : Int) > 57 := by omega
            have HSTEP := Lib.hid hs
            clear hs hst hisD hD hx hn hkp c3 c4
            go_wp2
            go_round
            case rel => exact ⟨k + 1, by omega, by go_num, by rw [HSTEP.out]⟩
            case measure => simp [intOf]; omega
          · have hs : rnm0 (p.take (k + 1)) = 10 * n + ((D : Int) - 48) := by
              rw [hst]; unfold rst
              rw [if_neg (by rw [hisD, decide_eq_true (by omega)]; simp; omega), hD]
            have c3' : ¬ (D : Int) < 48 := by omega
            have c4' : ¬ (D : Int) > 57 := by omega
            have hw : IntKind.u8.wrap ((D : Int) - 48) = (D : Int) - 48 := IntWalk.u8_in _ (by omega)
            have HSTEP := Lib.hid hs
            clear hs hst hisD hD hx hn hkp c3 c4
            go_wp2
            go_round
            case rel => exact ⟨k + 1, by omega, by go_num, by rw [HSTEP.out]⟩
            case measure => simp [intOf]; omega
        · obtain rfl : k = N := by omega
          have htk : p.take k = p := by rw [HN.out, List.take_length]
          rw [htk] at hn0 ⊢
          have hrn : rnm p = if p = [] ∨ rnm0 p < 0 ∨ dec (rnm0 p).toNat ≠ p then -1 else rnm0 p := rfl
          obtain ⟨n, hn⟩ : ∃ n, n = rnm0 p := ⟨_, rfl⟩
          rw [← hn] at hn0 hrn ⊢
          have HRN := Lib.hid hrn
          have hTl : ((ps.take i).map rnm).length < 1000000000000 := by rw [List.length_map, List.length_take]; omega
          obtain ⟨T, hT⟩ : ∃ T, T = (ps.take i).map rnm := ⟨_, rfl⟩
          rw [← hT] at hTl HO HMT
          clear htk hrn hn hT
          by_cases hp0 : p = []
          · have HV : Hid (rnm p = -1) := by show rnm p = -1; rw [HRN.out, if_pos (.inl hp0)]
            have hb : (p == ([] : List UInt8)) = true := by rw [hp0]; rfl
            clear hp0 HRN
            go_wp2_with fail
            go_quiet (fail)
            all_goals
              have ho2 := HO.out.below (Go.below_drewN (Below.refl wo.heap.size wo) nq)
              have hX2 := OwnX.below (Go.below_drewN (Below.refl wo.heap.size wo) nq) hX.out
              have hB2 := Go.below_drewN HBB.out nq
              have hz2 := hB2.size
              clear HO hX HBB hc
              revert ho2 hX2 hB2 hz2
              generalize wo.drewN nq = w2
              intro ho2 hX2 hB2 hz2
              have hne := OwnX.ne_own hX2 ho2
              have HX2 := Lib.hid hX2
              clear hX2
              go_wp2_with (at_builtin; refine push_int rfl (.tmp 79) (.tmp 81) rfl w.heap.size _ T (-1) rfl ho2 rfl hTl hz2 ?_)
              intro v' wf of _ gf
              have hmt := HMT.out
              rw [HV.out] at hmt
              rw [← hmt] at of
              have hXf : Hid (OwnX wf (w.alloc (.cells #[] 3)).heap.size _ ps) := HX2.out.kept gf hne
              have hBf := hB2.grown gf hB2.size (fun k hk => (ho2.lt k hk).1)
              clear gf ho2 hB2 HX2 hmt hne
              go_wp2
              go_roundw
              case rel => exact ⟨i + 1, by omega, by go_num, of, hXf, hBf⟩
              case measure => simp [intOf]; omega
          have hb : (p == ([] : List UInt8)) = false := by simpa using hp0
          by_cases hneg : n < 0
          · have HV : Hid (rnm p = -1) := by show rnm p = -1; rw [HRN.out, if_pos (.inr (.inl hneg))]
            clear hp0 HRN
            go_wp2_with fail
            go_quiet (fail)
            all_goals
              have ho2 := HO.out.below (Go.below_drewN (Below.refl wo.heap.size wo) nq)
              have hX2 := OwnX.below (Go.below_drewN (Below.refl wo.heap.size wo) nq) hX.out
              have hB2 := Go.below_drewN HBB.out nq
              have hz2 := hB2.size
              clear HO hX HBB hc
              revert ho2 hX2 hB2 hz2
              generalize wo.drewN nq = w2
              intro ho2 hX2 hB2 hz2
              have hne := OwnX.ne_own hX2 ho2
              have HX2 := Lib.hid hX2
              clear hX2
              go_wp2_with (at_builtin; refine push_int rfl (.tmp 79) (.tmp 81) rfl w.heap.size _ T (-1) rfl ho2 rfl hTl hz2 ?_)
              intro v' wf of _ gf
              have hmt := HMT.out
              rw [HV.out] at hmt
              rw [← hmt] at of
              have hXf : Hid (OwnX wf (w.alloc (.cells #[] 3)).heap.size _ ps) := HX2.out.kept gf hne
              have hBf := hB2.grown gf hB2.size (fun k hk => (ho2.lt k hk).1)
              clear gf ho2 hB2 HX2 hmt hne
              go_wp2
              go_roundw
              case rel => exact ⟨i + 1, by omega, by go_num, of, hXf, hBf⟩
              case measure => simp [intOf]; omega
          obtain ⟨m, rfl⟩ : ∃ m : Nat, n = m := ⟨n.toNat, by omega⟩
          have cn := fun q => number_any m (wo.drewN q) (by omega)
          have hrn2 := HRN.out
          rw [Int.toNat_natCast] at hrn2
          obtain ⟨E, hE⟩ : ∃ E, E = dec m := ⟨_, rfl⟩
          rw [← hE] at cn hrn2
          have hlE := B8_list E
          obtain ⟨F, hF⟩ : ∃ F, F = B8 E := ⟨_, rfl⟩
          rw [← hF] at cn hlE
          have CN := Lib.hid cn
          by_cases hEp : E = p
          · have HV : Hid (rnm p = (m : Int)) := by show rnm p = (m : Int); rw [hrn2, if_neg (by rintro (h | h | h); exact hp0 h; exact hneg h; exact h hEp)]
            have hb2 : (E != p) = false := by rw [hEp]; simp
            have hb3 : (E == p) = true := by rw [hEp]; simp
            clear hp0 HRN hrn2 hE hF cn hEp
            go_wp2_with fail
            go_quiet ((with_reducible first | (go_at_call 61; exact quiet_pfN (CN.out _))))
            all_goals
              have ho2 := HO.out.below (Go.below_drewN (Below.refl wo.heap.size wo) nq)
              have hX2 := OwnX.below (Go.below_drewN (Below.refl wo.heap.size wo) nq) hX.out
              have hB2 := Go.below_drewN HBB.out nq
              have hz2 := hB2.size
              clear HO hX HBB hc
              revert ho2 hX2 hB2 hz2
              generalize wo.drewN nq = w2
              intro ho2 hX2 hB2 hz2
              have hne := OwnX.ne_own hX2 ho2
              have HX2 := Lib.hid hX2
              clear hX2
              go_wp2_with (at_builtin; refine push_int rfl (.tmp 79) (.tmp 81) rfl w.heap.size _ T ((m : Int)) rfl ho2 rfl hTl hz2 ?_)
              intro v' wf of _ gf
              have hmt := HMT.out
              rw [HV.out] at hmt
              rw [← hmt] at of
              have hXf : Hid (OwnX wf (w.alloc (.cells #[] 3)).heap.size _ ps) := HX2.out.kept gf hne
              have hBf := hB2.grown gf hB2.size (fun k hk => (ho2.lt k hk).1)
              clear gf ho2 hB2 HX2 hmt hne
              go_wp2
              go_roundw
              case rel => exact ⟨i + 1, by omega, by go_num, of, hXf, hBf⟩
              case measure => simp [intOf]; omega
          · have HV : Hid (rnm p = -1) := by show rnm p = -1; rw [hrn2, if_pos (.inr (.inr hEp))]
            have hb2 : (E != p) = true := by simpa using hEp
            have hb3 : (E == p) = false := by simpa using hEp
            clear hp0 HRN hrn2 hE hF cn hEp
            go_wp2_with fail
            go_quiet ((with_reducible first | (go_at_call 61; exact quiet_pfN (CN.out _))))
            all_goals
              have ho2 := HO.out.below (Go.below_drewN (Below.refl wo.heap.size wo) nq)
              have hX2 := OwnX.below (Go.below_drewN (Below.refl wo.heap.size wo) nq) hX.out
              have hB2 := Go.below_drewN HBB.out nq
              have hz2 := hB2.size
              clear HO hX HBB hc
              revert ho2 hX2 hB2 hz2
              generalize wo.drewN nq = w2
              intro ho2 hX2 hB2 hz2
              have hne := OwnX.ne_own hX2 ho2
              have HX2 := Lib.hid hX2
              clear hX2
              go_wp2_with (at_builtin; refine push_int rfl (.tmp 79) (.tmp 81) rfl w.heap.size _ T (-1) rfl ho2 rfl hTl hz2 ?_)
              intro v' wf of _ gf
              have hmt := HMT.out
              rw [HV.out] at hmt
              rw [← hmt] at of
              have hXf : Hid (OwnX wf (w.alloc (.cells #[] 3)).heap.size _ ps) := HX2.out.kept gf hne
              have hBf := hB2.grown gf hB2.size (fun k hk => (ho2.lt k hk).1)
              clear gf ho2 hB2 HX2 hmt hne
              go_wp2
              go_roundw
              case rel => exact ⟨i + 1, by omega, by go_num, of, hXf, hBf⟩
              case measure => simp [intOf]; omega
    · obtain rfl : i = M := by omega
      have hf : (ps.take i).map rnm = R := by rw [HR.out, HM.out, List.take_length]
      rw [hf] at ho
      clear hf
      go_wp2
      go_ret
      exact ⟨_, rfl, ho, hB⟩
end Go.Proofs.YtoaiaindcmihjaaGreatDoor
/-
  The plain mathematics of the fair table.
-/
namespace Go.Proofs.YtoaiaindcmihjaaGreatDoor
open Go.RowKit

/-- How far a slot is behind a home, round the table. -/
def offI (m h p : Int) : Int := (p - h + m) % m

/-- Does the key that holds the slot give way to the one that looks? -/
def gives (m : Nat) (l : List Int) (p other key : Nat) : Bool :=
  decide (offI m (l.getD other 0) p < offI m (l.getD key 0) p) || (decide (offI m (l.getD key 0) p = offI m (l.getD other 0) p) && decide (key < other))

/-- The table and the key that looks, after d steps. -/
def rob1 (m : Nat) (l : List Int) (a : Nat) (t : List Int) (key : Nat) : Nat → List Int × Nat
  | 0 => (t, key)
  | d + 1 =>
    if gives m l ((a + d) % m) ((rob1 m l a t key d).1.getD ((a + d) % m) 0).toNat (rob1 m l a t key d).2 = true
    then ((rob1 m l a t key d).1.set ((a + d) % m) (rob1 m l a t key d).2, ((rob1 m l a t key d).1.getD ((a + d) % m) 0).toNat)
    else rob1 m l a t key d

/-- FairTable's table after k keys. -/
def rob (m : Nat) (l : List Int) : Nat → List Int
  | 0 => List.replicate m (-1)
  | k + 1 => (rob1 m l (home l k) (rob m l k) k (look (rob m l k) m (home l k) 0 m)).1.set ((home l k + look (rob m l k) m (home l k) 0 m) % m) (rob1 m l (home l k) (rob m l k) k (look (rob m l k) m (home l k) 0 m)).2

/-- The slots hold -1 or keys below k. -/
def Keys (k : Nat) (t : List Int) : Prop := ∀ i, i < t.length → t.getD i 0 = -1 ∨ (0 ≤ t.getD i 0 ∧ t.getD i 0 < k)
theorem Keys.mono {k k' : Nat} {t : List Int} (h : Keys k t) (hk : k ≤ k') : Keys k' t := fun i hi => (h i hi).imp id fun ⟨a, b⟩ => ⟨a, by omega⟩
theorem Keys.set {k : Nat} {t : List Int} (h : Keys k t) {i : Nat} {x : Nat} (hx : x < k) : Keys k (t.set i x) := by
  intro j hj
  rw [List.length_set] at hj
  by_cases hi : i < t.length
  · rw [getD_set hi]
    split
    · exact .inr ⟨by omega, by omega⟩
    · exact h j hj
  · rw [List.set_eq_of_length_le (by omega)]; exact h j hj
theorem Keys.rep (k m : Nat) : Keys k (List.replicate m (-1)) := by
  intro i hi
  rw [List.length_replicate] at hi
  simp [List.getD, hi]

/-- What holds of the table and the key that looks while it looks. -/
structure Rob1 (m k : Nat) (t0 : List Int) (t : List Int) (key : Nat) : Prop where
  len : t.length = m
  keys : Keys (k + 1) t
  key : key < k + 1
  free : ∀ i, i < m → (t.getD i 0 < 0 ↔ t0.getD i 0 < 0)

theorem rob1_inv {m k a D : Nat} {l t0 : List Int} (hm : 0 < m) (hl : t0.length = m) (hk : Keys k t0) (hw : Way t0 m a D) : ∀ d, d ≤ D → Rob1 m k t0 (rob1 m l a t0 k d).1 (rob1 m l a t0 k d).2 := by
  intro d
  induction d with
  | zero => intro _; exact ⟨hl, hk.mono (by omega), by simp [rob1], fun i _ => Iff.rfl⟩
  | succ d ih =>
    intro hd
    obtain ⟨h1, h2, h3, h4⟩ := ih (by omega)
    have hp : (a + d) % m < m := Nat.mod_lt _ hm
    unfold rob1
    split
    · have hnf : ¬ (rob1 m l a t0 k d).1.getD ((a + d) % m) 0 < 0 := by
        rw [h4 _ hp]; exact hw.full d _ (by omega) rfl
      have hkk := h2 ((a + d) % m) (by omega)
      refine ⟨by simpa using h1, h2.set h3, by omega, fun i hi => ?_⟩
      rw [getD_set (by omega)]
      split
      · rename_i e
        rw [← e, ← h4 _ hp]
        constructor
        · intro h; omega
        · intro h; exact absurd h hnf
      · exact h4 i hi
    · exact ⟨h1, h2, h3, h4⟩

theorem rob_inv {m : Nat} {l : List Int} (h : Homes m l) : ∀ k, k ≤ l.length → (rob m l k).length = m ∧ Keys k (rob m l k) ∧ held (rob m l k) = k := by
  intro k
  induction k with
  | zero => intro _; exact ⟨by simp [rob], Keys.rep _ _, by simp [rob, held_replicate]⟩
  | succ k ih =>
    intro hk
    obtain ⟨h1, h2, h3⟩ := ih (by omega)
    obtain ⟨D, hw⟩ := way h1 (h.home_lt (by omega : k < l.length)) (by rw [h3]; have := h.len; omega)
    obtain ⟨r1, r2, r3, r4⟩ := rob1_inv (l := l) h.pos h1 h2 hw D (Nat.le_refl _)
    have hp : (home l k + D) % m < m := Nat.mod_lt _ h.pos
    unfold rob
    rw [hw.is]
    refine ⟨by simpa using r1, r2.set r3, ?_⟩
    rw [held_set (by omega) ((r4 _ hp).2 (hw.free _ rfl)) (by omega)]
    have : held (rob1 m l (home l k) (rob m l k) k D).1 = held (rob m l k) := by
      have key : ∀ (t t' : List Int), t.length = t'.length → (∀ i, i < t.length → (t.getD i 0 < 0 ↔ t'.getD i 0 < 0)) → held t = held t' := by
        intro t
        induction t with
        | nil => intro t' hl _; cases t' with | nil => rfl | cons _ _ => simp at hl
        | cons x t ih =>
          intro t' hl hh
          cases t' with
          | nil => simp at hl
          | cons y t' =>
            have h0 := hh 0 (by simp)
            have ht := ih t' (by simpa using hl) (fun i hi => by have := hh (i + 1) (by simp; omega); simpa using this)
            unfold held at ht ⊢
            rw [List.countP_cons, List.countP_cons, ht]
            have : decide (0 ≤ x) = decide (0 ≤ y) := by
              simp at h0
              rw [decide_eq_decide]; omega
            rw [this]
      exact key _ _ (by rw [r1, h1]) (fun i hi => r4 i (by omega))
    omega

/-- FairTable. -/
def FT (m : Int) (l : List Int) : List Int := if VH m l = true then rob m.toNat l l.length else []
theorem FT_len (m : Int) (l : List Int) : (FT m l).length ≤ 1048586 := by
  unfold FT
  split
  · rename_i h
    have hh := Homes.of_VH (VH_iff.1 h)
    rw [(rob_inv hh l.length (Nat.le_refl _)).1]
    have := hh.le
    omega
  · simp

end Go.Proofs.YtoaiaindcmihjaaGreatDoor
/-
  The plain mathematics of chapter 4: rings, scores, jumps.
-/
namespace Go.Proofs.YtoaiaindcmihjaaGreatDoor

/-- The first place up to n at which f is least. -/
def bsm (f : Nat → Int) : Nat → Nat
  | 0 => 0
  | n + 1 => if f (n + 1) < f (bsm f n) then n + 1 else bsm f n
theorem bsm_le (f : Nat → Int) (n : Nat) : bsm f n ≤ n := by
  induction n with
  | zero => simp [bsm]
  | succ n ih => rw [bsm]; split <;> omega
theorem bsm_min (f : Nat → Int) (n : Nat) : ∀ i, i ≤ n → f (bsm f n) ≤ f i := by
  induction n with
  | zero => intro i hi; obtain rfl : i = 0 := by omega
            simp [bsm]
  | succ n ih =>
    intro i hi
    rw [bsm]
    by_cases e : i = n + 1
    · subst e; split <;> omega
    · have := ih i (by omega)
      split <;> omega
theorem bsm_first (f : Nat → Int) (n : Nat) : ∀ i, i < bsm f n → f (bsm f n) < f i := by
  induction n with
  | zero => intro i hi; simp [bsm] at hi
  | succ n ih =>
    intro i hi
    rw [bsm] at hi ⊢
    split at hi
    · rename_i h
      rw [if_pos h]
      have := bsm_min f n i (by omega)
      omega
    · rename_i h
      rw [if_neg h]
      exact ih i hi
theorem bsm_uniq {f : Nat → Int} {n b : Nat} (h : b ≤ n) (h1 : ∀ i, i ≤ n → f b ≤ f i) (h2 : ∀ i, i < b → f b < f i) : bsm f n = b := by
  have a1 := bsm_min f n b h
  have a2 := h1 _ (bsm_le f n)
  rcases Nat.lt_trichotomy (bsm f n) b with hl | hl | hl
  · have := h2 _ hl; omega
  · exact hl
  · have := bsm_first f n _ hl; omega
theorem bsm_congr {f g : Nat → Int} {n : Nat} (h : ∀ i, i ≤ n → f i = g i) : bsm f n = bsm g n := by
  induction n with
  | zero => rfl
  | succ n ih =>
    have e := ih fun i hi => h i (by omega)
    rw [bsm, bsm, e, h (n + 1) (by omega), h (bsm g n) (by have := bsm_le g n; omega)]

/-- Steps from a key to the place of server i. -/
def st (ps : List Int) (k : Int) (i : Nat) : Int := offI 64 k (ps.getD i 0)
/-- The server of a key on a ring. -/
def own (ps : List Int) (k : Int) : Nat := bsm (st ps k) (ps.length - 1)
/-- The places of servers on a ring. -/
def VR (ps : List Int) : Bool := decide (1 ≤ ps.length) && decide (ps.length ≤ 6) && decide (∀ i, i < ps.length → 0 ≤ ps.getD i 0 ∧ ps.getD i 0 ≤ 63 ∧ ps.getD i 0 ∉ ps.take i)
def FitV (ps : List Int) (k : Nat) : Prop := ∀ i, i < k → 0 ≤ ps.getD i 0 ∧ ps.getD i 0 ≤ 63 ∧ ps.getD i 0 ∉ ps.take i
theorem VR_iff {ps : List Int} : VR ps = true ↔ 1 ≤ ps.length ∧ ps.length ≤ 6 ∧ FitV ps ps.length := by
  simp only [VR, FitV, Bool.and_eq_true, decide_eq_true_eq, and_assoc]
theorem VR_false {ps : List Int} (h : ¬ (1 ≤ ps.length ∧ ps.length ≤ 6 ∧ FitV ps ps.length)) : VR ps = false := by rw [← VR_iff] at h; simpa using h
theorem FitV.zero (ps : List Int) : FitV ps 0 := fun i hi => by omega
theorem FitV.succ {ps : List Int} {k : Nat} (h : FitV ps k) (h0 : 0 ≤ ps.getD k 0) (h1 : ps.getD k 0 ≤ 63) (h2 : ps.getD k 0 ∉ ps.take k) : FitV ps (k + 1) := by
  intro i hi
  by_cases e : i = k
  · subst e; exact ⟨h0, h1, h2⟩
  · exact h i (by omega)
theorem FitV.take {ps : List Int} {n : Nat} (h : FitV ps ps.length) (hn : n ≤ ps.length) : FitV (ps.take n) (ps.take n).length := by
  intro i hi
  rw [List.length_take] at hi
  have h1 := h i (by omega)
  have e : (ps.take n).getD i 0 = ps.getD i 0 := by rw [List.getD, List.getElem?_take, if_pos (by omega), List.getD]
  rw [e, List.take_take, show min i n = i from by omega]
  exact h1
theorem VR_take {ps : List Int} (h : VR ps = true) (h2 : 2 ≤ ps.length) : VR (ps.take (ps.length - 1)) = true := by
  have h3 := VR_iff.1 h
  refine VR_iff.2 ⟨by rw [List.length_take]; omega, by rw [List.length_take]; omega, h3.2.2.take (by omega)⟩
theorem VR_rng {ps : List Int} (h : VR ps = true) {i : Nat} (hi : i < ps.length) : 0 ≤ ps.getD i 0 ∧ ps.getD i 0 ≤ 63 := by
  have := (VR_iff.1 h).2.2 i hi; exact ⟨this.1, this.2.1⟩
theorem VR_inj {ps : List Int} (h : VR ps = true) {i j : Nat} (hi : i < ps.length) (hj : j < ps.length) (e : ps.getD i 0 = ps.getD j 0) : i = j := by
  have key : ∀ a b, a < b → b < ps.length → ps.getD a 0 = ps.getD b 0 → False := by
    intro a b hab hb e
    refine ((VR_iff.1 h).2.2 b hb).2.2 ?_
    rw [← e]
    have ha : a < (ps.take b).length := by rw [List.length_take]; omega
    have : (ps.take b)[a] = ps.getD a 0 := by simp [List.getD, show a < ps.length from by omega]
    rw [← this]
    exact List.getElem_mem ha
  rcases Nat.lt_trichotomy i j with hl | hl | hl
  · exact (key i j hl hj e).elim
  · exact hl
  · exact (key j i hl hi e.symm).elim
theorem off_inj {k p q : Int} (hp : 0 ≤ p) (hp' : p ≤ 63) (hq : 0 ≤ q) (hq' : q ≤ 63) (h : offI 64 k p = offI 64 k q) : p = q := by
  unfold offI at h; omega
theorem off_selfR {k : Int} : offI 64 k k = 0 := by unfold offI; omega
theorem off_nn {k p : Int} : 0 ≤ offI 64 k p ∧ offI 64 k p < 64 := by unfold offI; omega
theorem st_inj {ps : List Int} {k : Int} (h : VR ps = true) {i j : Nat} (hi : i < ps.length) (hj : j < ps.length) (e : st ps k i = st ps k j) : i = j := by
  have a := VR_rng h hi
  have b := VR_rng h hj
  exact VR_inj h hi hj (off_inj a.1 a.2 b.1 b.2 e)
theorem own_lt {ps : List Int} {k : Int} (h : VR ps = true) : own ps k < ps.length := by
  have := bsm_le (st ps k) (ps.length - 1)
  have := (VR_iff.1 h).1
  unfold own; omega
theorem own_min {ps : List Int} {k : Int} {i : Nat} (hi : i < ps.length) : st ps k (own ps k) ≤ st ps k i := bsm_min _ _ i (by omega)
theorem own_uniq {ps : List Int} {k : Int} (h : VR ps = true) {b : Nat} (hb : b < ps.length) (h1 : ∀ i, i < ps.length → st ps k b ≤ st ps k i) : own ps k = b := by
  have a1 := own_lt (k := k) h
  have a2 := own_min (k := k) hb
  have a3 := h1 _ a1
  exact st_inj (k := k) h a1 hb (by omega)
theorem own_place {ps : List Int} (h : VR ps = true) {i : Nat} (hi : i < ps.length) : own ps (ps.getD i 0) = i := by
  refine own_uniq h hi fun j _ => ?_
  have e : st ps (ps.getD i 0) i = 0 := off_selfR
  have := off_nn (k := ps.getD i 0) (p := ps.getD j 0)
  unfold st at e ⊢; omega

/-- A key's server, or -1. -/
def OW (ps : List Int) (k : Int) : Int := if VR ps = true ∧ 0 ≤ k ∧ k ≤ 63 then (own ps k : Int) else -1
theorem OW_yes {ps : List Int} {k : Int} (h : VR ps = true) (hk : 0 ≤ k) (hk' : k ≤ 63) : OW ps k = (own ps k : Int) := by unfold OW; rw [if_pos ⟨h, hk, hk'⟩]
theorem OW_no {ps : List Int} {k : Int} (h : ¬ (VR ps = true ∧ 0 ≤ k ∧ k ≤ 63)) : OW ps k = -1 := by unfold OW; rw [if_neg h]
theorem OW_ok {ps : List Int} {k : Int} (h : ¬ OW ps k < 0) : VR ps = true ∧ 0 ≤ k ∧ k ≤ 63 := by
  refine Decidable.byContradiction fun hn => h ?_
  rw [OW_no hn]; omega

/-- Places without that of server i. -/
theorem erase_get {ps : List Int} {i j : Nat} : (ps.eraseIdx i).getD j 0 = if j < i then ps.getD j 0 else ps.getD (j + 1) 0 := by
  simp only [List.getD, List.getElem?_eraseIdx]; split <;> rfl
theorem erase_len {ps : List Int} {i : Nat} (hi : i < ps.length) : (ps.eraseIdx i).length = ps.length - 1 := by rw [List.length_eraseIdx]; simp [hi]
theorem VR_of {ps : List Int} (h1 : 1 ≤ ps.length) (h2 : ps.length ≤ 6) (h3 : ∀ i, i < ps.length → 0 ≤ ps.getD i 0 ∧ ps.getD i 0 ≤ 63) (h4 : ∀ i j, i < j → j < ps.length → ps.getD i 0 ≠ ps.getD j 0) : VR ps = true := by
  refine VR_iff.2 ⟨h1, h2, fun i hi => ⟨(h3 i hi).1, (h3 i hi).2, fun hm => ?_⟩⟩
  obtain ⟨j, hj, e⟩ := List.getElem_of_mem hm
  rw [List.length_take] at hj
  refine h4 j i (by omega) hi ?_
  rw [← e]
  simp [List.getD, show j < ps.length from by omega]
theorem VR_erase {ps : List Int} (h : VR ps = true) (h2 : 2 ≤ ps.length) {i : Nat} (hi : i < ps.length) : VR (ps.eraseIdx i) = true := by
  have h3 := VR_iff.1 h
  refine VR_of (by rw [erase_len hi]; omega) (by rw [erase_len hi]; omega) (fun j hj => ?_) (fun a b hab hb e => ?_)
  · rw [erase_len hi] at hj
    rw [erase_get]
    split
    · exact VR_rng h (by omega)
    · exact VR_rng h (by omega)
  · rw [erase_len hi] at hb
    rw [erase_get, erase_get] at e
    split at e <;> split at e
    · have := VR_inj h (by omega) (by omega) e; omega
    · have := VR_inj h (by omega) (by omega) e; omega
    · omega
    · have := VR_inj h (by omega) (by omega) e; omega
theorem own_erase {ps : List Int} {k : Int} (h : VR ps = true) {i : Nat} (hi : i < ps.length) (hne : i ≠ own ps k) : (ps.eraseIdx i).getD (own (ps.eraseIdx i) k) 0 = ps.getD (own ps k) 0 := by
  have ho := own_lt (k := k) h
  have h2 : 2 ≤ ps.length := by omega
  have hv := VR_erase h h2 hi
  have hl := erase_len hi
  let b := if own ps k < i then own ps k else own ps k - 1
  have hb : b < (ps.eraseIdx i).length := by rw [hl]; show (if own ps k < i then own ps k else own ps k - 1) < _; split <;> omega
  have eb : (ps.eraseIdx i).getD b 0 = ps.getD (own ps k) 0 := by
    rw [erase_get]
    show (if (if own ps k < i then own ps k else own ps k - 1) < i then _ else _) = _
    by_cases hlt : own ps k < i
    · rw [if_pos (show b < i from by show (if own ps k < i then own ps k else own ps k - 1) < i; rw [if_pos hlt]; exact hlt)]
      show ps.getD (if own ps k < i then own ps k else own ps k - 1) 0 = _
      rw [if_pos hlt]
    · have e : b = own ps k - 1 := by show (if own ps k < i then own ps k else own ps k - 1) = _; rw [if_neg hlt]
      have e2 : (if own ps k < i then own ps k else own ps k - 1) = own ps k - 1 := if_neg hlt
      rw [e2, if_neg (by omega), e]
      congr 1; omega
  have hown : own (ps.eraseIdx i) k = b := by
    refine own_uniq hv hb fun j hj => ?_
    unfold st
    rw [eb, erase_get]
    rw [hl] at hj
    split
    · exact own_min (ps := ps) (k := k) (by omega)
    · exact own_min (ps := ps) (k := k) (by omega)
  rw [hown, eb]

/-- How many of the first j keys each server has. -/
def shr (ps : List Int) : Nat → List Int
  | 0 => List.replicate ps.length 0
  | j + 1 => (shr ps j).set (own ps j) ((shr ps j).getD (own ps j) 0 + 1)
theorem shr_len (ps : List Int) (j : Nat) : (shr ps j).length = ps.length := by
  induction j with
  | zero => simp [shr]
  | succ j ih => simp [shr, ih]
theorem shr_get {ps : List Int} (h : VR ps = true) (s : Nat) (hs : s < ps.length) (j : Nat) : (shr ps j).getD s 0 = ((List.range j).countP fun (k : Nat) => decide (own ps k = s) : Nat) := by
  induction j with
  | zero => simp [shr, List.getD, hs]
  | succ j ih =>
    rw [shr, List.range_succ, List.countP_append, List.countP_singleton]
    have ho := own_lt (k := (j : Int)) h
    by_cases e : own ps j = s
    · rw [e, List.getD, List.getElem?_set_self (by rw [shr_len]; exact hs)]
      simp only [Option.getD_some, decide_true, if_true]
      rw [ih]; omega
    · rw [List.getD, List.getElem?_set_ne e]
      have := ih
      rw [List.getD] at this
      rw [this]; simp [e]
theorem shr_nn {ps : List Int} (h : VR ps = true) (j : Nat) (s : Nat) (hs : s < ps.length) : 0 ≤ (shr ps j).getD s 0 ∧ (shr ps j).getD s 0 ≤ j := by
  rw [shr_get h s hs]
  have := List.countP_le_length (p := fun (k : Nat) => decide (own ps k = s)) (l := List.range j)
  rw [List.length_range] at this
  omega
theorem set_sumI {l : List Int} {i : Nat} (hi : i < l.length) (x : Int) : (l.set i x).sum = l.sum - l.getD i 0 + x := by
  induction l generalizing i with
  | nil => simp at hi
  | cons y l ih =>
    cases i with
    | zero => simp [List.set, List.getD]; omega
    | succ i =>
      have := ih (i := i) (by simpa using hi)
      simp only [List.set, List.sum_cons, List.getD_cons_succ, this]; omega
theorem shr_sum {ps : List Int} (h : VR ps = true) (j : Nat) : (shr ps j).sum = j := by
  induction j with
  | zero =>
    have : ∀ n : Nat, (List.replicate n (0 : Int)).sum = 0 := by
      intro n
      induction n with
      | zero => rfl
      | succ n ih => rw [List.replicate_succ, List.sum_cons, ih]; rfl
    simp [shr, this]
  | succ j ih => rw [shr, set_sumI (by rw [shr_len]; exact own_lt h), ih]; omega
/-- SharesOf. -/
def SH (ps : List Int) : List Int := if VR ps = true then shr ps 64 else []
theorem SH_len (ps : List Int) : (SH ps).length ≤ 1048586 := by
  unfold SH; split
  · rename_i h; have := (VR_iff.1 h).2.1; rw [shr_len]; omega
  · simp
theorem SH_one {ps : List Int} (h : VR ps = true) {s : Nat} (hs : s < ps.length) : 1 ≤ (SH ps).getD s 0 := by
  unfold SH; rw [if_pos h, shr_get h s hs]
  have a := VR_rng h hs
  have a1 := a.1
  have a2 := a.2
  have : 0 < (List.range 64).countP fun (k : Nat) => decide (own ps k = s) := by
    rw [List.countP_pos_iff]
    refine ⟨(ps.getD s 0).toNat, List.mem_range.2 (by omega), ?_⟩
    simp only [decide_eq_true_eq]
    rw [show (((ps.getD s 0).toNat : Nat) : Int) = ps.getD s 0 from by omega]
    exact own_place h hs
  omega

/-- The keys below j that move. -/
def mvr (ps : List Int) (p : Int) : Nat → List Int
  | 0 => []
  | j + 1 => if own ps j ≠ own (ps ++ [p]) j then mvr ps p j ++ [(j : Int)] else mvr ps p j
/-- MovedBy. -/
def MV (ps : List Int) (p : Int) : List Int := if VR ps = true ∧ VR (ps ++ [p]) = true then mvr ps p 64 else []
theorem mvr_len (ps : List Int) (p : Int) (j : Nat) : (mvr ps p j).length ≤ j := by
  induction j with
  | zero => simp [mvr]
  | succ j ih =>
    rw [mvr]; split
    · rw [List.length_append, List.length_singleton]; omega
    · omega
theorem MV_len (ps : List Int) (p : Int) : (MV ps p).length ≤ 1048586 := by
  unfold MV; split
  · have := mvr_len ps p 64
    omega
  · simp
theorem app_get {ps : List Int} {p : Int} {i : Nat} (hi : i < ps.length) : (ps ++ [p]).getD i 0 = ps.getD i 0 := by
  simp [List.getD, List.getElem?_append_left hi]
theorem app_last {ps : List Int} {p : Int} : (ps ++ [p]).getD ps.length 0 = p := by simp [List.getD]
theorem own_more {ps : List Int} {p : Int} {k : Nat} (h : VR ps = true) (h2 : VR (ps ++ [p]) = true) : own ps k ≠ own (ps ++ [p]) k ↔ own (ps ++ [p]) k = ps.length := by
  have ho := own_lt (k := (k : Int)) h
  have ho2 := own_lt (k := (k : Int)) h2
  rw [List.length_append, List.length_singleton] at ho2
  constructor
  · intro hne
    refine Decidable.byContradiction fun hn => hne ?_
    have hl : own (ps ++ [p]) k < ps.length := by omega
    refine own_uniq h hl fun i hi => ?_
    have := own_min (ps := ps ++ [p]) (k := (k : Int)) (i := i) (by simp; omega)
    unfold st at this ⊢
    rw [app_get hl, app_get hi] at this
    exact this
  · intro e; omega
theorem mvr_mem {ps : List Int} {p : Int} (h : VR ps = true) (h2 : VR (ps ++ [p]) = true) (j : Nat) (hj : j ≤ 64) : ∀ x, x ∈ mvr ps p j ↔ ∃ k : Nat, x = k ∧ k < j ∧ own (ps ++ [p]) k = ps.length := by
  induction j with
  | zero => intro x; simp [mvr]
  | succ j ih =>
    intro x
    have e := own_more (k := j) h h2
    have i1 := ih (by omega) x
    rw [mvr]
    by_cases c : own (ps ++ [p]) j = ps.length
    · rw [if_pos (e.2 c), List.mem_append, List.mem_singleton, i1]
      constructor
      · rintro (⟨k, rfl, hk, hc⟩ | rfl)
        · exact ⟨k, rfl, by omega, hc⟩
        · exact ⟨j, rfl, by omega, c⟩
      · rintro ⟨k, rfl, hk, hc⟩
        by_cases ek : k = j
        · right; rw [ek]
        · left; exact ⟨k, rfl, by omega, hc⟩
    · rw [if_neg (fun hh => c (e.1 hh)), i1]
      constructor
      · rintro ⟨k, rfl, hk, hc⟩; exact ⟨k, rfl, by omega, hc⟩
      · rintro ⟨k, rfl, hk, hc⟩
        refine ⟨k, rfl, ?_, hc⟩
        by_cases ek : k = j
        · subst ek; exact (c hc).elim
        · omega
theorem mvr_cnt {ps : List Int} {p : Int} (h : VR ps = true) (h2 : VR (ps ++ [p]) = true) (j : Nat) (hj : j ≤ 64) : (mvr ps p j).length = (List.range j).countP fun (k : Nat) => decide (own (ps ++ [p]) k = ps.length) := by
  induction j with
  | zero => simp [mvr]
  | succ j ih =>
    have e := own_more (k := j) h h2
    rw [mvr, List.range_succ, List.countP_append, List.countP_singleton, ← ih (by omega)]
    by_cases c : own (ps ++ [p]) j = ps.length
    · rw [if_pos (e.2 c)]; simp [c]
    · rw [if_neg (fun hh => c (e.1 hh))]; simp [c]
theorem mvr_asc {ps : List Int} {p : Int} (h : VR ps = true) (h2 : VR (ps ++ [p]) = true) (j : Nat) (hj : j ≤ 64) : (mvr ps p j).Pairwise (· < ·) := by
  induction j with
  | zero => simp [mvr]
  | succ j ih =>
    rw [mvr]
    split
    · rw [List.pairwise_append]
      refine ⟨ih (by omega), by simp, fun a ha b hb => ?_⟩
      obtain ⟨k, rfl, hk, _⟩ := (mvr_mem h h2 j (by omega) a).1 ha
      rw [List.mem_singleton] at hb
      omega
    · exact ih (by omega)
theorem MV_facts {ps : List Int} {p : Int} (h : VR ps = true) (h2 : VR (ps ++ [p]) = true) : (∀ x ∈ MV ps p, OW (ps ++ [p]) x = ps.length) ∧ ((MV ps p).length : Int) = (SH (ps ++ [p])).getD ps.length 0 ∧ p ∈ MV ps p ∧ (MV ps p).Pairwise (· < ·) := by
  have e : MV ps p = mvr ps p 64 := by unfold MV; rw [if_pos ⟨h, h2⟩]
  have hl : ps.length < (ps ++ [p]).length := by simp
  refine ⟨fun x hx => ?_, ?_, ?_, ?_⟩
  · rw [e] at hx
    obtain ⟨k, rfl, hk, hc⟩ := (mvr_mem h h2 64 (by omega) x).1 hx
    rw [OW_yes h2 (by omega) (by omega), hc]
  · rw [e, mvr_cnt h h2 64 (by omega)]
    unfold SH; rw [if_pos h2, shr_get h2 _ hl]
  · have a := VR_rng h2 hl
    have b := own_place h2 hl
    rw [app_last] at a b
    rw [e, mvr_mem h h2 64 (by omega)]
    refine ⟨p.toNat, by omega, by omega, ?_⟩
    rw [show ((p.toNat : Nat) : Int) = p from by omega]
    exact b
  · rw [e]; exact mvr_asc h h2 64 (by omega)

/-- The score of a server for a key. -/
def sco (s k : Int) : Int := (7 * s * s + 5 * s * k + 3 * k + s) % 97
/-- Numbers of servers, ascending. -/
def FitS (l : List Int) (n : Nat) : Prop := ∀ i, i < n → 0 ≤ l.getD i 0 ∧ l.getD i 0 ≤ 40 ∧ (0 < i → l.getD (i - 1) 0 < l.getD i 0)
def VS (l : List Int) : Bool := decide (1 ≤ l.length) && decide (l.length ≤ 6) && decide (∀ i, i < l.length → 0 ≤ l.getD i 0 ∧ l.getD i 0 ≤ 40 ∧ (0 < i → l.getD (i - 1) 0 < l.getD i 0))
theorem VS_iff {l : List Int} : VS l = true ↔ 1 ≤ l.length ∧ l.length ≤ 6 ∧ FitS l l.length := by
  simp only [VS, FitS, Bool.and_eq_true, decide_eq_true_eq, and_assoc]
theorem VS_false {l : List Int} (h : ¬ (1 ≤ l.length ∧ l.length ≤ 6 ∧ FitS l l.length)) : VS l = false := by rw [← VS_iff] at h; simpa using h
theorem FitS.zero (l : List Int) : FitS l 0 := fun i hi => by omega
theorem FitS.succ {l : List Int} {k : Nat} (h : FitS l k) (h0 : 0 ≤ l.getD k 0) (h1 : l.getD k 0 ≤ 40) (h2 : 0 < k → l.getD (k - 1) 0 < l.getD k 0) : FitS l (k + 1) := by
  intro i hi
  by_cases e : i = k
  · subst e; exact ⟨h0, h1, h2⟩
  · exact h i (by omega)
theorem FitS.lt {l : List Int} {n : Nat} (h : FitS l n) {i j : Nat} (hij : i < j) (hj : j < n) : l.getD i 0 < l.getD j 0 := by
  induction j with
  | zero => omega
  | succ j ih =>
    have := (h (j + 1) hj).2.2 (by omega)
    rw [Nat.add_sub_cancel] at this
    by_cases e : i = j
    · subst e; exact this
    · have := ih (by omega) (by omega); omega
/-- Where the first one of the servers of the greatest score stands. -/
def fst' (l : List Int) (k : Int) : Nat := bsm (fun i => - sco (l.getD i 0) k) (l.length - 1)
/-- FirstFor. -/
def FF (l : List Int) (k : Int) : Int := if VS l = true ∧ 0 ≤ k ∧ k ≤ 63 then l.getD (fst' l k) 0 else -1
theorem FF_yes {l : List Int} {k : Int} (h : VS l = true) (hk : 0 ≤ k) (hk' : k ≤ 63) : FF l k = l.getD (fst' l k) 0 := by unfold FF; rw [if_pos ⟨h, hk, hk'⟩]
theorem FF_no {l : List Int} {k : Int} (h : ¬ (VS l = true ∧ 0 ≤ k ∧ k ≤ 63)) : FF l k = -1 := by unfold FF; rw [if_neg h]
theorem FF_ok {l : List Int} {k : Int} (h : ¬ FF l k < 0) : VS l = true ∧ 0 ≤ k ∧ k ≤ 63 := by
  refine Decidable.byContradiction fun hn => h ?_
  rw [FF_no hn]; omega
theorem fst_lt {l : List Int} {k : Int} (h : VS l = true) : fst' l k < l.length := by
  have := bsm_le (fun i => - sco (l.getD i 0) k) (l.length - 1)
  have := (VS_iff.1 h).1
  unfold fst'; omega
theorem VS_erase {l : List Int} (h : VS l = true) (h2 : 2 ≤ l.length) {i : Nat} (hi : i < l.length) : VS (l.eraseIdx i) = true := by
  have h3 := VS_iff.1 h
  have h4 := h3.2.2
  refine VS_iff.2 ⟨by rw [erase_len hi]; omega, by rw [erase_len hi]; omega, fun j hj => ?_⟩
  rw [erase_len hi] at hj
  rw [erase_get, erase_get]
  refine ⟨?_, ?_, fun hj0 => ?_⟩
  · split
    · exact (h4 _ (by omega)).1
    · exact (h4 _ (by omega)).1
  · split
    · exact (h4 _ (by omega)).2.1
    · exact (h4 _ (by omega)).2.1
  · split <;> split <;> exact h4.lt (by omega) (by omega)
theorem FF_erase {l : List Int} {k : Int} (h : VS l = true) (hk : 0 ≤ k) (hk' : k ≤ 63) {i : Nat} (hi : i < l.length) (hne : l.getD i 0 ≠ FF l k) : FF (l.eraseIdx i) k = FF l k := by
  have ho := fst_lt (k := k) h
  rw [FF_yes h hk hk'] at hne ⊢
  have hne2 : i ≠ fst' l k := fun e => hne (by rw [e])
  have h2 : 2 ≤ l.length := by omega
  have hv := VS_erase h h2 hi
  have hl := erase_len hi
  rw [FF_yes hv hk hk']
  obtain ⟨b, hb⟩ : ∃ b, b = if fst' l k < i then fst' l k else fst' l k - 1 := ⟨_, rfl⟩
  have hbl : b < (l.eraseIdx i).length := by rw [hl, hb]; split <;> omega
  have hsrc : ∀ j, (l.eraseIdx i).getD j 0 = l.getD (if j < i then j else j + 1) 0 := by intro j; rw [erase_get]; split <;> rfl
  have eb : (if b < i then b else b + 1) = fst' l k := by
    rw [hb]
    by_cases hlt : fst' l k < i
    · rw [if_pos hlt, if_pos hlt]
    · rw [if_neg hlt, if_neg (by omega)]; omega
  have : fst' (l.eraseIdx i) k = b := by
    unfold fst'
    refine bsm_uniq (by omega) (fun j hj => ?_) (fun j hj => ?_)
    · rw [hsrc, hsrc, eb]
      exact bsm_min (fun i => - sco (l.getD i 0) k) (l.length - 1) _ (by split <;> omega)
    · rw [hsrc, hsrc, eb]
      refine bsm_first (fun i => - sco (l.getD i 0) k) (l.length - 1) _ ?_
      show _ < fst' l k
      rw [← eb]
      split <;> split <;> omega
  rw [this, hsrc, eb]

/-- The number of a key. -/
def jx (k : Nat) : Nat → Nat
  | 0 => k
  | n + 1 => (jx k n * 13 + 7) % 97
/-- The server of so many to which a key jumps. -/
def ja (k : Nat) : Nat → Nat
  | 0 => 0
  | n + 1 => if n ≠ 0 ∧ jx k n % (n + 1) = 0 then n else ja k n
theorem jx_lt (k n : Nat) (hk : k < 97) : jx k n < 97 := by
  cases n with
  | zero => exact hk
  | succ n => rw [jx]; omega
/-- JumpTo. -/
def JT (k n : Int) : Int := if (0 ≤ k ∧ k ≤ 63) ∧ 1 ≤ n ∧ n ≤ 20 then (ja k.toNat n.toNat : Int) else -1
theorem JT_no {k n : Int} (h : ¬ ((0 ≤ k ∧ k ≤ 63) ∧ 1 ≤ n ∧ n ≤ 20)) : JT k n = -1 := by unfold JT; rw [if_neg h]
theorem JT_yes {k n : Nat} (hk : k ≤ 63) (h1 : 1 ≤ n) (h2 : n ≤ 20) : JT k n = (ja k n : Int) := by
  unfold JT; rw [if_pos (by omega)]; simp
theorem JT_ok {k n : Int} (h : ¬ JT k n < 0) : (0 ≤ k ∧ k ≤ 63) ∧ 1 ≤ n ∧ n ≤ 20 := by
  refine Decidable.byContradiction fun hn => h ?_
  rw [JT_no hn]; omega
theorem JT_law {k n : Int} (h : ¬ JT k n < 0) : (n = 1 ∧ JT k n = 0) ∨ (1 < n ∧ (JT k n = n - 1 ∨ JT k n = JT k (n - 1))) := by
  have h2 := JT_ok h
  obtain ⟨k', rfl⟩ : ∃ k' : Nat, k = k' := ⟨k.toNat, by omega⟩
  obtain ⟨n', rfl⟩ : ∃ n' : Nat, n = (n' + 1 : Nat) := ⟨(n - 1).toNat, by omega⟩
  by_cases e : n' = 0
  · subst e; left
    refine ⟨rfl, ?_⟩
    rw [JT_yes (by omega) (by omega) (by omega)]; simp [ja]
  · right
    refine ⟨by omega, ?_⟩
    rw [JT_yes (by omega) (by omega) (by omega), show ((n' + 1 : Nat) : Int) - 1 = (n' : Nat) from by omega, JT_yes (by omega) (by omega) (by omega), ja]
    split
    · left; rfl
    · right; rfl
end Go.Proofs.YtoaiaindcmihjaaGreatDoor
/-
  The desk's answers.
-/
namespace Go.Proofs.YtoaiaindcmihjaaGreatDoor

def wLinear : List UInt8 := [108, 105, 110, 101, 97, 114]
def wFair : List UInt8 := [102, 97, 105, 114]
def wShares : List UInt8 := [115, 104, 97, 114, 101, 115]
def wApart : List UInt8 := [97, 112, 97, 114, 116]
def wTree : List UInt8 := [116, 114, 101, 101]
def wWrong : List UInt8 := [119, 114, 111, 110, 103]
def wWhat : List UInt8 := [119, 104, 97, 116]
/-- What a word of numbers is answered. -/
def an2 (a : List UInt8) (l : List Int) : List UInt8 :=
  if a = wLinear then (if VH 10 l = true then ltx (lin 10 l l.length).1 else wWrong)
  else if a = wFair then (if VH 10 l = true then ltx (rob 10 l l.length) else wWrong)
  else if a = wShares then (if VR l = true then ltx (SH l) else wWrong)
  else if a = wApart then (if VK l = true then dec (LA l).toNat else wWrong)
  else if a = wTree then (if VNm l = true then ttr l 6 0 0 else wWrong)
  else wWhat
/-- What a line is answered. -/
def ANS (s : List UInt8) : List UInt8 :=
  match pcs 32 s with
  | [a, b] => an2 a (rls b)
  | _ => wWhat
/-- The answers to the lines. -/
def RDk (ls : List (List UInt8)) : List UInt8 := if ls.length ≤ 20 then ls.flatMap (fun s => ANS s ++ [10]) else []
/-- No new line. -/
def noL (s : List UInt8) : Prop := (10 : UInt8) ∉ s
theorem noL_app {s t : List UInt8} : noL (s ++ t) ↔ noL s ∧ noL t := by simp [noL]
theorem noL_dgt {n : Nat} (h : n < 10) : noL [dgt n] := by
  unfold noL
  rw [List.mem_singleton]
  intro e
  have := dgt_toNat h
  rw [← e] at this
  have h2 : (10 : UInt8).toNat = 10 := rfl
  omega
theorem noL_dec (n : Nat) : noL (dec n) := by
  induction n using Nat.strongRecOn with
  | ind n ih =>
    by_cases h : n < 10
    · rw [dec_lt h]; exact noL_dgt h
    · rw [dec_ge h, noL_app]; exact ⟨ih _ (by omega), noL_dgt (by omega)⟩
theorem noL_num1 (x : Int) : noL (num1 x) := by
  unfold num1; split
  · unfold noL; decide
  · exact noL_dec _
theorem noL_ltx : ∀ l, noL (ltx l) := by
  refine snocU ?_ fun l x ih => ?_
  · simp [ltx, noL]
  · rw [ltx_snoc, noL_app]
    refine ⟨?_, noL_num1 x⟩
    split
    · simp [noL]
    · rw [noL_app]; exact ⟨ih, by unfold noL; decide⟩
theorem noL_ttr (l : List Int) : ∀ f d e, noL (ttr l f d e) := by
  intro f
  induction f with
  | zero =>
    intro d e
    rw [ttr]
    split
    · unfold noL; decide
    · exact noL_dec _
  | succ f ih =>
    intro d e
    rw [ttr]
    split
    · unfold noL; decide
    · exact noL_dec _
    · simp only [noL_app]
      exact ⟨⟨⟨⟨by unfold noL; decide, ih _ _⟩, by unfold noL; decide⟩, ih _ _⟩, by unfold noL; decide⟩
theorem noL_an2 (a : List UInt8) (l : List Int) : noL (an2 a l) := by
  have hw : noL wWrong := by unfold noL; decide
  unfold an2
  repeat' split
  all_goals first | exact noL_ltx _ | exact noL_dec _ | exact noL_ttr _ _ _ _ | exact hw | (unfold noL; decide)
theorem noL_ANS (s : List UInt8) : noL (ANS s) := by
  unfold ANS
  split
  · exact noL_an2 _ _
  · unfold noL; decide
/-- The law of RunDesk: as many new lines as lines. -/
theorem RDk_count {ls : List (List UInt8)} (h : ls.length ≤ 20) : (RDk ls).count 10 = ls.length := by
  unfold RDk
  rw [if_pos h]
  clear h
  induction ls with
  | nil => rfl
  | cons s ls ih =>
    rw [List.flatMap_cons, List.count_append, List.count_append, List.count_eq_zero.2 (noL_ANS s), ih]
    simp; omega
theorem RDk_take {ls : List (List UInt8)} (h : ls.length ≤ 20) (k : Nat) : ∃ t, RDk ls = RDk (ls.take k) ++ t := by
  refine ⟨(ls.drop k).flatMap (fun s => ANS s ++ [10]), ?_⟩
  unfold RDk
  rw [if_pos h, if_pos (by rw [List.length_take]; omega), ← List.flatMap_append, List.take_append_drop]
theorem RDk_nil {ls : List (List UInt8)} (h : RDk ls ≠ []) : ls.length ≤ 20 := by
  unfold RDk at h
  split at h
  · assumption
  · exact absurd rfl h
end Go.Proofs.YtoaiaindcmihjaaGreatDoor
/-
  What stands in the tables that the desk writes is small.
-/
namespace Go.Proofs.YtoaiaindcmihjaaGreatDoor

theorem lin_keys (m : Nat) (l : List Int) : ∀ k, Keys k (lin m l k).1 := by
  intro k
  induction k with
  | zero =>
    intro i hi
    left
    show (List.replicate m (-1 : Int)).getD i 0 = -1
    rw [show (lin m l 0).1 = List.replicate m (-1) from rfl, List.length_replicate] at hi
    simp [List.getD, hi]
  | succ k ih => exact (ih.mono (Nat.le_succ k)).set (x := k) (by omega)
theorem keys_lt {k : Nat} {t : List Int} (h : Keys k t) (hk : k ≤ 1000) : ∀ x ∈ t, x < 1000000 := by
  intro x hx
  obtain ⟨i, hi, rfl⟩ := List.getElem_of_mem hx
  have := h i hi
  simp [List.getD, hi] at this
  omega
theorem SH_lt {l : List Int} (h : VR l = true) : (SH l).length ≤ 6 ∧ ∀ x ∈ SH l, x < 1000000 := by
  have hl : l.length ≤ 6 := by
    unfold VR at h
    simp at h; omega
  have e : SH l = shr l 64 := by unfold SH; rw [if_pos h]
  rw [e]
  refine ⟨by rw [shr_len]; exact hl, fun x hx => ?_⟩
  obtain ⟨i, hi, rfl⟩ := List.getElem_of_mem hx
  have := (shr_nn h 64 i (by rw [shr_len] at hi; exact hi)).2
  simp [List.getD, hi] at this
  omega
theorem VH_homes {l : List Int} (h : VH 10 l = true) : Homes 10 l := Homes.of_VH (m := 10) (VH_iff.1 h)
end Go.Proofs.YtoaiaindcmihjaaGreatDoor
/-
  spec.empty, spec.linear, spec.LinearTable.
-/
namespace Go.Proofs.YtoaiaindcmihjaaGreatDoor
open Go.RowKit

set_option maxHeartbeats 400000 in
theorem empty_any (M : Nat) (hM : M ≤ 1000) (w : World) :
    Calls Tryz.prog 104 #[.int .i64 M] w fun e w' => ∃ v, e = .returned v ∧ Own w' w.heap.size v (List.replicate M (-1)) ∧ Below w.heap.size w w' := by
  go_enter Tryz.func104, Tryz.ntmps104
  go_wp2
  go_loopw [0, 3] (fun s v wr => ∃ j : Nat, j ≤ M ∧ s = .int .i64 j ∧ Own wr w.heap.size v (List.replicate (M - j) (-1)) ∧ Below w.heap.size w wr) (fun s _ _ => (intOf s).toNat)
  case atStart => exact ⟨M, Nat.le_refl _, rfl, by rw [Nat.sub_self]; exact Own.lit0 _ _ (Nat.le_refl _), (Below.refl _ _).alloc (Nat.le_refl _) _⟩
  case round =>
    obtain ⟨j, hj, rfl, hown, hb⟩ := hrel
    have hsz := hb.size
    by_cases hlt : 0 < j
    · go_wp2_with (at_builtin; refine push_int rfl _ _ rfl w.heap.size u3 _ (-1) rfl hown rfl (by rw [List.length_replicate]; omega) hsz ?_)
      intro v' w1 ho1 _ hg1
      have hb1 := Below.grownB hb hown hg1 hsz (Nat.le_refl _)
      have ho2 : Own w1 w.heap.size v' (List.replicate (M - (j - 1)) (-1)) := by
        rw [show M - (j - 1) = (M - j) + 1 by omega, List.replicate_succ']; exact ho1
      clear ho1 hg1 hown hb
      go_wp2
      go_roundw
      case rel => exact ⟨j - 1, by omega, by rw [Int.ofNat_sub (by omega)]; rfl, ho2, hb1⟩
      case measure => simp [intOf]; omega
    · obtain rfl : j = 0 := by omega
      go_wp2
      go_ret
      exact ⟨_, rfl, hown, hb⟩

set_option maxHeartbeats 1000000 in
theorem linear_any (M : Nat) (a : Option Addr) (l : List Int) (cap : Nat) (w : World) (hr : Reads w a l) (h : Homes M l) :
    Calls Tryz.prog 79 #[.int .i64 M, .slice a l.length cap] w fun e w' => ∃ v, e = .returned (.tuple #[v, .int .i64 (lin M l l.length).2]) ∧ Own w' w.heap.size v (lin M l l.length).1 ∧ Below w.heap.size w w' := by
  have hM := h.le
  have hM1 := h.pos
  have hlen := h.len
  go_enter Tryz.func79, Tryz.ntmps79
  go_wp2_with fail
  refine (empty_any M (by omega) _).mono ?_
  rintro e w1 ⟨v, rfl, ho, hb⟩
  obtain ⟨g, cap', rfl, ht⟩ := ho.tab (by simp; omega)
  rw [List.length_replicate] at ht ⊢
  clear ho
  go_wp2
  go_loopw [7, 8] (fun c i wr => ∃ k : Nat, k ≤ l.length ∧ i = .int .i64 k ∧ c = .int .i64 (lin M l k).2 ∧ Tab wr w.heap.size g M cap' (lin M l k).1 ∧ Below w.heap.size w wr) (fun _ i _ => l.length - (intOf i).toNat)
  case atStart => exact ⟨0, Nat.zero_le _, rfl, rfl, ht, hb⟩
  case round =>
    clear ht hb
    obtain ⟨k, hk, rfl, rfl, ht, hb⟩ := hrel
    by_cases hlt : k < l.length
    · obtain ⟨b, off, x, rfl, hbb, hcell, hx⟩ := hr.get hlt
      have hfit := h.fit k hlt
      have hx2 : x = (home l k : Int) := by rw [h.home_cast hlt]; exact hx.out.symm
      have hhl := h.home_lt hlt
      clear hfit hx
      subst hx2
      have hc1 : wr.cell? ⟨b, off + k, none⟩ = some (.int .i64 (home l k)) := (hb.cell (by exact hbb)).trans hcell
      have hbd := lin_bound h k hk
      obtain ⟨D, hway⟩ := way (lin_len M l k) hhl (by rw [lin_held h k hk]; omega)
      have hDM := hway.lt
      go_wp2
      go_loop [7, 9] (fun c at_ => ∃ d p : Nat, d ≤ D ∧ p < M ∧ at_ = .int .i64 p ∧ c = .int .i64 ((lin M l k).2 + 1 + d) ∧ Hid (p = (home l k + d) % M)) (fun c _ => ((lin M l k).2 + 1 + D) - (intOf c).toNat)
      case atStart => exact ⟨0, home l k, Nat.zero_le _, hhl, rfl, by simp, (Nat.mod_eq_of_lt hhl).symm⟩
      case round =>
        obtain ⟨d, p, hd, hp, rfl, rfl, hpd⟩ := hrel
        obtain ⟨y, hcell2, hy⟩ := ht.get hp
        by_cases hlt2 : y < 0
        · have hdD : d = D := by
            apply Classical.byContradiction
            intro hne
            exact hway.full d p (by omega) hpd.out (by rw [hy.out]; exact hlt2)
          have HD := Lib.hid hdD
          clear hdD
          have hfz := ht.frozen p
          have hst := ht.store p k
          have hbs := hb.setCell (p := ⟨g, p, none⟩) (ht.block.1) (.int .i64 k)
          go_wp2
          go_roundw
          case rel =>
            obtain ⟨e1, e2⟩ := lin_succ hway (p := p) (by rw [← HD.out]; exact hpd.out)
            refine ⟨k + 1, by omega, by go_num, ?_, by rw [e1]; exact hst, hbs⟩
            rw [e2, ← HD.out]; congr 1; omega
          case measure => simp [intOf]; omega
        · have hdD : d < D := by
            apply Classical.byContradiction
            intro hne
            have : d = D := by omega
            exact hlt2 (by rw [← hy.out]; exact hway.free p (by rw [← this]; exact hpd.out))
          go_wp2
          go_round
          case rel => exact ⟨d + 1, (p + 1) % M, by omega, Nat.mod_lt _ (by omega), by rw [cast_step], by go_num, by rw [hpd.out]; exact step_mod _ _ _⟩
          case measure => simp [intOf]; omega
    · obtain rfl : k = l.length := by omega
      have e : (lin M l l.length).1.length = M := lin_len _ _ _
      go_wp2
      go_ret2
      exact ⟨_, rfl, ht.own, hb⟩

end Go.Proofs.YtoaiaindcmihjaaGreatDoor
/-
  spec.off, spec.robin, spec.FairTable.
-/
namespace Go.Proofs.YtoaiaindcmihjaaGreatDoor
open Go.RowKit

set_option maxHeartbeats 400000 in
theorem off_any (m h p : Int) (hm : 1 ≤ m) (hm' : m ≤ 100000) (h0 : 0 ≤ h) (h1 : h < m) (p0 : 0 ≤ p) (p1 : p < m) (w : World) :
    Calls Tryz.prog 105 #[.int .i64 m, .int .i64 h, .int .i64 p] w fun e w' => e = .returned (.int .i64 (offI m h p)) ∧ w = w' := by
  have hne : (m == 0) = false := by simp; omega
  go_enter Tryz.func105, Tryz.ntmps105
  go_wp2
  go_ret
  exact ⟨rfl, rfl⟩

theorem offI_bd {m h p : Int} (hm : 1 ≤ m) : 0 ≤ offI m h p ∧ offI m h p < m :=
  ⟨Int.emod_nonneg _ (by omega), Int.emod_lt_of_pos _ (by omega)⟩

theorem gives_lt {m : Nat} {l : List Int} {p o k : Nat} {A B : Int} (hA : offI m (l.getD k 0) p = A) (hB : offI m (l.getD o 0) p = B) (h : B < A) : gives m l p o k = true := by
  unfold gives; rw [hA, hB]; simp [h]
theorem gives_eq {m : Nat} {l : List Int} {p o k : Nat} {A B : Int} (hA : offI m (l.getD k 0) p = A) (hB : offI m (l.getD o 0) p = B) (h : A = B) (hk : k < o) : gives m l p o k = true := by
  unfold gives; rw [hA, hB]; simp [h, hk]
theorem gives_no {m : Nat} {l : List Int} {p o k : Nat} {A B : Int} (hA : offI m (l.getD k 0) p = A) (hB : offI m (l.getD o 0) p = B) (h : ¬ B < A) (hk : ¬ (A = B ∧ k < o)) : gives m l p o k = false := by
  simp only [gives, hA, hB, Bool.or_eq_false_iff, decide_eq_false_iff_not, Bool.and_eq_false_iff]
  refine ⟨h, ?_⟩
  by_cases e : A = B
  · exact .inr (fun hh => hk ⟨e, hh⟩)
  · exact .inl e

theorem rob1_succ_yes {m : Nat} {l : List Int} {a : Nat} {t : List Int} {k d p o : Nat} (hp : p = (a + d) % m) (ho : (rob1 m l a t k d).1.getD p 0 = o) (hg : gives m l p o (rob1 m l a t k d).2 = true) :
    rob1 m l a t k (d + 1) = ((rob1 m l a t k d).1.set p (rob1 m l a t k d).2, o) := by
  subst hp
  rw [rob1, if_pos (by rw [ho, Int.toNat_natCast]; exact hg), ho, Int.toNat_natCast]
theorem rob1_succ_no {m : Nat} {l : List Int} {a : Nat} {t : List Int} {k d p o : Nat} (hp : p = (a + d) % m) (ho : (rob1 m l a t k d).1.getD p 0 = o) (hg : gives m l p o (rob1 m l a t k d).2 = false) :
    rob1 m l a t k (d + 1) = rob1 m l a t k d := by
  subst hp
  rw [rob1, if_neg (by rw [ho, Int.toNat_natCast, hg]; decide)]
theorem rob_succ {m : Nat} {l : List Int} {k D p : Nat} (hw : Way (rob m l k) m (home l k) D) (hp : p = (home l k + D) % m) :
    rob m l (k + 1) = (rob1 m l (home l k) (rob m l k) k D).1.set p (rob1 m l (home l k) (rob m l k) k D).2 := by
  simp only [rob, hw.is, ← hp]

set_option maxHeartbeats 2000000 in
theorem robin_any (M : Nat) (a : Option Addr) (l : List Int) (cap : Nat) (w : World) (hr : Reads w a l) (h : Homes M l) :
    Calls Tryz.prog 78 #[.int .i64 M, .slice a l.length cap] w fun e w' => ∃ v, e = .returned v ∧ Own w' w.heap.size v (rob M l l.length) ∧ Below w.heap.size w w' := by
  have hM := h.le
  have hM1 := h.pos
  have hlen := h.len
  go_enter Tryz.func78, Tryz.ntmps78
  go_wp2_with fail
  refine (empty_any M (by omega) _).mono ?_
  rintro e w1 ⟨v, rfl, ho, hb⟩
  obtain ⟨g, cap', rfl, ht⟩ := ho.tab (by simp; omega)
  rw [List.length_replicate] at ht ⊢
  clear ho
  go_wp2
  go_loopw [6] (fun i wr => ∃ k : Nat, k ≤ l.length ∧ i = .int .i64 k ∧ Tab wr w.heap.size g M cap' (rob M l k) ∧ Below w.heap.size w wr) (fun i _ => l.length - (intOf i).toNat)
  case atStart => exact ⟨0, Nat.zero_le _, rfl, ht, hb⟩
  case round =>
    clear ht hb
    obtain ⟨k, hk, rfl, ht, hb⟩ := hrel
    by_cases hlt : k < l.length
    · obtain ⟨b, off, x, rfl, hbb, hcell, hx⟩ := hr.get hlt
      have hx2 : x = (home l k : Int) := by rw [h.home_cast hlt]; exact hx.out.symm
      have hhl := h.home_lt hlt
      clear hx
      subst hx2
      have hc1 : wr.cell? ⟨b, off + k, none⟩ = some (.int .i64 (home l k)) := (hb.cell (by exact hbb)).trans hcell
      obtain ⟨v1, v2, v3⟩ := rob_inv h k hk
      obtain ⟨D, hway⟩ := way v1 hhl (by rw [v3]; omega)
      have hDM := hway.lt
      have hinv := rob1_inv (l := l) h.pos v1 v2 hway
      have HINV := Lib.hid hinv
      clear hinv v1 v2 v3
      go_wp2
      go_loopg [7, 8] D (fun n key at_ wq => ∃ d p : Nat, d + n = D ∧ p < M ∧ at_ = .int .i64 p ∧ key = .int .i64 (rob1 M l (home l k) (rob M l k) k d).2 ∧ Hid (p = (home l k + d) % M) ∧ Tab wq w.heap.size g M cap' (rob1 M l (home l k) (rob M l k) k d).1 ∧ Below w.heap.size w wq)
      case atStart => exact ⟨0, home l k, by omega, hhl, rfl, rfl, (Nat.mod_eq_of_lt hhl).symm, ht, hb⟩
      case round =>
        clear ht hb hc1 hcell
        obtain ⟨d, p, hd, hp, rfl, rfl, hpd, ht, hb⟩ := hrel
        have HD := Lib.hid hd
        have hdle : d ≤ D := by omega
        clear hd
        obtain ⟨r1, r2, r3, r4⟩ := HINV.out d hdle
        obtain ⟨T, q, hs⟩ : ∃ T q, rob1 M l (home l k) (rob M l k) k d = (T, q) := ⟨_, _, rfl⟩
        have HS := Lib.hid hs
        rw [hs] at r1 r2 r3 r4 ht ⊢
        clear hs
        dsimp only at r1 r2 r3 r4 ht ⊢
        obtain ⟨y, hcell2, hy⟩ := ht.get hp
        have hr2 := r2 p (by rw [r1]; exact hp)
        rw [hy.out] at hr2
        have hyf := r4 p hp
        rw [hy.out] at hyf
        have HYF := Lib.hid hyf
        have hfz := ht.frozen p
        clear hyf r1 r2 r4
        by_cases hlt2 : y < 0
        · have hdD : d = D := by
            apply Classical.byContradiction
            intro hne
            exact hway.full d p (by omega) hpd.out (HYF.out.1 hlt2)
          have HDD := Lib.hid hdD
          clear hdD
          have hst := ht.store p q
          have hbs := hb.setCell (p := ⟨g, p, none⟩) (ht.block.1) (.int .i64 q)
          go_wp2
          go_roundw
          case rel =>
            refine ⟨k + 1, by omega, by go_num, ?_, hbs⟩
            rw [rob_succ hway (p := p) (by rw [← HDD.out]; exact hpd.out), ← HDD.out, HS.out]
            exact hst
          case measure => simp [intOf]; omega
        · have hdD : d < D := by
            apply Classical.byContradiction
            intro hne
            have : d = D := by omega
            exact hlt2 (HYF.out.2 (hway.free p (by rw [← this]; exact hpd.out)))
          obtain ⟨o, rfl⟩ := Int.eq_ofNat_of_zero_le (show 0 ≤ y by omega)
          have hol : o < l.length := by omega
          have hql : q < l.length := by omega
          obtain ⟨hq, hcq, hhq⟩ := hr.at_ hql
          obtain ⟨hoo, hco, hho⟩ := hr.at_ hol
          have hcq1 : wr.cell? ⟨b, off + q, none⟩ = some (.int .i64 hq) := (hb.cell (by exact hbb)).trans hcq
          have hco1 : wr.cell? ⟨b, off + o, none⟩ = some (.int .i64 hoo) := (hb.cell (by exact hbb)).trans hco
          have fq := h.fit q hql
          have fo := h.fit o hol
          rw [hhq.out] at fq
          rw [hho.out] at fo
          clear hcq hco hr2
          obtain ⟨A, hA⟩ : ∃ A, offI M hq p = A := ⟨_, rfl⟩
          obtain ⟨B, hB⟩ : ∃ B, offI M hoo p = B := ⟨_, rfl⟩
          have HA := Lib.hid hA
          have HB := Lib.hid hB
          clear hA hB
          go_wp2_with fail
          refine (off_any _ _ _ (by omega) (by omega) fq.1 fq.2 (by omega) (by omega) _).mono ?_
          rintro e w' ⟨rfl, rfl⟩
          rw [HA.out]
          go_wp2_with fail
          refine (off_any _ _ _ (by omega) (by omega) fo.1 fo.2 (by omega) (by omega) _).mono ?_
          rintro e w' ⟨rfl, rfl⟩
          rw [HB.out]
          have nxt : (home l k + (d + 1)) % M = (p + 1) % M := by rw [hpd.out]; exact (step_mod _ _ _).symm
          have NXT := Lib.hid nxt
          clear nxt
          by_cases hAB : B < A
          · have hst := ht.store p q
            have hbs := hb.setCell (p := ⟨g, p, none⟩) (ht.block.1) (.int .i64 q)
            go_wp2
            go_roundg (gk - 1)
            case measure => have := HD.out; omega
            case rel =>
              have hg := gives_lt (A := A) (B := B) (l := l) (k := q) (o := o) (m := M) (p := p) (by rw [hhq.out]; exact HA.out) (by rw [hho.out]; exact HB.out) hAB
              have e1 := rob1_succ_yes (l := l) (t := rob M l k) (k := k) hpd.out (o := o) (by rw [HS.out]; exact hy.out) (by rw [HS.out]; exact hg)
              rw [HS.out] at e1
              refine ⟨d + 1, (p + 1) % M, by have := HD.out; omega, Nat.mod_lt _ (by omega), by rw [cast_step], by rw [e1], NXT.out.symm, by rw [e1]; exact hst, hbs⟩
          by_cases hEQ : A = B
          · by_cases hko : q < o
            · have hst := ht.store p q
              have hbs := hb.setCell (p := ⟨g, p, none⟩) (ht.block.1) (.int .i64 q)
              have HEQ := Lib.hid hEQ
              have hb1 : (A == B) = true := by simp [hEQ]
              clear hEQ
              go_wp2
              go_roundg (gk - 1)
              case measure => have := HD.out; omega
              case rel =>
                have hg := gives_eq (A := A) (B := B) (l := l) (k := q) (o := o) (m := M) (p := p) (by rw [hhq.out]; exact HA.out) (by rw [hho.out]; exact HB.out) HEQ.out hko
                have e1 := rob1_succ_yes (l := l) (t := rob M l k) (k := k) hpd.out (o := o) (by rw [HS.out]; exact hy.out) (by rw [HS.out]; exact hg)
                rw [HS.out] at e1
                refine ⟨d + 1, (p + 1) % M, by have := HD.out; omega, Nat.mod_lt _ (by omega), by rw [cast_step], by rw [e1], NXT.out.symm, by rw [e1]; exact hst, hbs⟩
            · have HEQ := Lib.hid hEQ
              have hb1 : (A == B) = true := by simp [hEQ]
              clear hEQ
              go_wp2
              go_roundg (gk - 1)
              case measure => have := HD.out; omega
              case rel =>
                have hg := gives_no (A := A) (B := B) (l := l) (k := q) (o := o) (m := M) (p := p) (by rw [hhq.out]; exact HA.out) (by rw [hho.out]; exact HB.out) (by omega) (fun hh => by have := hh.2; omega)
                have e1 := rob1_succ_no (l := l) (t := rob M l k) (k := k) hpd.out (o := o) (by rw [HS.out]; exact hy.out) (by rw [HS.out]; exact hg)
                rw [HS.out] at e1
                refine ⟨d + 1, (p + 1) % M, by have := HD.out; omega, Nat.mod_lt _ (by omega), by rw [cast_step], by rw [e1], NXT.out.symm, by rw [e1]; exact ht, hb⟩
          · have hb1 : (A == B) = false := by simpa using hEQ
            go_wp2
            go_roundg (gk - 1)
            case measure => have := HD.out; omega
            case rel =>
              have hg := gives_no (A := A) (B := B) (l := l) (k := q) (o := o) (m := M) (p := p) (by rw [hhq.out]; exact HA.out) (by rw [hho.out]; exact HB.out) (by omega) (fun hh => hEQ hh.1)
              have e1 := rob1_succ_no (l := l) (t := rob M l k) (k := k) hpd.out (o := o) (by rw [HS.out]; exact hy.out) (by rw [HS.out]; exact hg)
              rw [HS.out] at e1
              refine ⟨d + 1, (p + 1) % M, by have := HD.out; omega, Nat.mod_lt _ (by omega), by rw [cast_step], by rw [e1], NXT.out.symm, by rw [e1]; exact ht, hb⟩
    · obtain rfl : k = l.length := by omega
      go_wp2
      go_ret
      exact ⟨_, rfl, ht.own, hb⟩

end Go.Proofs.YtoaiaindcmihjaaGreatDoor
/-
  The plain mathematics of chapter 4: turns.
-/
namespace Go.Proofs.YtoaiaindcmihjaaGreatDoor

/-- The place of try j of a server. -/
def tp (a b j : Nat) : Nat := (a + j * b) % 13
theorem tp_lt (a b j : Nat) : tp a b j < 13 := by unfold tp; omega
theorem tp_all : ∀ a b s : Fin 13, 0 < b.val → ∃ j : Fin 13, tp a.val b.val j.val = s.val := by decide +kernel
theorem tp_succ (a b j : Nat) : tp a b (j + 1) = (tp a b j + b) % 13 := by
  unfold tp; rw [Nat.succ_mul]; omega
/-- The first try from j on that finds a slot free. -/
def fjr (T : List Int) (a b : Nat) : Nat → Nat → Nat
  | 0, j => j
  | f + 1, j => if T.getD (tp a b j) 0 < 0 then j else fjr T a b f (j + 1)
def fj (T : List Int) (a b : Nat) : Nat := fjr T a b 13 0
theorem fjr_spec (T : List Int) (a b : Nat) : ∀ f j, (∃ i, i < f ∧ T.getD (tp a b (j + i)) 0 < 0) → T.getD (tp a b (fjr T a b f j)) 0 < 0 ∧ j ≤ fjr T a b f j ∧ fjr T a b f j < j + f ∧ ∀ i, j ≤ i → i < fjr T a b f j → ¬ T.getD (tp a b i) 0 < 0 := by
  intro f
  induction f with
  | zero => rintro j ⟨i, hi, _⟩; omega
  | succ f ih =>
    rintro j ⟨i, hi, h⟩
    rw [fjr]
    by_cases c : T.getD (tp a b j) 0 < 0
    · rw [if_pos c]; exact ⟨c, Nat.le_refl _, by omega, fun i h1 h2 => by omega⟩
    · rw [if_neg c]
      have hi0 : i ≠ 0 := fun e => by subst e; exact c h
      obtain ⟨h1, h2, h3, h4⟩ := ih (j + 1) ⟨i - 1, by omega, by rw [show j + 1 + (i - 1) = j + i from by omega]; exact h⟩
      refine ⟨h1, by omega, by omega, fun i' h5 h6 => ?_⟩
      by_cases e : i' = j
      · subst e; exact c
      · exact h4 i' (by omega) h6
/-- A table with a free slot. -/
def HasFree (T : List Int) : Prop := ∃ s, s < 13 ∧ T.getD s 0 < 0
theorem fj_spec {T : List Int} {a b : Nat} (ha : a < 13) (hb : b < 13) (h0 : 0 < b) (h : HasFree T) : T.getD (tp a b (fj T a b)) 0 < 0 ∧ fj T a b < 13 ∧ ∀ i, i < fj T a b → ¬ T.getD (tp a b i) 0 < 0 := by
  obtain ⟨s, hs, hf⟩ := h
  obtain ⟨j, hj⟩ := tp_all ⟨a, ha⟩ ⟨b, hb⟩ ⟨s, hs⟩ h0
  simp only at hj
  obtain ⟨h1, _, h3, h4⟩ := fjr_spec T a b 13 0 ⟨j.val, j.isLt, by rw [Nat.zero_add, hj]; exact hf⟩
  exact ⟨h1, by unfold fj; omega, fun i hi => h4 i (Nat.zero_le _) hi⟩
theorem fj_uniq {T : List Int} {a b j : Nat} (ha : a < 13) (hb : b < 13) (h0 : 0 < b) (h : T.getD (tp a b j) 0 < 0) (h1 : ∀ i, i < j → ¬ T.getD (tp a b i) 0 < 0) : fj T a b = j := by
  obtain ⟨h2, _, h4⟩ := fj_spec ha hb h0 (T := T) ⟨_, tp_lt a b j, h⟩
  rcases Nat.lt_trichotomy (fj T a b) j with hl | hl | hl
  · exact (h1 _ hl h2).elim
  · exact hl
  · exact (h4 _ hl h).elim

/-- From and Skip of server s. -/
def tfr (tu : List (Int × Int)) (s : Nat) : Nat := (tu.getD s (0, 0)).1.toNat
def tsk (tu : List (Int × Int)) (s : Nat) : Nat := (tu.getD s (0, 0)).2.toNat
/-- The table when n slots are taken. -/
def tt (tu : List (Int × Int)) : Nat → List Int
  | 0 => List.replicate 13 (-1)
  | n + 1 => (tt tu n).set (tp (tfr tu (n % tu.length)) (tsk tu (n % tu.length)) (fj (tt tu n) (tfr tu (n % tu.length)) (tsk tu (n % tu.length)))) ((n % tu.length : Nat) : Int)
theorem tt_len (tu : List (Int × Int)) (n : Nat) : (tt tu n).length = 13 := by
  induction n with
  | zero => simp [tt]
  | succ n ih => simp [tt, ih]
def FitU (tu : List (Int × Int)) (k : Nat) : Prop := ∀ i, i < k → (0 ≤ (tu.getD i (0, 0)).1 ∧ (tu.getD i (0, 0)).1 ≤ 12) ∧ 1 ≤ (tu.getD i (0, 0)).2 ∧ (tu.getD i (0, 0)).2 ≤ 12
/-- The turns are right ones. -/
def VU (tu : List (Int × Int)) : Bool := decide (1 ≤ tu.length) && decide (tu.length ≤ 6) && decide (∀ i, i < tu.length → (0 ≤ (tu.getD i (0, 0)).1 ∧ (tu.getD i (0, 0)).1 ≤ 12) ∧ 1 ≤ (tu.getD i (0, 0)).2 ∧ (tu.getD i (0, 0)).2 ≤ 12)
theorem VU_iff {tu : List (Int × Int)} : VU tu = true ↔ 1 ≤ tu.length ∧ tu.length ≤ 6 ∧ FitU tu tu.length := by
  simp only [VU, FitU, Bool.and_eq_true, decide_eq_true_eq, and_assoc]
theorem VU_false {tu : List (Int × Int)} (h : ¬ (1 ≤ tu.length ∧ tu.length ≤ 6 ∧ FitU tu tu.length)) : VU tu = false := by rw [← VU_iff] at h; simpa using h
theorem FitU.zero (tu : List (Int × Int)) : FitU tu 0 := fun i hi => by omega
theorem FitU.succ {tu : List (Int × Int)} {k : Nat} (h : FitU tu k) (h0 : 0 ≤ (tu.getD k (0, 0)).1) (h1 : (tu.getD k (0, 0)).1 ≤ 12) (h2 : 1 ≤ (tu.getD k (0, 0)).2) (h3 : (tu.getD k (0, 0)).2 ≤ 12) : FitU tu (k + 1) := by
  intro i hi
  by_cases e : i = k
  · subst e; exact ⟨⟨h0, h1⟩, h2, h3⟩
  · exact h i (by omega)
theorem VU_get {tu : List (Int × Int)} (h : VU tu = true) {s : Nat} (hs : s < tu.length) : (tu.getD s (0, 0)).1 = (tfr tu s : Int) ∧ (tu.getD s (0, 0)).2 = (tsk tu s : Int) ∧ tfr tu s < 13 ∧ tsk tu s < 13 ∧ 0 < tsk tu s := by
  have := (VU_iff.1 h).2.2 s hs
  unfold tfr tsk
  omega
theorem VU_mod {tu : List (Int × Int)} (h : VU tu = true) (n : Nat) : n % tu.length < tu.length := Nat.mod_lt _ (VU_iff.1 h).1
/-- How many slots are free. -/
theorem cnt_set {T : List Int} {i : Nat} (hi : i < T.length) (p : Int → Bool) (x : Int) : (T.set i x).countP p + (if p (T.getD i 0) = true then 1 else 0) = T.countP p + (if p x = true then 1 else 0) := by
  induction T generalizing i with
  | nil => simp at hi
  | cons y T ih =>
    cases i with
    | zero => simp only [List.set, List.countP_cons, List.getD_cons_zero]; omega
    | succ i =>
      have := ih (i := i) (by simpa using hi)
      simp only [List.set, List.countP_cons, List.getD_cons_succ]; omega
theorem free_of {T : List Int} (hl : T.length = 13) (h : 0 < T.countP fun x => decide (x < 0)) : HasFree T := by
  obtain ⟨x, hx, hp⟩ := List.countP_pos_iff.1 h
  obtain ⟨s, hs, rfl⟩ := List.getElem_of_mem hx
  refine ⟨s, by omega, ?_⟩
  simpa [List.getD, hs] using hp
theorem tt_free {tu : List (Int × Int)} (h : VU tu = true) (n : Nat) (hn : n ≤ 13) : (tt tu n).countP (fun x => decide (x < 0)) = 13 - n := by
  induction n with
  | zero => simp [tt]
  | succ n ih =>
    have i1 := ih (by omega)
    have hf := free_of (tt_len tu n) (by omega)
    obtain ⟨_, _, h3, h4, h5⟩ := VU_get h (VU_mod h n)
    have h6 := (fj_spec h3 h4 h5 hf).1
    have h7 := cnt_set (T := tt tu n) (i := tp (tfr tu (n % tu.length)) (tsk tu (n % tu.length)) (fj (tt tu n) (tfr tu (n % tu.length)) (tsk tu (n % tu.length)))) (by rw [tt_len]; exact tp_lt _ _ _) (fun x => decide (x < 0)) ((n % tu.length : Nat) : Int)
    simp only [h6, decide_true, if_true] at h7
    rw [if_neg (by simp; omega)] at h7
    rw [tt]; omega
theorem tt_has {tu : List (Int × Int)} (h : VU tu = true) {n : Nat} (hn : n < 13) : HasFree (tt tu n) := free_of (tt_len tu n) (by rw [tt_free h n (by omega)]; omega)
theorem tt_fj {tu : List (Int × Int)} (h : VU tu = true) {n : Nat} (hn : n < 13) : (tt tu n).getD (tp (tfr tu (n % tu.length)) (tsk tu (n % tu.length)) (fj (tt tu n) (tfr tu (n % tu.length)) (tsk tu (n % tu.length)))) 0 < 0 ∧ fj (tt tu n) (tfr tu (n % tu.length)) (tsk tu (n % tu.length)) < 13 ∧ ∀ i, i < fj (tt tu n) (tfr tu (n % tu.length)) (tsk tu (n % tu.length)) → ¬ (tt tu n).getD (tp (tfr tu (n % tu.length)) (tsk tu (n % tu.length)) i) 0 < 0 := by
  obtain ⟨_, _, h3, h4, h5⟩ := VU_get h (VU_mod h n)
  exact fj_spec h3 h4 h5 (tt_has h hn)
theorem getD_rep {i : Nat} (hi : i < 13) : (List.replicate 13 (-1 : Int)).getD i 0 = -1 := by simp only [List.getD, List.getElem?_replicate, if_pos hi, Option.getD_some]
theorem tt_cell {tu : List (Int × Int)} (hv : VU tu = true) (n i : Nat) (hi : i < 13) : -1 ≤ (tt tu n).getD i 0 ∧ (tt tu n).getD i 0 < tu.length := by
  induction n with
  | zero => rw [tt, getD_rep hi]; omega
  | succ n ih =>
    rw [tt, List.getD]
    by_cases e : tp (tfr tu (n % tu.length)) (tsk tu (n % tu.length)) (fj (tt tu n) (tfr tu (n % tu.length)) (tsk tu (n % tu.length))) = i
    · rw [e, List.getElem?_set_self (by rw [tt_len]; exact hi)]
      simp only [Option.getD_some]
      have := VU_mod hv n
      omega
    · rw [List.getElem?_set_ne e, ← List.getD]; exact ih
/-- Tries that are over. -/
def NX (tu : List (Int × Int)) (n : Nat) (N : List Nat) : Prop := N.length = tu.length ∧ ∀ s, s < tu.length → N.getD s 0 ≤ 13 ∧ ∀ j, j < N.getD s 0 → ¬ (tt tu n).getD (tp (tfr tu s) (tsk tu s) j) 0 < 0
theorem NX.zero (tu : List (Int × Int)) : NX tu 0 (List.replicate tu.length 0) := by
  refine ⟨by simp, fun s hs => ?_⟩
  have : (List.replicate tu.length 0).getD s 0 = 0 := by simp [List.getD, hs]
  rw [this]
  exact ⟨by omega, fun j hj => by omega⟩
theorem tt_keep {tu : List (Int × Int)} {n s : Nat} (hs : s < 13) (h : ¬ (tt tu n).getD s 0 < 0) : ¬ (tt tu (n + 1)).getD s 0 < 0 := by
  rw [tt, List.getD]
  by_cases e : tp (tfr tu (n % tu.length)) (tsk tu (n % tu.length)) (fj (tt tu n) (tfr tu (n % tu.length)) (tsk tu (n % tu.length))) = s
  · rw [e, List.getElem?_set_self (by rw [tt_len]; exact hs)]
    simp only [Option.getD_some]
    omega
  · rw [List.getElem?_set_ne e, ← List.getD]; exact h
theorem NX.succ {tu : List (Int × Int)} {n : Nat} {N : List Nat} (hv : VU tu = true) (hn : n < 13) (h : NX tu n N) : NX tu (n + 1) (N.set (n % tu.length) (fj (tt tu n) (tfr tu (n % tu.length)) (tsk tu (n % tu.length)) + 1)) := by
  have hm := VU_mod hv n
  obtain ⟨h1, h2, h3⟩ := tt_fj hv hn
  refine ⟨by rw [List.length_set]; exact h.1, fun s hs => ?_⟩
  obtain ⟨h4, h5⟩ := h.2 s hs
  by_cases e : n % tu.length = s
  · rw [← e, List.getD, List.getElem?_set_self (by rw [h.1]; exact hm)]
    simp only [Option.getD_some]
    refine ⟨by omega, fun j hj => ?_⟩
    by_cases ej : j = fj (tt tu n) (tfr tu (n % tu.length)) (tsk tu (n % tu.length))
    · rw [ej, tt, List.getD, List.getElem?_set_self (by rw [tt_len]; exact tp_lt _ _ _)]
      simp only [Option.getD_some]
      omega
    · exact tt_keep (tp_lt _ _ _) (h3 j (by omega))
  · rw [List.getD, List.getElem?_set_ne e, ← List.getD]
    exact ⟨h4, fun j hj => tt_keep (tp_lt _ _ _) (h5 j hj)⟩
theorem NX.le {tu : List (Int × Int)} {n : Nat} {N : List Nat} (hv : VU tu = true) (hn : n < 13) (h : NX tu n N) : N.getD (n % tu.length) 0 ≤ fj (tt tu n) (tfr tu (n % tu.length)) (tsk tu (n % tu.length)) := by
  refine Decidable.byContradiction fun hc => ?_
  exact (h.2 _ (VU_mod hv n)).2 _ (by omega) (tt_fj hv hn).1
/-- TurnTable. -/
def TT (tu : List (Int × Int)) : List Int := if VU tu = true then tt tu 13 else []
theorem TT_len (tu : List (Int × Int)) : (TT tu).length ≤ 1048586 := by
  unfold TT; split
  · rw [tt_len]; omega
  · simp
/-- How often server s comes. -/
theorem tt_cnt {tu : List (Int × Int)} (h : VU tu = true) (s : Nat) (n : Nat) (hn : n ≤ 13) : (tt tu n).countP (fun x => decide (x = (s : Int))) = (List.range n).countP fun m => decide (m % tu.length = s) := by
  induction n with
  | zero =>
    have : List.countP (fun x => decide (x = (s : Int))) (List.replicate 13 (-1)) = 0 := by
      rw [List.countP_eq_zero]; intro x hx; rw [List.mem_replicate] at hx; simp only [decide_eq_true_eq]; omega
    rw [tt, this]; rfl
  | succ n ih =>
    have i1 := ih (by omega)
    have h6 := (tt_fj h (n := n) (by omega)).1
    have h7 := cnt_set (T := tt tu n) (i := tp (tfr tu (n % tu.length)) (tsk tu (n % tu.length)) (fj (tt tu n) (tfr tu (n % tu.length)) (tsk tu (n % tu.length)))) (by rw [tt_len]; exact tp_lt _ _ _) (fun x => decide (x = (s : Int))) ((n % tu.length : Nat) : Int)
    have h8 : decide ((tt tu n).getD (tp (tfr tu (n % tu.length)) (tsk tu (n % tu.length)) (fj (tt tu n) (tfr tu (n % tu.length)) (tsk tu (n % tu.length)))) 0 = (s : Int)) = false := by simp only [decide_eq_false_iff_not]; omega
    simp only [h8, Bool.false_eq_true, if_false] at h7
    rw [tt, List.range_succ, List.countP_append, List.countP_singleton]
    by_cases e : n % tu.length = s
    · rw [if_pos (by simp [e])] at h7
      rw [if_pos (by simp [e])]; omega
    · rw [if_neg (by simp only [decide_eq_true_eq]; omega)] at h7
      rw [if_neg (by simp [e])]; omega
theorem even_all : ∀ n : Fin 7, 0 < n.val → ∀ i k : Fin 6, i.val < n.val → k.val < n.val → ((List.range 13).countP fun m => decide (m % n.val = i.val)) ≤ ((List.range 13).countP fun m => decide (m % n.val = k.val)) + 1 ∧ (i.val < k.val → ((List.range 13).countP fun m => decide (m % n.val = k.val)) ≤ ((List.range 13).countP fun m => decide (m % n.val = i.val))) := by decide +kernel
end Go.Proofs.YtoaiaindcmihjaaGreatDoor
