/-
  spec.readTree, ReadTree.
-/
import Derived.Test.YtoaiaindcmihjaaGreatDoorNT
import Derived.Test.YtoaiaindcmihjaaGreatDoorNQ
namespace Go.Proofs.YtoaiaindcmihjaaGreatDoor
open Go.RowKit

theorem B8_size (s : List UInt8) : (B8 s).size = s.length := rfl
theorem B8_list (s : List UInt8) : (B8 s).toList = s := ByteArray.toList_mk s
theorem B8_get (s : List UInt8) (k : Nat) (h : k < (B8 s).size) : ((B8 s)[k]'h).toNat = (s.getD k 0).toNat := by
  have h2 : k < s.length := h
  have e : (B8 s)[k]'h = s[k] := by show s.toArray[k] = s[k]; simp
  rw [e]; simp [List.getD, h2]
theorem B8_drop (s : List UInt8) (k : Nat) : (B8 s).extract k s.length = B8 (s.drop k) := by
  rw [ByteArray.extract_mk]
  congr 2
  exact List.take_of_length_le (by rw [List.length_drop]; omega)
/-- What readTree gives. -/
def RdP (w w' : World) (e : Ending) (o : Option (List Int × List UInt8)) : Prop :=
  (o = none ∧ e = .returned (.tuple #[.slice none 0 0, .string (B8 []), .bool false]) ∨ ∃ v L r, o = some (L, r) ∧ e = .returned (.tuple #[v, .string (B8 r), .bool true]) ∧ Own w' w.heap.size v L) ∧ Below w.heap.size w w'
set_option maxHeartbeats 8000000 in
theorem readTree_any : ∀ (g : Nat) (s : List UInt8) (w : World), s.length < g → s.length ≤ 400 → Calls Tryz.prog 39 #[.string (B8 s)] w fun e w' => RdP w w' e (rd g s) := by
  intro g
  induction g with
  | zero => intro s w h; omega
  | succ g ih =>
    intro s w hg h400
    cases s with
    | nil =>
      have hl := B8_list []
      have hs : rd (g + 1) [] = none := by rw [rd]
      rw [hs]
      go_enter Tryz.func39, Tryz.ntmps39
      go_wp2
      go_ret3
      exact ⟨.inl ⟨rfl, rfl⟩, Below.refl _ _⟩
    | cons c t =>
      have hsz : (B8 (c :: t)).size = t.length + 1 := rfl
      have hl := B8_list (c :: t)
      have hdr := B8_drop (c :: t) 1
      have hg0 := B8_get (c :: t) 0
      rw [List.length_cons] at hg h400 hdr
      rw [List.drop_succ_cons, List.drop_zero] at hdr
      rw [show (c :: t).getD 0 0 = c from rfl] at hg0
      obtain ⟨S, hS⟩ : ∃ S, S = B8 (c :: t) := ⟨_, rfl⟩
      rw [← hS] at hsz hl hdr hg0 ⊢
      have HS := Lib.hid hS
      clear hS
      obtain ⟨C, hC⟩ : ∃ C : Nat, C = c.toNat := ⟨_, rfl⟩
      have hC256 : C < 256 := by rw [hC]; exact UInt8.toNat_lt c
      rw [← hC] at hg0
      have HC := Lib.hid hC
      have ht1 : (1 : Int) ≤ (t.length : Int) + 1 := by omega
      clear hC
      by_cases h46 : C = 46
      · subst h46
        have hc : c = 46 := UInt8.toNat_inj.1 HC.out.symm
        have hR : rd (g + 1) (c :: t) = some ([], t) := by rw [rd, if_pos hc]
        rw [hR]
        have ho := Own.lit0 w w.heap.size (Nat.le_refl _)
        have hB := (Below.refl w.heap.size w).alloc (Nat.le_refl _) (.cells #[] 3)
        clear hR hc
        go_enter Tryz.func39, Tryz.ntmps39
        have ho2 := ho.below (Below.refl _ _).drew
        have hB2 := hB.drew
        go_wp2_with fail
        go_region_law (fail)
        all_goals
          go_wp2
          go_ret3
          exact ⟨.inr ⟨_, [], t, rfl, rfl, ho2⟩, hB2⟩
      · by_cases h40 : C = 40
        · subst h40
          have hc : c = 40 := UInt8.toNat_inj.1 HC.out.symm
          have hne : rd (g + 1) (c :: t) = (match rd g t with
              | some (a, c1 :: r) => if c1 = 32 then
                  match rd g r with
                  | some (b, c2 :: m) => if c2 = 41 then some (a ++ b, m) else none
                  | _ => none
                else none
              | _ => none) := by rw [rd, if_neg (by rw [hc]; decide), if_pos hc]; rfl
          obtain ⟨RR, hRR⟩ : ∃ RR, RR = rd (g + 1) (c :: t) := ⟨_, rfl⟩
          rw [← hRR] at hne ⊢
          have HNE := Lib.hid hne
          have I1 := Lib.hid (ih t w (by omega) (by omega))
          have I2 := Lib.hid ih
          clear hne hRR hc ih
          go_enter Tryz.func39, Tryz.ntmps39
          go_wp2_with fail
          refine I1.out.mono ?_
          rintro e w1 ⟨⟨h1, rfl⟩ | ⟨v1, L1, r1, h1, rfl, o1⟩, B1⟩
          · have hR : RR = none := by rw [HNE.out, h1]
            have HR := Lib.hid hR
            clear h1 hR I1
            go_wp2
            go_ret3
            exact ⟨.inl ⟨HR.out, rfl⟩, B1⟩
          · have k1 := rd_len _ _ _ _ h1
            have H1 := Lib.hid h1
            obtain ⟨a1, cc1, rfl, hr1, _, _, _⟩ := o1.form
            clear h1 I1
            cases r1 with
            | nil =>
              have hR : RR = none := by rw [HNE.out, H1.out]
              have hl1 := B8_list []
              have HR := Lib.hid hR
              clear hR k1
              go_wp2
              go_ret3
              exact ⟨.inl ⟨HR.out, rfl⟩, B1⟩
            | cons c1 r =>
              have hsz1 : (B8 (c1 :: r)).size = r.length + 1 := rfl
              have hl1 := B8_list (c1 :: r)
              have hdr1 := B8_drop (c1 :: r) 1
              have hg1 := B8_get (c1 :: r) 0
              rw [List.length_cons] at hdr1 k1
              rw [List.drop_succ_cons, List.drop_zero] at hdr1
              rw [show (c1 :: r).getD 0 0 = c1 from rfl] at hg1
              obtain ⟨S1, hS1⟩ : ∃ S1, S1 = B8 (c1 :: r) := ⟨_, rfl⟩
              rw [← hS1] at hsz1 hl1 hdr1 hg1 ⊢
              obtain ⟨C1, hC1⟩ : ∃ C1 : Nat, C1 = c1.toNat := ⟨_, rfl⟩
              rw [← hC1] at hg1
              have HC1 := Lib.hid hC1
              have hrl : r.length ≤ 400 := by omega
              have hL1 : L1.length ≤ 400 := by omega
              have hrg : r.length < g := by omega
              clear hS1 hC1 k1
              by_cases h32 : C1 = 32
              rotate_left
              · have hc1 : ¬ c1 = 32 := fun e => h32 (by rw [HC1.out, e]; rfl)
                have hR : RR = none := by rw [HNE.out, H1.out]; exact if_neg hc1
                have hd1 : ((C1 : Int) != 32) = true := by simp; omega
                have HR := Lib.hid hR
                clear hR hc1
                go_wp2
                go_ret3
                exact ⟨.inl ⟨HR.out, rfl⟩, B1⟩
              subst h32
              have hc1 : c1 = 32 := UInt8.toNat_inj.1 HC1.out.symm
              have hne2 : RR = (match rd g r with
                  | some (b, c2 :: m) => if c2 = 41 then some (L1 ++ b, m) else none
                  | _ => none) := by rw [HNE.out, H1.out]; exact if_pos hc1
              have HNE2 := Lib.hid hne2
              have I3 := Lib.hid (I2.out r w1 hrg hrl)
              clear hne2 hc1 I2 HNE
              go_wp2_with fail
              refine I3.out.mono ?_
              rintro e w2 ⟨⟨h2, rfl⟩ | ⟨v2, L2, r2, h2, rfl, o2⟩, B2⟩
              · have hR : RR = none := by rw [HNE2.out, h2]
                have HR := Lib.hid hR
                have B3 := B1.trans (B2.mono B1.size)
                clear h2 hR I3
                go_wp2
                go_ret3
                exact ⟨.inl ⟨HR.out, rfl⟩, B3⟩
              · have k2 := rd_len _ _ _ _ h2
                have H2 := Lib.hid h2
                obtain ⟨a2, cc2, rfl, hr2, _, _, _⟩ := o2.form
                have hr1b := hr1.below B2
                have B3 := B1.trans (B2.mono B1.size)
                clear h2 I3 o1 o2 hr1 B1 B2
                cases r2 with
                | nil =>
                  have hR : RR = none := by rw [HNE2.out, H2.out]
                  have hl2 := B8_list []
                  have HR := Lib.hid hR
                  clear hR k2
                  go_wp2
                  go_ret3
                  exact ⟨.inl ⟨HR.out, rfl⟩, B3⟩
                | cons c2 m =>
                  have hsz2 : (B8 (c2 :: m)).size = m.length + 1 := rfl
                  have hl2 := B8_list (c2 :: m)
                  have hdr2 := B8_drop (c2 :: m) 1
                  have hg2 := B8_get (c2 :: m) 0
                  rw [List.length_cons] at hdr2 k2
                  rw [List.drop_succ_cons, List.drop_zero] at hdr2
                  rw [show (c2 :: m).getD 0 0 = c2 from rfl] at hg2
                  obtain ⟨S2, hS2⟩ : ∃ S2, S2 = B8 (c2 :: m) := ⟨_, rfl⟩
                  rw [← hS2] at hsz2 hl2 hdr2 hg2 ⊢
                  obtain ⟨C2, hC2⟩ : ∃ C2 : Nat, C2 = c2.toNat := ⟨_, rfl⟩
                  rw [← hC2] at hg2
                  have HC2 := Lib.hid hC2
                  have hL2 : L2.length ≤ 400 := by omega
                  have hm1 : (1 : Int) ≤ (m.length : Int) + 1 := by omega
                  clear hS2 hC2 k2
                  by_cases h41 : C2 = 41
                  rotate_left
                  · have hc2 : ¬ c2 = 41 := fun e => h41 (by rw [HC2.out, e]; rfl)
                    have hR : RR = none := by rw [HNE2.out, H2.out]; exact if_neg hc2
                    have hd2 : ((C2 : Int) != 41) = true := by simp; omega
                    have HR := Lib.hid hR
                    clear hR hc2
                    go_wp2
                    go_ret3
                    exact ⟨.inl ⟨HR.out, rfl⟩, B3⟩
                  subst h41
                  have hc2 : c2 = 41 := UInt8.toNat_inj.1 HC2.out.symm
                  have hR : RR = some (L1 ++ L2, m) := by rw [HNE2.out, H2.out]; exact if_pos hc2
                  have HR := Lib.hid hR
                  have hlit := (Own.lit0 w2 w2.heap.size (Nat.le_refl _)).below (Below.refl _ _).drew
                  have b1 := ((Below.refl w2.heap.size w2).alloc (Nat.le_refl _) (.cells #[] 3)).drew
                  clear hR hc2
                  go_wp2_with fail
                  go_region_law (first
                    | (refine step_all rfl (.tmp 60) (.tmp 61) rfl w2.heap.size (.slice (some ⟨w2.heap.size, 0, none⟩) 0 0) [] rfl hlit b1.size a1 L1 _ _ rfl rfl (hr1b.below b1) (by omega) (by simp) ?_; intro u1 x1 p1 q1; have D1 := b1.grown q1 b1.size (fun q hq => by simp [Value.ownBlock] at hq; omega))
                    | (refine step_all rfl (.tmp 62) (.tmp 63) rfl w2.heap.size u1 L1 rfl p1 D1.size a2 L2 _ _ rfl rfl (hr2.below D1) (by omega) (by omega) ?_; intro u2 x2 p2 q2; have D2 := Below.grownB D1 p1 q2 D1.size (Nat.le_refl _)))
                  all_goals
                    have D3 := B3.trans (D2.mono B3.size)
                    go_wp2
                    go_ret3
                    exact ⟨.inr ⟨_, _, _, HR.out, rfl, p2.mono B3.size⟩, D3⟩
        · have hd46 : ((C : Int) == 46) = false := by simp; omega
          have hd40 : ((C : Int) == 40) = false := by simp; omega
          have hR0 : rd (g + 1) (c :: t) = if (rdn 0 0 (c :: t)).2.1 = 0 then none else some ([((rdn 0 0 (c :: t)).1 : Int)], (rdn 0 0 (c :: t)).2.2) := by
            rw [rd, if_neg (fun e => h46 (by rw [HC.out, e]; rfl)), if_neg (fun e => h40 (by rw [HC.out, e]; rfl))]
          have hgk := fun k (hk : k < t.length + 1) => B8_get (c :: t) k hk
          have hdk := fun k => B8_drop (c :: t) k
          have hgk2 : ∀ k, k < t.length + 1 → ∀ h : k < S.size, (S[k]'h).toNat = ((c :: t).getD k 0).toNat := by rw [HS.out]; exact fun k _ h => B8_get (c :: t) k h
          clear hgk
          have hgk := hgk2
          clear hgk2
          rw [← HS.out] at hdk
          obtain ⟨s, hs⟩ : ∃ s, s = c :: t := ⟨_, rfl⟩
          rw [← hs] at hR0 hgk hdk hl ⊢
          have hsl : t.length + 1 = s.length := by rw [hs]; rfl
          rw [hsl] at hgk hsz h400 hdr
          obtain ⟨N, hN⟩ : ∃ N, N = s.length := ⟨_, rfl⟩
          rw [← hN] at hgk hdk hsz h400 hdr
          have HN := Lib.hid hN
          obtain ⟨RR, hRR⟩ : ∃ RR, RR = rd (g + 1) s := ⟨_, rfl⟩
          rw [← hRR] at hR0 ⊢
          have HR0 := Lib.hid hR0
          have HGK := Lib.hid hgk
          have HDK := Lib.hid hdk
          have hN0 : 0 < N := by omega
          have hne : (s == ([] : List UInt8)) = false := by rw [hs]; rfl
          have hl' : (S.toList == ([] : List UInt8)) = false := by rw [hl]; exact hne
          clear hR0 hRR hN hsl hgk hdk hdr ih hl hs hne ht1 HC h46 h40
          go_enter Tryz.func39, Tryz.ntmps39
          go_wp2
          go_loop [11, 12] (fun nv kv => ∃ n k : Nat, k ≤ N ∧ nv = .int .i64 (n : Int) ∧ kv = .int .i64 (k : Int) ∧ n ≤ 9999 ∧ Hid (rdn 0 0 s = rdn n k (s.drop k))) (fun _ kv => N - (intOf kv).toNat)
          case atStart => exact ⟨0, 0, by omega, rfl, rfl, by omega, rfl⟩
          case round =>
            obtain ⟨n, k, hk, rfl, rfl, hn9, hrn⟩ := hrel
            have hstop : rdn n k (s.drop k) = (n, k, s.drop k) → (k = 0 → RR = none) ∧ (k ≠ 0 → RR = some ([(n : Int)], s.drop k)) := fun h => by
              have h1 := hrn.out.trans h
              have h2 := HR0.out
              rw [h1] at h2
              exact ⟨fun e => by rw [h2]; exact if_pos e, fun e => by rw [h2]; exact if_neg e⟩
            have HSTOP := Lib.hid hstop
            clear hstop
            have hdk := HDK.out k
            by_cases hlt : k < N
            · have hk1 : (k : Int) < (N : Int) := by omega
              have hgk := HGK.out k hlt
              have hdrop : s.drop k = s.getD k 0 :: s.drop (k + 1) := by
                have h : k < s.length := by have := HN.out; omega
                rw [List.drop_eq_getElem_cons h]; simp [List.getD, h]
              obtain ⟨x, hx⟩ : ∃ x, x = s.getD k 0 := ⟨_, rfl⟩
              rw [← hx] at hgk hdrop
              obtain ⟨D, hD⟩ : ∃ D : Nat, D = x.toNat := ⟨_, rfl⟩
              have hD256 : D < 256 := by rw [hD]; exact UInt8.toNat_lt x
              rw [← hD] at hgk
              have hisD : isD x = decide (48 ≤ D ∧ D ≤ 57) := by unfold isD; rw [hD]
              have hstep : rdn n k (s.drop k) = if (48 ≤ D ∧ D ≤ 57) ∧ n < 1000 then rdn (10 * n + (D - 48)) (k + 1) (s.drop (k + 1)) else (n, k, s.drop k) := by
                rw [hdrop, rdn, hisD, ← hD]
                simp
              have HST := Lib.hid hstep
              clear hstep hisD hD hx hdrop
              by_cases hd : (48 ≤ D ∧ D ≤ 57) ∧ n < 1000
              · have hs := HST.out
                rw [if_pos hd] at hs
                have hs2 := hrn.out.trans hs
                have HS2 := Lib.hid hs2
                have d1 : (48 : Int) ≤ (D : Int) := by omega
                have d2 : (D : Int) ≤ 57 := by omega
                have d3 : (n : Int) < 1000 := by omega
                have hw : IntKind.u8.wrap ((D : Int) - 48) = (D : Int) - 48 := by simp [IntKind.wrap, IntKind.signed, IntKind.bits]; omega
                clear hs hs2 HSTOP HST hrn hd
                go_wp2
                go_round
                case rel => exact ⟨10 * n + (D - 48), k + 1, by omega, by go_num, by go_num, by omega, HS2⟩
                case measure => simp [intOf]; omega
              · have hst := HST.out
                rw [if_neg hd] at hst
                have hcase : ¬ 48 ≤ D ∨ (48 ≤ D ∧ ¬ D ≤ 57) ∨ (48 ≤ D ∧ D ≤ 57 ∧ ¬ n < 1000) := by omega
                have HST2 := Lib.hid hst
                clear hd hst
                rcases hcase with e1 | ⟨e1, e2⟩ | ⟨e1, e2, e3⟩
                · have d1 : ¬ (48 : Int) ≤ (D : Int) := by omega
                  have hs := HSTOP.out HST2.out
                  by_cases hk0 : k = 0
                  · have HR := Lib.hid (hs.1 hk0)
                    have hkk : ((k : Int) == 0) = true := by simp [hk0]
                    clear hs HSTOP HST hrn HR0 HGK hk0 hdk
                    go_wp2
                    go_ret3
                    exact ⟨.inl ⟨HR.out, rfl⟩, Below.refl _ _⟩
                  · have HR := Lib.hid (hs.2 hk0)
                    have hkk : ((k : Int) == 0) = false := by simp; omega
                    have hkN : (k : Int) ≤ (N : Int) := by omega
                    have ho := (Own.lit w w.heap.size (Nat.le_refl _) (n : Int)).below (Below.refl _ _).drew
                    have hB := ((Below.refl w.heap.size w).alloc (Nat.le_refl _) (.cells #[.int .i64 (n : Int)] 3)).drew
                    clear hs HSTOP HST hrn HR0 HGK
                    go_wp2_with fail
                    go_region_law (fail)
                    all_goals
                      go_wp2
                      go_ret3
                      exact ⟨.inr ⟨.slice (some ⟨w.heap.size, 0, none⟩) 1 1, [(n : Int)], s.drop k, HR.out, by rfl, ho⟩, hB⟩
                · have d1 : (48 : Int) ≤ (D : Int) := by omega
                  have d2 : ¬ (D : Int) ≤ 57 := by omega
                  have hs := HSTOP.out HST2.out
                  by_cases hk0 : k = 0
                  · have HR := Lib.hid (hs.1 hk0)
                    have hkk : ((k : Int) == 0) = true := by simp [hk0]
                    clear hs HSTOP HST hrn HR0 HGK hk0 hdk
                    go_wp2
                    go_ret3
                    exact ⟨.inl ⟨HR.out, rfl⟩, Below.refl _ _⟩
                  · have HR := Lib.hid (hs.2 hk0)
                    have hkk : ((k : Int) == 0) = false := by simp; omega
                    have hkN : (k : Int) ≤ (N : Int) := by omega
                    have ho := (Own.lit w w.heap.size (Nat.le_refl _) (n : Int)).below (Below.refl _ _).drew
                    have hB := ((Below.refl w.heap.size w).alloc (Nat.le_refl _) (.cells #[.int .i64 (n : Int)] 3)).drew
                    clear hs HSTOP HST hrn HR0 HGK
                    go_wp2_with fail
                    go_region_law (fail)
                    all_goals
                      go_wp2
                      go_ret3
                      exact ⟨.inr ⟨.slice (some ⟨w.heap.size, 0, none⟩) 1 1, [(n : Int)], s.drop k, HR.out, by rfl, ho⟩, hB⟩
                · have d1 : (48 : Int) ≤ (D : Int) := by omega
                  have d2 : (D : Int) ≤ 57 := by omega
                  have d3 : ¬ (n : Int) < 1000 := by omega
                  have hs := HSTOP.out HST2.out
                  by_cases hk0 : k = 0
                  · have HR := Lib.hid (hs.1 hk0)
                    have hkk : ((k : Int) == 0) = true := by simp [hk0]
                    clear hs HSTOP HST hrn HR0 HGK hk0 hdk
                    go_wp2
                    go_ret3
                    exact ⟨.inl ⟨HR.out, rfl⟩, Below.refl _ _⟩
                  · have HR := Lib.hid (hs.2 hk0)
                    have hkk : ((k : Int) == 0) = false := by simp; omega
                    have hkN : (k : Int) ≤ (N : Int) := by omega
                    have ho := (Own.lit w w.heap.size (Nat.le_refl _) (n : Int)).below (Below.refl _ _).drew
                    have hB := ((Below.refl w.heap.size w).alloc (Nat.le_refl _) (.cells #[.int .i64 (n : Int)] 3)).drew
                    clear hs HSTOP HST hrn HR0 HGK
                    go_wp2_with fail
                    go_region_law (fail)
                    all_goals
                      go_wp2
                      go_ret3
                      exact ⟨.inr ⟨.slice (some ⟨w.heap.size, 0, none⟩) 1 1, [(n : Int)], s.drop k, HR.out, by rfl, ho⟩, hB⟩
            · obtain rfl : k = N := by omega
              have hnil : s.drop k = [] := List.drop_eq_nil_of_le (by have := HN.out; omega)
              have HST2 : Hid (rdn n k (s.drop k) = (n, k, s.drop k)) := by show rdn n k (s.drop k) = (n, k, s.drop k); rw [hnil]; rfl
              have HST := HST2
              clear hdk
              have hs := HSTOP.out HST2.out
              by_cases hk0 : k = 0
              · have HR := Lib.hid (hs.1 hk0)
                have hkk : ((k : Int) == 0) = true := by simp [hk0]
                clear hs HSTOP HST hrn HR0 HGK hk0
                go_wp2
                go_ret3
                exact ⟨.inl ⟨HR.out, rfl⟩, Below.refl _ _⟩
              · rw [hnil] at hs
                have HR := Lib.hid (hs.2 hk0)
                have hkk : ((k : Int) == 0) = false := by simp; omega
                have hkN : (k : Int) ≤ (k : Int) := by omega
                have ho := (Own.lit w w.heap.size (Nat.le_refl _) (n : Int)).below (Below.refl _ _).drew
                have hB := ((Below.refl w.heap.size w).alloc (Nat.le_refl _) (.cells #[.int .i64 (n : Int)] 3)).drew
                clear hs HSTOP HST hrn HR0 HGK
                go_wp2_with fail
                go_region_law (fail)
                all_goals
                  go_wp2
                  go_ret3
                  exact ⟨.inr ⟨.slice (some ⟨w.heap.size, 0, none⟩) 1 1, [(n : Int)], [], HR.out, by rfl, ho⟩, hB⟩
end Go.Proofs.YtoaiaindcmihjaaGreatDoor
