/-
  impl.pushIn, impl.KickAll.
-/
import Derived.Test.YtlkhobofbkoliaaQP
import Derived.Test.YtlkhobofbkoliaaPK
import Derived.ScopeJumps
import Derived.WalkMore
namespace Go.Proofs.Ytlkhobofbkoliaa
open Go.RowKit

def PIPost (M : Nat) (ka : Nat → Nat) (w : World) (R : Option (List Int × Nat)) (e : Ending) (w' : World) : Prop :=
  (match R with
   | some r => ∃ g, e = .returned (.tuple #[.slice (some ⟨g, 0, none⟩) M M, .int .i64 (r.2 : Nat), .bool true]) ∧ PT w' w.heap.size g M M r.1 ka
   | none => e = .returned (.tuple #[.slice none 0 0, .int .i64 0, .bool false])) ∧ Below w.heap.size w w'

set_option maxHeartbeats 4000000 in
set_option maxRecDepth 100000 in
theorem pushIn_any (M : Nat) (l : List (Int × Int)) (hP : Prs M l) (ka : Nat → Nat) (b0 base key g cap : Nat) (t : List Int) (w : World) (hT : PT w base g M cap t ka) (ht : Tbl M l t) (hK : KF w b0 l l.length ka) (hk : key < l.length) :
    Calls Try.prog 97 #[.slice (some ⟨g, 0, none⟩) M cap, .pointer (some ⟨ka key, 0, none⟩)] w (PIPost M ka w (kk l 30 key (hA l key) t)) := by
  have hM := hP.le
  have hM1 := hP.pos
  have hlen := hP.len
  obtain ⟨R, hR⟩ : ∃ R, R = kk l 30 key (hA l key) t := ⟨_, rfl⟩
  rw [← hR]
  have hstart : KkAt l R 0 key (hA l key) t := by rw [hR]; exact KkAt.start l key _ t
  have HS := Lib.hid hstart
  clear hR hstart
  go_enter Try.func97, Try.ntmps97
  go_wp2
  refine wp_scope_jumps 0 (fun a' w' => ∃ (n k q g2 : Nat) (T : List Int) (u10 u11 u12 u13 u14 u15 u16 u17 u18 u19 u20 u21 u22 u23 u24 u25 u26 u27 u28 u29 u30 u31 u32 u33 u34 u35 u36 u37 u38 : Value), a' = { tmps := #[.slice (some ⟨g, 0, none⟩) M cap, .pointer (some ⟨ka k, 0, none⟩), undef, undef, .slice none 0 0, .int .i64 0, .bool false, .slice (some ⟨g2, 0, none⟩) M M, .int .i64 n, .int .i64 q, u10, u11, u12, u13, u14, u15, u16, u17, u18, u19, u20, u21, u22, u23, u24, u25, u26, u27, u28, u29, u30, u31, u32, u33, u34, u35, u36, u37, u38], defers := [] } ∧
      n ≤ 30 ∧ k < l.length ∧ q < M ∧ (q = hA l k ∨ q = hB l k) ∧ KkAt l R n k q T ∧ Tbl M l T ∧ PT w' w.heap.size g2 M M T ka ∧ Below w.heap.size w w') (fun a' _ => 30 - (intOf (a'.tmps.getD 8 undef)).toNat) rfl ?_ ?_
  · go_wp2_with fail
    refine (copyOf_any base g M cap t ka _ hT (by omega)).mono ?_
    rintro e w' ⟨rfl, hT2, hb⟩
    obtain ⟨g2, hg2⟩ : ∃ g2, g2 = w.heap.size := ⟨_, rfl⟩
    have hT2 : PT w' w.heap.size g2 M M t ka := by rw [hg2]; exact hT2
    rw [← hg2]
    obtain ⟨_, kc2, kc3⟩ := ((hK key hk).2).cells
    have hol := (hK key hk).2.lt
    have kc2' : w'.cell? ⟨ka key, 1, none⟩ = some (.int .i64 (pA l key)) := (hb.cell (by exact hol)).trans kc2
    rw [hP.cA hk] at kc2'
    obtain ⟨q, hq0⟩ : ∃ q, q = hA l key := ⟨_, rfl⟩
    have hq : q < M := by rw [hq0]; exact hP.lA hk
    have hq2 : q = hA l key ∨ q = hB l key := .inl hq0
    have HS0 := HS.out
    rw [← hq0] at kc2' HS0
    have HQ2 := Lib.hid hq2
    have HKS := Lib.hid HS0
    clear hq2 HS HS0 hq0 hg2 kc2 kc3
    have hsz := hb.size
    have hc := hT2.get hq
    have hfz := hT2.frozen q
    by_cases hneg : t.getD q 0 < 0
    · rw [ptr_neg ka hneg] at hc
      have hst := hT2.store q key
      rw [ptr_nat] at hst
      have hb3 := hb.setCell (p := ⟨g2, q, none⟩) hT2.block.1 (.pointer (some ⟨ka key, 0, none⟩))
      have hdone := HKS.out.done (by omega) hneg
      have HD := Lib.hid hdone
      clear hdone hneg
      go_wp2
      go_step3
      go_wp2
      simp only [Exit.jump]
      go_ret3
      refine ⟨?_, hb3⟩
      rw [HD.out]
      exact ⟨g2, rfl, hst⟩
    · obtain ⟨o, ho1, ho2, ho3⟩ := ht.pos hq hneg
      rw [ho2, ptr_nat] at hc
      have hst := hT2.store q key
      rw [ptr_nat] at hst
      have hb3 := hb.setCell (p := ⟨g2, q, none⟩) hT2.block.1 (.pointer (some ⟨ka key, 0, none⟩))
      have hstep := HKS.out.step (by omega) ho2
      have hTb2 := ht.put hq hk HQ2.out
      obtain ⟨_, kc2, kc3⟩ := ((hK o ho1).2).cells
      have hol := (hK o ho1).2.lt
      have kc2' : w'.cell? ⟨ka o, 1, none⟩ = some (.int .i64 (pA l o)) := (hb.cell (by exact hol)).trans kc2
      have kc3' : w'.cell? ⟨ka o, 2, none⟩ = some (.int .i64 (pB l o)) := (hb.cell (by exact hol)).trans kc3
      obtain ⟨x, hx⟩ : ∃ x, x = pA l o := ⟨_, rfl⟩
      obtain ⟨y, hy⟩ : ∃ y, y = pB l o := ⟨_, rfl⟩
      rw [← hx] at kc2'
      rw [← hy] at kc3'
      have hgo : ka o ≠ g2 := by have := hT2.block; omega
      have HX := Lib.hid hx
      have HY := Lib.hid hy
      obtain ⟨q2, hq2'⟩ : ∃ q2, q2 = bes l o q := ⟨_, rfl⟩
      have hbx : (if (q : Int) = x then y else x) = (q2 : Int) := by
        rw [hq2', HX.out, HY.out, hP.cA ho1, hP.cB ho1]
        unfold bes
        by_cases e : q = hA l o
        · rw [if_pos e, if_pos (by omega)]
        · rw [if_neg e, if_neg (by omega)]
      have hbes := bes_home l o q
      rw [← hq2'] at hstep hbes
      have lb : q2 < M := by rcases hbes with e | e <;> rw [e]; exact hP.lA ho1; exact hP.lB ho1
      have HST := Lib.hid hstep
      have HBX := Lib.hid hbx
      have HBE := Lib.hid hbes
      clear hx hy hstep kc2 kc3 ho2 hneg hbx hbes hq2'
      go_wp2
      go_step3
      go_wp2_with fail
      refine (beside_any x y q _).mono ?_
      rw [HBX.out]
      rintro e w3 ⟨rfl, hb4⟩
      have hT4 := hst.below hb4
      have hb5 := hb3.trans (hb4.mono hb3.size)
      go_wp2
      go_step3
      refine ⟨rfl, 1, o, q2, g2, t.set q key, _, _, _, _, _, _, _, _, _, _, _, _, _, _, _, _, _, _, _, _, _, _, _, _, _, _, _, _, _, rfl, by omega, ho1, lb, HBE.out, HST.out, hTb2, hT4, hb5⟩
  · rintro a' w' ⟨n, k, q, g2, T, u10, u11, u12, u13, u14, u15, u16, u17, u18, u19, u20, u21, u22, u23, u24, u25, u26, u27, u28, u29, u30, u31, u32, u33, u34, u35, u36, u37, u38, rfl, hn, hkl, hq, hq2, hS, hTb, hT2, hb⟩
    have HQ2 := Lib.hid hq2
    have HKS := Lib.hid hS
    clear hq2 hS HS
    have hsz := hb.size
    by_cases hlt : n = 30
    · subst hlt
      have hstop := HKS.out.stop
      have HD := Lib.hid hstop
      clear hstop
      go_wp2
      simp only [Exit.jump]
      go_ret3
      refine ⟨?_, hb⟩
      rw [HD.out]
      exact rfl
    · have hne : ((n : Int) == 30) = false := by simp; omega
      have hc := hT2.get hq
      have hfz := hT2.frozen q
      by_cases hneg : T.getD q 0 < 0
      · rw [ptr_neg ka hneg] at hc
        have hst := hT2.store q k
        rw [ptr_nat] at hst
        have hb3 := hb.setCell (p := ⟨g2, q, none⟩) hT2.block.1 (.pointer (some ⟨ka k, 0, none⟩))
        have hdone := HKS.out.done (by omega) hneg
        have HD := Lib.hid hdone
        clear hdone hneg
        go_wp2
        simp only [Exit.jump]
        go_ret3
        refine ⟨?_, hb3⟩
        rw [HD.out]
        exact ⟨g2, rfl, hst⟩
      · obtain ⟨o, ho1, ho2, ho3⟩ := hTb.pos hq hneg
        rw [ho2, ptr_nat] at hc
        have hst := hT2.store q k
        rw [ptr_nat] at hst
        have hb3 := hb.setCell (p := ⟨g2, q, none⟩) hT2.block.1 (.pointer (some ⟨ka k, 0, none⟩))
        have hstep := HKS.out.step (by omega) ho2
        have hTb2 := hTb.put hq hkl HQ2.out
        obtain ⟨_, kc2, kc3⟩ := ((hK o ho1).2).cells
        have hol := (hK o ho1).2.lt
        have kc2' : w'.cell? ⟨ka o, 1, none⟩ = some (.int .i64 (pA l o)) := (hb.cell (by exact hol)).trans kc2
        have kc3' : w'.cell? ⟨ka o, 2, none⟩ = some (.int .i64 (pB l o)) := (hb.cell (by exact hol)).trans kc3
        obtain ⟨x, hx⟩ : ∃ x, x = pA l o := ⟨_, rfl⟩
        obtain ⟨y, hy⟩ : ∃ y, y = pB l o := ⟨_, rfl⟩
        rw [← hx] at kc2'
        rw [← hy] at kc3'
        have hgo : ka o ≠ g2 := by have := hT2.block; omega
        have HX := Lib.hid hx
        have HY := Lib.hid hy
        obtain ⟨q2, hq2'⟩ : ∃ q2, q2 = bes l o q := ⟨_, rfl⟩
        have hbx : (if (q : Int) = x then y else x) = (q2 : Int) := by
          rw [hq2', HX.out, HY.out, hP.cA ho1, hP.cB ho1]
          unfold bes
          by_cases e : q = hA l o
          · rw [if_pos e, if_pos (by omega)]
          · rw [if_neg e, if_neg (by omega)]
        have hbes := bes_home l o q
        rw [← hq2'] at hstep hbes
        have lb : q2 < M := by rcases hbes with e | e <;> rw [e]; exact hP.lA ho1; exact hP.lB ho1
        have HST := Lib.hid hstep
        have HBX := Lib.hid hbx
        have HBE := Lib.hid hbes
        clear hx hy hstep kc2 kc3 ho2 hneg hbx hbes hq2'
        go_wp2_with fail
        refine (beside_any x y q _).mono ?_
        rw [HBX.out]
        rintro e w3 ⟨rfl, hb4⟩
        have hT4 := hst.below hb4
        have hb5 := hb3.trans (hb4.mono hb3.size)
        go_wp2
        go_step3
        refine ⟨rfl, ⟨n + 1, o, q2, g2, T.set q k, _, _, _, _, _, _, _, _, _, _, _, _, _, _, _, _, _, _, _, _, _, _, _, _, _, _, _, _, _, rfl, by omega, ho1, lb, HBE.out, HST.out, hTb2, hT4, hb5⟩, ?_⟩
        simp [intOf]
        omega

set_option maxHeartbeats 4000000 in
set_option maxRecDepth 100000 in
theorem implKickAll_yes (M : Nat) (a : Option Addr) (l : List (Int × Int)) (cap : Nat) (w : World) (hr : ReadsP w a l) (hP : Prs M l) (R : Option (List Int × Nat)) (hR : R = kall M l l.length) :
    Calls Try.prog 46 #[.int .i64 M, .slice a l.length cap] w (KAPost w R) := by
  have hM := hP.le
  have hM1 := hP.pos
  have hlen := hP.len
  have HV := Lib.hid hP.VP
  have HR := Lib.hid hR
  clear hR
  have hmk := run_make_row' (P := Try.prog) 92 98 (.pointer none) 8 Try.underlying92 infoPtr rfl .i64 .i64 M (by omega) (by omega)
  go_enter Try.func46, Try.ntmps46
  go_wp2_with fail
  refine (implVP_any _ _ _ _ _ hr).mono ?_
  rintro e w0 ⟨rfl, hb0⟩
  rw [HV.out]
  have hs0 := hb0.size
  have hr0 := (hr.below hb0).below ((Below.refl _ _).alloc (Nat.le_refl _) (.cells (madeCells #[.pointer none] M) 98))
  have hZ := fun ka => PT.zero w0 w.heap.size M ka hs0 (by omega)
  have hbz := hb0.alloc hs0 (.cells (madeCells #[.pointer none] M) 98)
  have HZ := Lib.hid hZ
  clear hZ
  go_wp2_with fail
  refine (keysOf_any _ l _ _ hr0 hlen).mono ?_
  rintro e w1 ⟨ka, gk, rfl, hK, hS, hb1⟩
  have hT := (HZ.out ka).below hb1
  have hb : Below w.heap.size w w1 := hbz.trans (hb1.mono hbz.size)
  replace hK := KF.mono hK hbz.size
  obtain ⟨g0, hg0⟩ : ∃ g0, g0 = w0.heap.size := ⟨_, rfl⟩
  rw [← hg0] at hT ⊢
  clear hg0 HZ hb1 hbz hr0 hmk
  go_wp2
  go_loopw [7, 8, 23] (fun tv sv iv wr => ∃ (i n g c : Nat) (T : List Int), i ≤ l.length ∧ iv = .int .i64 i ∧ sv = .int .i64 n ∧ tv = .slice (some ⟨g, 0, none⟩) M c ∧ Hid (kall M l i = some (T, n)) ∧ PT wr w.heap.size g M c T ka ∧ KF wr w.heap.size l l.length ka ∧ KS wr (some ⟨gk, 0, none⟩) 0 l.length ka ∧ Below w.heap.size w wr) (fun _ _ iv _ => l.length - (intOf iv).toNat)
  case atStart => exact ⟨0, 0, g0, M, _, Nat.zero_le _, rfl, rfl, rfl, rfl, hT, hK, hS, hb⟩
  case round =>
    clear hT hb hK hS
    obtain ⟨i, n, g, c, T, hi, rfl, rfl, rfl, hKa, hT, hK, hS, hb⟩ := hrel
    have hsz := hb.size
    obtain ⟨hTb, hnb⟩ := kall_tbl hP i hi T n hKa.out
    by_cases hlt : i < l.length
    · have hc : wr.cell? ⟨gk, i, none⟩ = some (.pointer (some ⟨ka i, 0, none⟩)) := by
        rcases hS with h | ⟨q, hq, _, hc⟩
        · omega
        · cases hq
          have := hc i hlt
          simpa using this
      go_wp2_with fail
      refine (pushIn_any M l hP ka w.heap.size w.heap.size i g c T _ hT hTb hK hlt).mono ?_
      rintro e w2 ⟨hR2, hb2⟩
      have hb3 := hb.trans (hb2.mono hsz)
      have hK2 := hK.below hb2
      have hS2 := hS.below hb2
      cases hkk : kk l 30 i (hA l i) T with
      | none =>
        rw [hkk] at hR2
        obtain rfl := hR2
        have hno := kall_not (k := i + 1) (by omega) (kall_none hKa.out hkk)
        have HN := Lib.hid hno
        clear hkk hno
        go_wp2
        go_ret3
        rw [HR.out, HN.out]
        exact ⟨rfl, hb3⟩
      | some q =>
        obtain ⟨u, d⟩ := q
        rw [hkk] at hR2
        obtain ⟨g', rfl, hT'⟩ := hR2
        have hd := (kk_tbl hP 30 i (hA l i) T hTb hlt (.inl rfl) _ hkk).2.2
        simp only at hd
        have hsome := kall_some hKa.out hkk
        have HN := Lib.hid hsome
        clear hkk hsome
        go_wp2
        go_roundw
        case rel => exact ⟨i + 1, n + d, g', M, u, by omega, by go_num, by go_num, rfl, HN, PT.mono hT' hsz, hK2, hS2, hb3⟩
        case measure => simp [intOf]; omega
    · obtain rfl : i = l.length := by omega
      go_wp2_with fail
      refine (numbersOf_any w.heap.size g M c w.heap.size l.length T ka l _ hT hK (by omega) (fun s hs => ?_)).mono ?_
      · rcases hTb.key s hs with h | ⟨k, h1, h2, _⟩
        · exact .inl h
        · exact .inr ⟨k, h1, h2⟩
      rintro e w3 ⟨v, rfl, ho, hb3⟩
      go_wp2
      go_ret3
      rw [HR.out, hKa.out]
      exact ⟨_, rfl, ho.mono hsz, hb.trans (hb3.mono hsz)⟩

theorem implKickAll_any (m : Int) (a : Option Addr) (l : List (Int × Int)) (cap : Nat) (w : World) (hm : In64 m) (hr : ReadsP w a l) (_hl : l.length ≤ 1048586) :
    Calls Try.prog 46 #[.int .i64 m, .slice a l.length cap] w fun e w' => ∃ v, e = .returned (.tuple #[v, .int .i64 (KA m l).2.1, .bool (KA m l).2.2]) ∧ Own w' w.heap.size v (KA m l).1 ∧ Below w.heap.size w w' := by
  by_cases hv : VP m l = true
  · obtain ⟨M, rfl, hP⟩ := Prs.of_VP hv
    exact (implKickAll_yes M a l cap w hr hP _ rfl).mono fun e w' h => h.any (KA_yes hv)
  · have hv' : VP m l = false := by simpa using hv
    have e : KA m l = ([], -1, false) := by unfold KA; rw [if_neg hv]
    rw [e]
    clear hv e
    have HV := Lib.hid hv'
    clear hv'
    go_enter Try.func46, Try.ntmps46
    go_wp2_with fail
    refine (implVP_any _ _ _ _ _ hr).mono ?_
    rintro e w0 ⟨rfl, hb0⟩
    rw [HV.out]
    go_wp2
    go_ret3
    exact ⟨_, rfl, Own.nil _ _, hb0⟩
end Go.Proofs.Ytlkhobofbkoliaa
