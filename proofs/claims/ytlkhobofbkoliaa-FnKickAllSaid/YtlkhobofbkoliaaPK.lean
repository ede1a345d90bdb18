/-
  spec.kick, spec.KickAll.
-/
import Derived.Test.YtlkhobofbkoliaaPP
import Derived.Test.YtlkhobofbkoliaaQR
import Derived.Deep.LoopGhost
namespace Go.Proofs.Ytlkhobofbkoliaa
open Go.RowKit

def KPost (M : Nat) (w : World) (R : Option (List Int × Nat)) (e : Ending) (w' : World) : Prop :=
  (match R with
   | some r => ∃ g cap, e = .returned (.tuple #[.slice (some ⟨g, 0, none⟩) M cap, .int .i64 (r.2 : Nat), .bool true]) ∧ Tab w' w.heap.size g M cap r.1
   | none => e = .returned (.tuple #[.slice none 0 0, .int .i64 30, .bool false])) ∧ Below w.heap.size w w'

set_option maxHeartbeats 4000000 in
set_option maxRecDepth 100000 in
theorem kick_any (M : Nat) (l : List (Int × Int)) (hP : Prs M l) (base : Nat) (a : Option Addr) (capl : Nat) (key g cap : Nat) (t : List Int) (w : World) (hr : ReadsP w a l) (hT : Tab w base g M cap t) (ht : Tbl M l t) (hk : key < l.length) :
    Calls Try.prog 98 #[.int .i64 M, .slice a l.length capl, .slice (some ⟨g, 0, none⟩) M cap, .int .i64 key] w (KPost M w (kk l 30 key (hA l key) t)) := by
  have hM := hP.le
  have hM1 := hP.pos
  have hlen := hP.len
  have htl := hT.len
  have HTL := Lib.hid htl
  have hgl := hT.block
  clear htl
  obtain ⟨b, off, x, y, rfl, hbb, hcx, hcy, hx, hy⟩ := hr.get hk
  have fx := hP.cA hk
  have lx := hP.lA hk
  obtain ⟨p, hp⟩ : ∃ p, p = hA l key := ⟨_, rfl⟩
  rw [hx.out, ← hp] at fx
  rw [← hp] at lx ⊢
  have HP := Lib.hid hp
  clear hp hx hy
  subst fx
  obtain ⟨R, hR⟩ : ∃ R, R = kk l 30 key p t := ⟨_, rfl⟩
  rw [← hR]
  have hstart : KkAt l R 0 key p t := by rw [hR]; exact KkAt.start l key p t
  have HS := Lib.hid hstart
  clear hR hstart
  go_enter Try.func98, Try.ntmps98
  go_wp2_with (at_builtin; refine dup_int rfl _ _ rfl (some ⟨g, 0, none⟩) t M cap HTL.out rfl rfl hT.reads (by omega) (by omega) ?_)
  intro v' w2 ho2 hb2
  obtain ⟨g2, cap2, rfl, hT2⟩ := ho2.tab (by rw [HTL.out]; omega)
  rw [HTL.out] at hT2 ⊢
  have c1 : w2.cell? ⟨b, off + key * 2, none⟩ = some (.int .i64 p) := (hb2.cell (by exact hbb)).trans hcx
  clear ho2 hcx hcy
  go_wp2
  go_loopw [3, 12, 13] (fun kv av nv wr => ∃ (n k q : Nat) (T : List Int), n ≤ 30 ∧ nv = .int .i64 ((n : Int) + 1) ∧ kv = .int .i64 k ∧ av = .int .i64 q ∧ Hid (KkAt l R n k q T) ∧ Tbl M l T ∧ k < l.length ∧ q < M ∧ Hid (q = hA l k ∨ q = hB l k) ∧ Tab wr w.heap.size g2 M cap2 T ∧ Below w.heap.size w wr) (fun _ _ nv _ => 31 - (intOf nv).toNat)
  case atStart => exact ⟨0, key, p, t, by omega, rfl, rfl, rfl, HS.out, ht, hk, lx, .inl HP.out, hT2, hb2⟩
  case round =>
    clear hT2 hb2 c1
    obtain ⟨n, k, q, T, hn, rfl, rfl, rfl, hS, hTb, hkl, hq, hq2, hT, hb⟩ := hrel
    have hsz := hb.size
    by_cases hlt : n < 30
    · obtain ⟨o, hco, ho⟩ := hT.get hq
      have hfz := hT.frozen q
      have hst := hT.store q k
      have hg2 := hT.block
      have hb3 := hb.setCell (p := ⟨g2, q, none⟩) hT.block.1 (.int .i64 k)
      by_cases hneg : o < 0
      · have hdone := hS.out.done hlt (by rw [ho.out]; exact hneg)
        have HD := Lib.hid hdone
        clear hdone
        go_wp2
        refine bodyPost_ret (v := .tuple #[.slice (some ⟨g2, 0, none⟩) M cap2, .int .i64 ((n + 1 : Nat) : Int), .bool true]) (by simp [results, Try.results98, go_sem]) rfl ⟨?_, hb3⟩
        rw [HD.out]
        exact ⟨g2, cap2, rfl, hst⟩
      · obtain ⟨o', ho1, ho2, ho3⟩ := hTb.pos hq (by rw [ho.out]; exact hneg)
        rw [ho.out] at ho2
        subst ho2
        have hstep := hS.out.step hlt ho.out
        have hTb2 := hTb.put hq hkl hq2.out
        have hbes := bes_home l o' q
        have hsub := bes_sub ho3
        obtain ⟨b2, off2, x2, y2, e2, hbb2, hcx2, hcy2, hx2, hy2⟩ := hr.get ho1
        cases e2
        have fx := hP.cA ho1
        have fy := hP.cB ho1
        have lx2 := hP.lA ho1
        have ly2 := hP.lB ho1
        rw [hx2.out] at fx
        rw [hy2.out] at fy
        have lb : bes l o' q < M := by rcases hbes with e | e <;> rw [e] <;> assumption
        obtain ⟨q2, hq2'⟩ : ∃ q2, q2 = bes l o' q := ⟨_, rfl⟩
        rw [← hq2'] at hstep hbes hsub lb
        obtain ⟨A, hA'⟩ : ∃ A, A = hA l o' := ⟨_, rfl⟩
        obtain ⟨B, hB'⟩ : ∃ B, B = hB l o' := ⟨_, rfl⟩
        rw [← hA'] at fx lx2 hsub
        rw [← hB'] at fy ly2 hsub
        subst fx fy
        have c1 : wr.cell? ⟨b, off + o' * 2, none⟩ = some (.int .i64 A) := (hb.cell (by exact hbb)).trans hcx2
        have c2 : wr.cell? ⟨b, off + o' * 2 + 1, none⟩ = some (.int .i64 B) := (hb.cell (by exact hbb)).trans hcy2
        have hbg : b ≠ g2 := by omega
        have w1 : IntKind.i64.wrap ((A : Int) + B) = (A : Int) + B := IntWalk.i64_in _ (by omega)
        have w2 : IntKind.i64.wrap ((A : Int) + B - q) = (A : Int) + B - q := IntWalk.i64_in _ (by omega)
        have HST := Lib.hid hstep
        have HBE := Lib.hid hbes
        have HSU := Lib.hid hsub
        clear hstep hbes hsub hq2' hA' hB' ho3 hx2 hy2 hcx2 hcy2 ho hneg
        go_wp2
        go_quiet (fail)
        go_wp2
        go_roundw
        case rel => exact ⟨n + 1, o', q2, _, by omega, by go_num, rfl, by rw [HSU.out], HST, hTb2, ho1, lb, HBE, hst, below_drewN hb3 _⟩
        case measure => simp [intOf]; omega
    · obtain rfl : n = 30 := by omega
      have hstop := hS.out.stop
      have HD := Lib.hid hstop
      clear hstop
      go_wp2
      go_ret3
      refine ⟨?_, hb⟩
      rw [HD.out]
      exact rfl

def KAPost (w : World) (R : Option (List Int × Nat)) (e : Ending) (w' : World) : Prop :=
  match R with
  | some r => ∃ v, e = .returned (.tuple #[v, .int .i64 (r.2 : Nat), .bool true]) ∧ Own w' w.heap.size v r.1 ∧ Below w.heap.size w w'
  | none => e = .returned (.tuple #[.slice none 0 0, .int .i64 (-1), .bool false]) ∧ Below w.heap.size w w'

set_option maxHeartbeats 4000000 in
set_option maxRecDepth 100000 in
theorem specKickAll_yes (M : Nat) (a : Option Addr) (l : List (Int × Int)) (cap : Nat) (w : World) (hr : ReadsP w a l) (hP : Prs M l) (hl : l.length ≤ 1048586) (R : Option (List Int × Nat)) (hR : R = kall M l l.length) :
    Calls Try.prog 47 #[.int .i64 M, .slice a l.length cap] w (KAPost w R) := by
  have hM := hP.le
  have hM1 := hP.pos
  have hlen := hP.len
  have HV := Lib.hid hP.VP
  have HR := Lib.hid hR
  clear hR
  go_enter Try.func47, Try.ntmps47
  go_wp2_with fail
  refine (specvalidPairs_any _ _ _ _ _ hr (by unfold In64; omega) hl).mono ?_
  rintro e w0 ⟨rfl, rfl⟩
  rw [HV.out]
  go_wp2_with fail
  refine (empty_any M (by omega) _).mono ?_
  rintro e w1 ⟨v, rfl, ho, hb1⟩
  obtain ⟨g0, cap0, rfl, hT⟩ := ho.tab (by simp; omega)
  rw [List.length_replicate] at hT ⊢
  clear ho
  go_wp2
  go_loopw [7, 8, 9] (fun tv sv iv wr => ∃ (i n g c : Nat) (T : List Int), i ≤ l.length ∧ iv = .int .i64 i ∧ sv = .int .i64 n ∧ tv = .slice (some ⟨g, 0, none⟩) M c ∧ Hid (kall M l i = some (T, n)) ∧ Tab wr w.heap.size g M c T ∧ Below w.heap.size w wr) (fun _ _ iv _ => l.length - (intOf iv).toNat)
  case atStart => exact ⟨0, 0, g0, cap0, _, Nat.zero_le _, rfl, rfl, rfl, rfl, hT, hb1⟩
  case round =>
    clear hT hb1
    obtain ⟨i, n, g, c, T, hi, rfl, rfl, rfl, hK, hT, hb⟩ := hrel
    have hsz := hb.size
    obtain ⟨hTb, hnb⟩ := kall_tbl hP i hi T n hK.out
    by_cases hlt : i < l.length
    · have hrr := hr.below hb
      go_wp2_with fail
      refine (kick_any M l hP w.heap.size a cap i g c T _ hrr hT hTb hlt).mono ?_
      rintro e w2 ⟨hR2, hb2⟩
      have hb3 := hb.trans (hb2.mono hsz)
      cases hkk : kk l 30 i (hA l i) T with
      | none =>
        rw [hkk] at hR2
        obtain rfl := hR2
        have hno := kall_not (k := i + 1) (by omega) (kall_none hK.out hkk)
        have HN := Lib.hid hno
        clear hkk hno
        go_wp2
        go_ret3
        rw [HR.out, HN.out]
        exact ⟨rfl, hb3⟩
      | some q =>
        obtain ⟨u, d⟩ := q
        rw [hkk] at hR2
        obtain ⟨g', c', rfl, hT'⟩ := hR2
        have hd := (kk_tbl hP 30 i (hA l i) T hTb hlt (.inl rfl) _ hkk).2.2
        simp only at hd
        have hsome := kall_some hK.out hkk
        have HN := Lib.hid hsome
        clear hkk hsome
        go_wp2
        go_roundw
        case rel => exact ⟨i + 1, n + d, g', c', u, by omega, by go_num, by go_num, rfl, HN, hT'.mono hsz, hb3⟩
        case measure => simp [intOf]; omega
    · obtain rfl : i = l.length := by omega
      go_wp2
      go_ret3
      rw [HR.out, hK.out]
      exact ⟨_, rfl, hT.own, hb⟩

def kaOf : Option (List Int × Nat) → List Int × Int × Bool
  | some r => (r.1, (r.2 : Int), true)
  | none => ([], -1, false)
theorem KAPost.any {m : Int} {l : List (Int × Int)} {w w' : World} {e : Ending} {R : Option (List Int × Nat)} (h : KAPost w R e w') (h1 : KA m l = kaOf R) :
    ∃ v, e = .returned (.tuple #[v, .int .i64 (KA m l).2.1, .bool (KA m l).2.2]) ∧ Own w' w.heap.size v (KA m l).1 ∧ Below w.heap.size w w' := by
  rw [h1]
  cases R with
  | some r => exact h
  | none => exact ⟨_, h.1, Own.nil _ _, h.2⟩
theorem KA_yes {M : Nat} {l : List (Int × Int)} (hv : VP M l = true) : KA M l = kaOf (kall M l l.length) := by
  unfold KA
  rw [if_pos hv]
  show (match kall M l l.length with | some r => (r.1, (r.2 : Int), true) | none => ([], -1, false)) = _
  cases kall M l l.length <;> rfl

theorem specKickAll_any (m : Int) (a : Option Addr) (l : List (Int × Int)) (cap : Nat) (w : World) (hm : In64 m) (hr : ReadsP w a l) (hl : l.length ≤ 1048586) :
    Calls Try.prog 47 #[.int .i64 m, .slice a l.length cap] w fun e w' => ∃ v, e = .returned (.tuple #[v, .int .i64 (KA m l).2.1, .bool (KA m l).2.2]) ∧ Own w' w.heap.size v (KA m l).1 ∧ Below w.heap.size w w' := by
  by_cases hv : VP m l = true
  · obtain ⟨M, rfl, hP⟩ := Prs.of_VP hv
    exact (specKickAll_yes M a l cap w hr hP hl _ rfl).mono fun e w' h => h.any (KA_yes hv)
  · have hv' : VP m l = false := by simpa using hv
    have e : KA m l = ([], -1, false) := by unfold KA; rw [if_neg hv]
    rw [e]
    clear hv e
    have HV := Lib.hid hv'
    clear hv'
    go_enter Try.func47, Try.ntmps47
    go_wp2_with fail
    refine (specvalidPairs_any _ _ _ _ _ hr hm hl).mono ?_
    rintro e w0 ⟨rfl, rfl⟩
    rw [HV.out]
    go_wp2
    go_ret3
    exact ⟨_, rfl, Own.nil _ _, Below.refl _ _⟩
end Go.Proofs.Ytlkhobofbkoliaa
