/-
  impl.FilterOf.
-/
import Derived.Test.YtbldfhfciihddabRin
import Derived.Test.YtbldfhfciihddabQB
namespace Go.Proofs.Ytbldfhfciihddab
open Go.RowKit Go.Shelf

attribute [local go_sem] Oper.semAt_some

theorem Tab.keptR {w w' : World} {base g n cap : Nat} {l : List Int} {row : Option Nat} (h : Tab w base g n cap l) (hg : w.grownBy w' row) (hne : some g ≠ row) : Tab w' base g n cap l := World.ownsRow.kept h hg (.inr hne)
set_option maxHeartbeats 1000000 in
theorem printAt_q (M g base : Nat) (L : List Nat) (al : Option Addr) (t : List Int) (C : Nat) (h : Nat → Nat) (w : World) (hT : Tab w base g M M (ints L)) (hL : ∀ x ∈ L, x < 256) (hr : Reads w al t) (h3 : t.length = 3) (hh : ∀ j, j < 3 → t.getD j 0 = (h j : Int) ∧ h j < M) :
    Calls Try.prog 25 #[.slice (some ⟨g, 0, none⟩) M M, .slice al 3 C] w fun e w' => e = .returned (.int .i64 (xk L 0 h 3 : Nat)) ∧ ∃ n, w' = w.drewN n := by
  have HL := Lib.hid hL
  have HH := Lib.hid hh
  have hLl : L.length = M := by have := hT.len; rw [ints_len] at this; exact this
  have HLL := Lib.hid hLl
  have H3 := Lib.hid h3
  clear hL hh hLl h3
  go_enter Try.func25, Try.ntmps25
  go_wp2
  go_loopw [10, 5] (fun iv xv wr => ∃ k : Nat, k ≤ 3 ∧ iv = .int .i64 k ∧ xv = .int .i64 (xk L 0 h k : Nat) ∧ ∃ n, wr = w.drewN n) (fun iv _ _ => 3 - (intOf iv).toNat)
  case atStart => exact ⟨0, by omega, rfl, rfl, 0, rfl⟩
  case round =>
    obtain ⟨k, hk, rfl, rfl, nn, rfl⟩ := hrel
    by_cases hk3 : k < 3
    · obtain ⟨bq, offq, yq, rfl, hbq, hcq, hyq⟩ := hr.get (k := k) (by rw [H3.out]; exact hk3)
      obtain ⟨ht1, ht2⟩ := HH.out k hk3
      have hyq' := hyq.out
      rw [ht1] at hyq'
      subst hyq'
      have hcwq := hcq
      obtain ⟨t', ht⟩ : ∃ t', t' = h k := ⟨_, rfl⟩
      rw [← ht] at hcwq ht2
      obtain ⟨yo, hco, hyo⟩ := hT.get (k := t') ht2
      have hyo' := hyo.out
      rw [ints_get (by rw [HLL.out]; exact ht2)] at hyo'
      subst hyo'
      have hcw := hco
      have hx256 := xk_lt HL.out (show 0 < 256 by omega) (h := h) k
      have ho256 := getD_lt HL.out (by omega) t'
      have hxs : xk L 0 h (k + 1) = xk L 0 h k ^^^ L.getD t' 0 := by rw [ht]; rfl
      obtain ⟨xv, hxv⟩ : ∃ xv, xv = xk L 0 h k := ⟨_, rfl⟩
      obtain ⟨ov, hov⟩ : ∃ ov, ov = L.getD t' 0 := ⟨_, rfl⟩
      rw [← hxv] at hx256 hxs ⊢
      rw [← hov] at ho256 hxs hco hcw
      have hxor := bits_xor_i64_nat xv ov (by omega) (by omega)
      have ht3 : (t' : Int) < (M : Int) := by omega
      have hk31 : (k : Int) < 3 := by omega
      have HXS := Lib.hid hxs
      clear hxs hxv hov ht ht1 hyq hyo hcq hco
      go_wp2
      go_roundw
      case rel => exact ⟨k + 1, by omega, by go_num, by rw [HXS.out], _, rfl⟩
      case measure => simp [intOf]; omega
    · obtain rfl : k = 3 := by omega
      go_wp2
      go_ret
      exact ⟨rfl, _, rfl⟩

/-- Between two rounds of FilterOf's loop. -/
def FI (w w3 w6 : World) (M : Nat) (ts : List (List Int)) (qs K S : List Nat) (pre : List {i : Nat // i < K.length}) (W : World) : Prop :=
  Tab W w3.heap.size (w3.heap.size + 1) M M (ints (flq M ts qs K S (pre.map (·.1)))) ∧ KeptBut (w3.heap.size + 1) w6 W ∧ Below w.heap.size w W
theorem FI.own {w w3 w6 : World} {M : Nat} {ts : List (List Int)} {qs K S : List Nat} (h : w6.heap.size = w3.heap.size + 4) (hw : w.heap.size ≤ w3.heap.size) : OwnFrom w6.heap.size (FI w w3 w6 M ts qs K S) :=
  fun s A B row hs hg hr => ⟨hs.1.keptR hg (fun e => by have := (hr _ e.symm).1; omega), fun b o v hb hv => cell_kept (hs.2.1 b o v hb hv) hg (fun r e => (hr r e).2), (ownFrom_below (Nat.le_refl _) (by omega)) s A B row hs.2.2 hg hr⟩
theorem FI.zero {w w3 w6 : World} {M : Nat} {ts : List (List Int)} {qs K S : List Nat} (h : Tab w6 w3.heap.size (w3.heap.size + 1) M M (List.replicate M 0)) (hB : Below w.heap.size w w6) : FI w w3 w6 M ts qs K S [] w6 := by
  refine ⟨?_, KeptBut.refl _ _, hB⟩
  have e : ints (flq M ts qs K S (([] : List {i : Nat // i < K.length}).map (·.1))) = List.replicate M 0 := by simp [flq, ints]
  rw [e]; exact h
theorem Reads.via {w3 w6 W : World} {g : Nat} {a : Option Addr} {l : List Int} (h : Reads w3 a l) (b6 : Below w3.heap.size w3 w6) (hk : KeptBut g w6 W) (hg : w3.heap.size ≤ g) : Reads W a l := by
  rcases h with rfl | ⟨b, off, e, hb, hc⟩
  · exact .inl rfl
  · by_cases h0 : l.length = 0
    · exact .inl (List.eq_nil_of_length_eq_zero h0)
    · have k : CellsAt W b off l := fun i hi => hk b _ _ (by omega) ((b6.cell (p := ⟨b, off + i, none⟩) hb).trans (hc i hi))
      exact .inr ⟨b, off, e, World.block_lt_of_cell? W ⟨b, off + 0, none⟩ (k 0 (by omega)), k⟩
theorem back_any (a : Option Addr) (len cap : Nat) (w : World) :
    Calls Try.prog 24 #[.slice a len cap] w fun e w' => e = .returned (.func (.func 32) #[] #[.pointer (some ⟨w.heap.size, 0, none⟩)]) ∧ w' = w.alloc (.cells #[.slice a len cap] 24) := by
  go_enter Try.func24, Try.ntmps24
  go_wp2
  go_ret
  exact ⟨rfl, rfl⟩

set_option maxRecDepth 100000 in
set_option maxHeartbeats 1000000 in
/-- .. of no number: no round. -/
theorem back1_nil (n : Nat) (l Bs cap : Nat) (a : Option Addr) {α : Type} (J : List α → World → Prop) (W : World) (hBs : W.cell? ⟨Bs, 0, none⟩ = some (.slice a 0 cap)) (h0 : J [] W) :
    CallsIn Fence.wide n Try.prog 32 #[.func (.yield l) #[] #[], .pointer (some ⟨Bs, 0, none⟩)] W fun e W' => (∃ v, e = .returned v) ∧ J [] W' := by
  refine callsIn_of_wp Try.func32 rfl trivial ?_ rfl
  simp only [Try.ntmps32, List.size_toArray, List.length_cons, List.length_nil, Nat.reduceAdd, Nat.reduceSub, Array.replicate_succ, Array.replicate_zero, List.push_toArray, List.append_toArray, List.nil_append, List.cons_append]
  gi_wp2
  gi_loopw [3] (fun i wr => i = .int .i64 (-1) ∧ J [] wr) (fun _ _ => 0)
  case atStart => exact ⟨rfl, h0⟩
  case round =>
    obtain ⟨rfl, hJs⟩ := hrel
    gi_wp2
    go_end0
    exact ⟨⟨_, rfl⟩, hJs⟩
theorem back_stops (n : Nat) (hn : 1 ≤ n) (Bs g cap : Nat) (a : Option Addr) (K : List Nat) (w : World) (hK : K.length ≤ 100000) (hb : Bs ≠ g) (hBs : w.cell? ⟨Bs, 0, none⟩ = some (.slice a K.length cap))
    (hr : K = [] ∨ ∃ b off, a = some ⟨b, off, none⟩ ∧ b ≠ g ∧ ∀ j, j < K.length → w.cell? ⟨b, off + j, none⟩ = some (.int .i64 ((K.getD j 0 : Nat) : Int))) :
    SeqStopsK Fence.wide n Try.prog 32 #[.pointer (some ⟨Bs, 0, none⟩)] (fun x : {i : Nat // i < K.length} => #[Value.int .i64 (x.1 : Int), Value.int .i64 ((K.getD x.1 0 : Nat) : Int)]) (KeptBut g) (fun ys => ys = dn K.length K.length) (fun _ => True) K.length w := fun l J Jx W hW _ _ hY h0 => by
  have kc : ∀ p v, w.cell? p = some v → W.cell? p = some v := fun p v h => (hW.cell (World.block_lt_of_cell? w p h)).trans h
  rcases hr with rfl | ⟨b, off, rfl, hb2, hc⟩
  · exact (back1_nil n l Bs cap a J W (kc _ _ hBs) h0).mono fun e W' ⟨he, hj⟩ => ⟨he, .inl ⟨_, rfl, hj⟩⟩
  · exact back1_in n hn l Bs g b off cap K hK hb hb2 J Jx hY W (kc _ _ hBs) (fun j hj => kc _ _ (hc j hj)) h0

set_option maxHeartbeats 4000000 in
set_option maxRecDepth 100000 in
theorem implFilterOf_any (m : Int) (a : Option Addr) (ts : List (List Int)) (cap : Nat) (ap : Option Addr) (ps : List Int) (cp : Nat) (w : World) (hm : In64 m) (hr : ReadsS w a ts) (hl : bulk ts ≤ 1048586) (hrp : Reads w ap ps) (hip : ∀ n ∈ ps, In64 n) (hlp : ps.length ≤ 1048586) :
    Calls Try.prog 6 #[.int .i64 m, .slice a ts.length cap, .slice ap ps.length cp] w fun e w' => ∃ v, e = .returned (.tuple #[v, .bool (FO m ts ps).2]) ∧ Own w' w.heap.size v (FO m ts ps).1 ∧ Below w.heap.size w w' := by
  obtain ⟨F, hF⟩ : ∃ F, F = FO m ts ps := ⟨_, rfl⟩
  rw [← hF]
  have HF := Lib.hid hF
  have hbl := bulk_len ts
  clear hF hip
  have bA := ((Below.refl w.heap.size w).alloc (Nat.le_refl _) (.cells #[.slice a ts.length cap] 23)).alloc (by simp) (.cells #[.slice ap ps.length cp] 24)
  obtain ⟨w0, hw0⟩ : ∃ w0, w0 = (w.alloc (.cells #[.slice a ts.length cap] 23)).alloc (.cells #[.slice ap ps.length cp] 24) := ⟨_, rfl⟩
  have hr0 := hr.below bA
  have hrp0 := hrp.below bA
  have xT : Boxed w0 w.heap.size 23 (.slice a ts.length cap) := by rw [hw0]; exact (Boxed.new w _ _).alloc _
  have xP : Boxed w0 (w.heap.size + 1) 24 (.slice ap ps.length cp) := by
    rw [hw0]
    have := Boxed.new (w.alloc (.cells #[.slice a ts.length cap] 23)) 24 (.slice ap ps.length cp)
    rw [World.size_alloc] at this
    exact this
  have ct1 := xT.cell
  have ct2 := xP.cell
  have hsz0 : w0.heap.size = w.heap.size + 2 := by rw [hw0, World.size_alloc, World.size_alloc]
  have CT := Lib.hid (implvalidTrips_any m a ts cap _ hr0)
  rw [← hw0] at bA hr0 hrp0
  refine (callsIn_wide (n := 6)).1 ?_
  refine callsIn_of_wp_marks Try.func6 rfl trivial ?_ rfl
  simp only [Try.ntmps6, List.size_toArray, List.length_cons, List.length_nil, Nat.reduceAdd, Nat.reduceSub, Array.replicate_succ, Array.replicate_zero, List.push_toArray, List.append_toArray, List.nil_append, List.cons_append]
  gi_wp2_with fail
  refine ⟨trivial, (callsIn_wide.2 CT.out).mono ?_⟩
  rintro e w1 ⟨rfl, b1⟩
  rw [← hw0] at b1
  clear hw0
  have hsz1 := b1.size
  have B1 := bA.trans (b1.mono bA.size)
  have xT1 : Boxed w1 w.heap.size 23 (.slice a ts.length cap) := (b1.block _ xT.lt).trans xT
  have xP1 : Boxed w1 (w.heap.size + 1) 24 (.slice ap ps.length cp) := (b1.block _ xP.lt).trans xP
  have ct3 := xT1.cell
  have ct4 := xP1.cell
  have hr1 := hr0.below b1
  have hrp1 := hrp0.below b1
  clear ct1 ct2
  by_cases hv : TV m ts = true
  · rw [hv]
    have CV := Lib.hid (validPrints_any ts.length ap ps cp w1 (by omega) hrp1 hlp)
    gi_wp2_with fail
    refine ⟨trivial, (callsIn_wide.2 CV.out).mono ?_⟩
    rintro e w2 ⟨rfl, b2⟩
    have hsz2 := b2.size
    have B2 := B1.trans (b2.mono B1.size)
    have xT2 : Boxed w2 w.heap.size 23 (.slice a ts.length cap) := (b2.block _ xT1.lt).trans xT1
    have xP2 : Boxed w2 (w.heap.size + 1) 24 (.slice ap ps.length cp) := (b2.block _ xP1.lt).trans xP1
    have ct5 := xT2.cell
    have ct6 := xP2.cell
    have hr2 := hr1.below b2
    have hrp2 := hrp1.below b2
    clear ct3 ct4 CT CV
    by_cases hPR : PR ts.length ps = true
    · obtain ⟨M, rfl, hP⟩ := Trp.of_TV hv
      have CK := implPeelKeys_yes M a ts cap w2 hr2 hP
      obtain ⟨qs, rfl, hql, hq⟩ := PR_nats hPR
      have htk := plk_taken M ts
      have hFO : ∀ (h : ¬ (plk M ts).1.length < ts.length), F = (ints (flt M ts qs), true) := by
        intro h
        rw [HF.out]; unfold FO
        rw [if_pos ⟨hv, hPR, h⟩, ints_toNat]; rfl
      have hFN : (plk M ts).1.length < ts.length → F = ([], false) := by
        intro h
        rw [HF.out]; exact FO_no fun h2 => h2.2.2 h
      rw [hPR]
      obtain ⟨K, hK⟩ : ∃ K, K = (plk M ts).1 := ⟨_, rfl⟩
      obtain ⟨S, hS⟩ : ∃ S, S = (plk M ts).2 := ⟨_, rfl⟩
      unfold flt at hFO
      unfold PeelPost at CK
      rw [← hK, ← hS] at CK htk hFO
      rw [← hK] at hFN
      have CP := Lib.hid CK
      have HTK := Lib.hid htk
      have HFO := Lib.hid hFO
      have HFN := Lib.hid hFN
      have HP := Lib.hid hP
      have HQ := Lib.hid hq
      clear CK htk hFO hFN hP hq hPR hK hS hv HF
      gi_wp2_with fail
      refine ⟨trivial, (callsIn_wide.2 CP.out).mono ?_⟩
      clear CP
      rintro e w3 ⟨v1, v2, rfl, ho1, ho2, b3, _⟩
      have hsz3 := b3.size
      have B3 := B2.trans (b3.mono B2.size)
      have xT3 : Boxed w3 w.heap.size 23 (.slice a ts.length cap) := (b3.block _ xT2.lt).trans xT2
      have xP3 : Boxed w3 (w.heap.size + 1) 24 (.slice ap (ints qs).length cp) := (b3.block _ xP2.lt).trans xP2
      have ct7 := xT3.cell
      have ct8 := xP3.cell
      have hr3 := hr2.below b3
      have hrp3 := hrp2.below b3
      obtain ⟨a1, c1, e1, hk3, _, _, _⟩ := ho1.form
      obtain ⟨a2, c2, e2, hs3, _, _, _⟩ := ho2.form
      rw [ints_len] at e1 e2
      subst e1
      subst e2
      have hP' := HP.out
      have hM1 := hP'.pos
      have hM2 := hP'.le
      have hts8 := hP'.len
      have hKlen : K.length ≤ ts.length := by have := HTK.out.count; omega
      clear ct5 ct6 ho1 ho2 hP'
      by_cases hKl : K.length < ts.length
      · have hFn := HFN.out hKl
        subst hFn
        have xT4 := (xT3.alloc (.cells #[.slice a2 S.length c2] 24)).cell
        gi_wp2
        refine ⟨_, results_tmp2 rfl _ _ _, ?_⟩
        exact ⟨_, rfl, Own.nil _ _, B3.alloc B3.size _⟩
      · have hFn := HFO.out hKl
        subst hFn
        obtain ⟨w4, hw4⟩ : ∃ w4, w4 = w3.alloc (.cells #[.slice a2 S.length c2] 24) := ⟨_, rfl⟩
        have xT4 := xT3.alloc (.cells #[.slice a2 S.length c2] 24)
        have ct9 := xT4.cell
        have hmk := run_make_row' (P := Try.prog) 24 3 (.int .i64 0) 8 Try.underlying24 infoInt rfl .i64 .i64 M (by omega) (by omega)
        have xA := made_tabF w4 w3.heap.size M (by rw [hw4, World.size_alloc]; omega) hM2
        obtain ⟨BB, hBB⟩ : ∃ BB, BB = madeCells #[.int .i64 0] M := ⟨_, rfl⟩
        rw [← hBB] at hmk xA
        clear hBB
        have CB := back_any a1 K.length c1 (((w3.alloc (.cells #[.slice a2 S.length c2] 24)).alloc (.cells BB 3)).alloc (.cells #[.slice (some ⟨w3.heap.size + 1, 0, none⟩) M M] 24))
        simp only [World.size_alloc] at CB
        have CB := Lib.hid CB
        gi_wp2_with fail
        refine ⟨trivial, (callsIn_wide.2 CB.out).mono ?_⟩
        rintro e w6 ⟨rfl, hw6⟩
        have b6 : Below w3.heap.size w3 w6 := by
          rw [hw6]
          exact ((((Below.refl w3.heap.size w3).alloc (Nat.le_refl _) _).alloc (by rw [World.size_alloc]; omega) _).alloc (by rw [World.size_alloc, World.size_alloc]; omega) _).alloc (by rw [World.size_alloc, World.size_alloc, World.size_alloc]; omega) _
        have hsz6 : w6.heap.size = w3.heap.size + 4 := by rw [hw6, World.size_alloc, World.size_alloc, World.size_alloc, World.size_alloc]
        have xT6 : Boxed w6 w.heap.size 23 (.slice a ts.length cap) := (b6.block _ xT3.lt).trans xT3
        have xP6 : Boxed w6 (w.heap.size + 1) 24 (.slice ap (ints qs).length cp) := (b6.block _ xP3.lt).trans xP3
        have xS6 : Boxed w6 w3.heap.size 24 (.slice a2 S.length c2) := by rw [hw6]; exact (((Boxed.new w3 _ _).alloc _).alloc _).alloc _
        have xF6 : Boxed w6 (w3.heap.size + 1 + 1) 24 (.slice (some ⟨w3.heap.size + 1, 0, none⟩) M M) := by
          rw [hw6]
          have := Boxed.new ((w3.alloc (.cells #[.slice a2 S.length c2] 24)).alloc (.cells BB 3)) 24 (.slice (some ⟨w3.heap.size + 1, 0, none⟩) M M)
          rw [World.size_alloc, World.size_alloc] at this
          exact this.alloc _
        have xB6 : Boxed w6 (w3.heap.size + 1 + 1 + 1) 24 (.slice a1 K.length c1) := by
          rw [hw6]
          have := Boxed.new (((w3.alloc (.cells #[.slice a2 S.length c2] 24)).alloc (.cells BB 3)).alloc (.cells #[.slice (some ⟨w3.heap.size + 1, 0, none⟩) M M] 24)) 24 (.slice a1 K.length c1)
          rw [World.size_alloc, World.size_alloc, World.size_alloc] at this
          exact this
        have T6 : Tab w6 w3.heap.size (w3.heap.size + 1) M M (List.replicate M 0) := by
          have h4 : w4.heap.size = w3.heap.size + 1 := by rw [hw4, World.size_alloc]
          rw [h4] at xA
          rw [hw6]
          rw [hw4] at xA
          exact (xA.below ((Below.refl _ _).alloc (Nat.le_refl _) _)).below ((Below.refl _ _).alloc (Nat.le_refl _) _)
        have hr6 := hr3.below b6
        have hrp6 := hrp3.below b6
        have hk6 := hk3.below b6
        have hs6 := hs3.below b6
        have B6 := B3.trans (b6.mono B3.size)
        have hz3 := B3.size
        clear CB xA hmk hw6 hw4 xT4 ct9 ct7 ct8 xT3 xP3
        gi_wp2_with fail
        refine wpIn_rangeFunc_ownG (F := Fence.wide) (n := 6) (P := Try.prog) (ps := #[39, 40]) rfl (by omega) (gf := 32) (lb := #[.pointer (some ⟨w3.heap.size + 1 + 1 + 1, 0, none⟩)]) rfl trivial (enters_of Try.func32 (by kernel_rfl) rfl)
          (back_stops 5 (by omega) (w3.heap.size + 1 + 1 + 1) (w3.heap.size + 1) c1 a1 K w6 (by omega) (by omega) xB6.cell (by
            rcases hk3 with h | ⟨b, off, e1, e2, e3⟩
            · exact .inl (by cases K with | nil => rfl | cons x K => simp [ints] at h)
            · refine .inr ⟨b, off, e1, by omega, fun j hj => ?_⟩
              have := e3 j (by rw [ints_len]; exact hj)
              rw [ints_get hj] at this
              exact (b6.cell (p := ⟨b, off + j, none⟩) e2).trans this)) KeptBut.trans (fun W l o o' _ h ho _ => KeptBut.put W l o o' h ho) (Below.refl _ _) (fun _ => rfl)
          (FI w w3 w6 M ts qs K S)
          (fun _ _ _ => False)
          (FI.own hsz6 (by omega))
          (fun _ _ _ _ _ hs _ _ => hs)
          (FI.zero T6 B6)
          (fun x => { tmps := #[.int .i64 (M : Int), .slice a ts.length cap, .slice ap (ints qs).length cp, undef, .pointer (some ⟨w.heap.size, 0, none⟩), .pointer (some ⟨w.heap.size + 1, 0, none⟩), .slice none 0 0, .bool false, .slice a1 K.length c1, .pointer (some ⟨w3.heap.size, 0, none⟩), .pointer (some ⟨w3.heap.size + 1 + 1, 0, none⟩), .int .i64 (x.1 : Int), .int .i64 ((K[x.1]?.getD 0 : Nat) : Int), .int .i64 (M : Int), .slice a ts.length cap, .bool true, .bool false, .bool false, .slice a ts.length cap, .int .i64 (ts.length : Int), .slice ap (ints qs).length cp, .bool true, .bool false, .bool false, .tuple #[.slice a1 K.length c1, .slice a2 S.length c2], .int .i64 (M : Int), .slice a ts.length cap, .tuple #[.slice a1 K.length c1, .slice a2 S.length c2], .slice a1 K.length c1, .slice a2 S.length c2, .slice a1 K.length c1, .int .i64 (K.length : Int), .slice a ts.length cap, .int .i64 (ts.length : Int), .bool false, .int .i64 (M : Int), .slice (some ⟨w3.heap.size + 1, 0, none⟩) M M, .slice a1 K.length c1, .func (.func 32) #[] #[.pointer (some ⟨w3.heap.size + 1 + 1 + 1, 0, none⟩)], .int .i64 (x.1 : Int), .int .i64 ((K[x.1]?.getD 0 : Nat) : Int), undef, undef, undef, undef, undef, undef, undef, undef, undef, undef, undef, undef, undef, undef, undef, undef, undef, undef], defers := [] }) ?assign ?body ?done ?stop
        case assign =>
          intro l x W Kc hKc
          gi_wp2
          exact hKc
        case body =>
          rintro l pre ⟨i, hi⟩ W ⟨hT, hkb, hBw⟩ _
          dsimp only
          have hcT := hkb _ _ _ (by omega) xT6.cell
          have hcP := hkb _ _ _ (by omega) xP6.cell
          have hcS := hkb _ _ _ (by omega) xS6.cell
          have hcF := hkb _ _ _ (by omega) xF6.cell
          obtain ⟨kk, hkk⟩ : ∃ kk, kk = K.getD i 0 := ⟨_, rfl⟩
          have hkk2 : K[i]?.getD 0 = kk := by rw [hkk]; rfl
          rw [hkk2]
          have hkt : kk < ts.length := by rw [hkk]; exact HTK.out.key _ (getD_memN hi)
          have hiS : i < S.length := by rw [← HTK.out.len]; exact hi
          obtain ⟨ss, hss⟩ : ∃ ss, ss = S.getD i 0 := ⟨_, rfl⟩
          have hsM : ss < M := by rw [hss]; exact HTK.out.slot _ (getD_memN hiS)
          have hiS1 : (i : Int) < (S.length : Int) := by omega
          obtain ⟨b2, off2, y2, rfl, hbb2, hce2, hy2⟩ := hs3.get (k := i) (by rw [ints_len]; exact hiS)
          have hy2' := hy2.out
          rw [ints_get hiS, ← hss] at hy2'
          subst hy2'
          have hcw2 := hkb b2 _ _ (by omega) ((b6.cell (p := ⟨b2, off2 + i, none⟩) hbb2).trans hce2)
          have hkt2 : kk < qs.length := by rw [hql]; exact hkt
          obtain ⟨bp, offp, yp, rfl, hbbp, hcep, hyp⟩ := hrp3.get (k := kk) (by rw [ints_len]; exact hkt2)
          have hyp' := hyp.out
          rw [ints_get hkt2] at hyp'
          subst hyp'
          have hcwp := hkb bp _ _ (by omega) ((b6.cell (p := ⟨bp, offp + kk, none⟩) hbbp).trans hcep)
          obtain ⟨b, off, A, C, rfl, hbb, hcr, hrow, hrc⟩ := hr3.get hkt
          have h3 := (HP.out.three hkt).1
          have hcwr := hkb b _ _ (by omega) ((b6.cell (p := ⟨b, off + kk, none⟩) hbb).trans hcr)
          rw [h3] at hcwr
          have hrowW := hrow.via b6 hkb (by omega)
          obtain ⟨L, hL⟩ : ∃ L, L = flq M ts qs K S (pre.map (·.1)) := ⟨_, rfl⟩
          rw [← hL] at hT
          have hL256 : ∀ x ∈ L, x < 256 := by rw [hL]; exact flq_lt HQ.out _
          have bd := below_drewN (Below.refl W.heap.size W) 1
          have CPr := printAt_q M (w3.heap.size + 1) w3.heap.size L A (tr ts kk) C (th ts kk) W.drew (hT.below bd) hL256 (hrowW.below bd) h3 (fun j hj => HP.out.th hkt hj)
          have hp256 := getD_lt HQ.out (by omega) kk
          have hx256 := xk_lt hL256 (show 0 < 256 by omega) (h := th ts kk) 3
          obtain ⟨pq, hpq⟩ : ∃ pq, pq = qs.getD kk 0 := ⟨_, rfl⟩
          obtain ⟨xv, hxv⟩ : ∃ xv, xv = xk L 0 (th ts kk) 3 := ⟨_, rfl⟩
          rw [← hpq] at hcwp hp256
          rw [← hxv] at CPr hx256
          have hxor := bits_xor_i64_nat pq xv (by omega) (by omega)
          obtain ⟨yo, hco, _⟩ := hT.get (k := ss) hsM
          have hfz := hT.frozen ss
          have hst := fun n => (hT.below (below_drewN (Below.refl _ W) n)).store ss ((pq ^^^ xv : Nat) : Int)
          have hnew : (ints L).set ss ((pq ^^^ xv : Nat) : Int) = ints (flq M ts qs K S ((pre ++ [(⟨i, hi⟩ : {i : Nat // i < K.length})]).map (·.1))) := by
            rw [ints_set, List.map_append, List.map_singleton, flq_snoc, ← hL, ← hkk, ← hss, ← hpq, ← hxv]
          rw [hnew] at hst
          have HST := Lib.hid hst
          have CPR := Lib.hid CPr
          have hsM1 : (ss : Int) < (M : Int) := by omega
          have hkt1 : (kk : Int) < (ts.length : Int) := by omega
          have hkq1 : (kk : Int) < (qs.length : Int) := by omega
          have hlq : (kk : Int) < ((ints qs).length : Int) := by rw [ints_len]; omega
          have HKB := Lib.hid hkb
          clear CPr hst hnew hxv hpq hL256 hL hrowW hrow hrc hcr hcep hce2 hyp hy2 hss hkk hkk2 hkb h3 hT
          gi_wp2_with fail
          obtain ⟨St, hSt⟩ : ∃ St : World → Prop, St = fun W' => W'.cell? ⟨w.heap.size, 0, none⟩ = some (.slice (some ⟨b, off, none⟩) ts.length cap) ∧ W'.cell? ⟨w.heap.size + 1, 0, none⟩ = some (.slice (some ⟨bp, offp, none⟩) (ints qs).length cp) ∧ W'.cell? ⟨w3.heap.size, 0, none⟩ = some (.slice (some ⟨b2, off2, none⟩) S.length c2) ∧ W'.cell? ⟨w3.heap.size + 1 + 1, 0, none⟩ = some (.slice (some ⟨w3.heap.size + 1, 0, none⟩) M M) ∧ W'.cell? ⟨b2, off2 + i, none⟩ = some (.int .i64 (ss : Int)) ∧ W'.cell? ⟨bp, offp + kk, none⟩ = some (.int .i64 (pq : Int)) ∧ W'.cell? ⟨b, off + kk, none⟩ = some (.slice A 3 C) ∧ (∃ y, W'.cell? ⟨w3.heap.size + 1, ss, none⟩ = some (.int .i64 y)) ∧ W'.frozen? ⟨w3.heap.size + 1, ss, none⟩ = false := ⟨_, rfl⟩
          refine region_in_round (P := Try.prog) St (by kernel_rfl) (by kernel_rfl) (fun ⟨_, _, h⟩ => h) ?_
          have hS : St W.drew := by rw [hSt]; exact ⟨hcT, hcP, hcS, hcF, hcw2, hcwp, hcwr, ⟨yo, hco⟩, hfz⟩
          subst hSt
          clear hcT hcP hcS hcF hcw2 hcwp hcwr hco hfz
          refine wpAnyH_take (i := 0) (v := .slice (some ⟨w3.heap.size + 1, 0, none⟩) M M) rfl (by kernel_rfl) (by kernel_rfl) (by kernel_rfl) (fun _ _ _ h => h) (.inl ⟨by rfl, ?_⟩) hS ?_
          · intro W' hS'
            obtain ⟨q1, q2, q3, q4, q5, q6, q7, _, _⟩ := hS'
            go_simp
          refine wpAnyH_take (i := 1) (v := .slice (some ⟨b2, off2, none⟩) S.length c2) rfl (by kernel_rfl) (by kernel_rfl) (by kernel_rfl) (fun _ _ _ h => h) (.inl ⟨by rfl, ?_⟩) hS ?_
          · intro W' hS'
            obtain ⟨q1, q2, q3, q4, q5, q6, q7, _, _⟩ := hS'
            go_simp
          refine wpAnyH_take (i := 2) (v := .int .i64 (i : Int)) rfl (by kernel_rfl) (by kernel_rfl) (by kernel_rfl) (fun _ _ _ h => h) (.inl ⟨by rfl, ?_⟩) hS ?_
          · intro W' hS'
            obtain ⟨q1, q2, q3, q4, q5, q6, q7, _, _⟩ := hS'
            go_simp
          refine wpAnyH_take (i := 3) (v := .pointer (some ⟨b2, off2 + i, none⟩)) rfl (by kernel_rfl) (by kernel_rfl) (by kernel_rfl) (fun _ _ _ h => h) (.inl ⟨by rfl, ?_⟩) hS ?_
          · intro W' hS'
            obtain ⟨q1, q2, q3, q4, q5, q6, q7, _, _⟩ := hS'
            go_simp
          refine wpAnyH_take (i := 4) (v := .int .i64 (ss : Int)) rfl (by kernel_rfl) (by kernel_rfl) (by kernel_rfl) (fun _ _ _ h => h) (.inl ⟨by rfl, ?_⟩) hS ?_
          · intro W' hS'
            obtain ⟨q1, q2, q3, q4, q5, q6, q7, _, _⟩ := hS'
            go_simp
          refine wpAnyH_take (i := 5) (v := .slice (some ⟨bp, offp, none⟩) (ints qs).length cp) rfl (by kernel_rfl) (by kernel_rfl) (by kernel_rfl) (fun _ _ _ h => h) (.inl ⟨by rfl, ?_⟩) hS ?_
          · intro W' hS'
            obtain ⟨q1, q2, q3, q4, q5, q6, q7, _, _⟩ := hS'
            go_simp
          refine wpAnyH_take (i := 6) (v := .int .i64 (kk : Int)) rfl (by kernel_rfl) (by kernel_rfl) (by kernel_rfl) (fun _ _ _ h => h) (.inl ⟨by rfl, ?_⟩) hS ?_
          · intro W' hS'
            obtain ⟨q1, q2, q3, q4, q5, q6, q7, _, _⟩ := hS'
            go_simp
          refine wpAnyH_take (i := 7) (v := .pointer (some ⟨bp, offp + kk, none⟩)) rfl (by kernel_rfl) (by kernel_rfl) (by kernel_rfl) (fun _ _ _ h => h) (.inl ⟨by rfl, ?_⟩) hS ?_
          · intro W' hS'
            obtain ⟨q1, q2, q3, q4, q5, q6, q7, _, _⟩ := hS'
            go_simp
          refine wpAnyH_take (i := 8) (v := .int .i64 (pq : Int)) rfl (by kernel_rfl) (by kernel_rfl) (by kernel_rfl) (fun _ _ _ h => h) (.inl ⟨by rfl, ?_⟩) hS ?_
          · intro W' hS'
            obtain ⟨q1, q2, q3, q4, q5, q6, q7, _, _⟩ := hS'
            go_simp
          refine wpAnyH_take (i := 9) (v := .slice (some ⟨w3.heap.size + 1, 0, none⟩) M M) rfl (by kernel_rfl) (by kernel_rfl) (by kernel_rfl) (fun _ _ _ h => h) (.inl ⟨by rfl, ?_⟩) hS ?_
          · intro W' hS'
            obtain ⟨q1, q2, q3, q4, q5, q6, q7, _, _⟩ := hS'
            go_simp
          refine wpAnyH_take (i := 10) (v := .slice (some ⟨b, off, none⟩) ts.length cap) rfl (by kernel_rfl) (by kernel_rfl) (by kernel_rfl) (fun _ _ _ h => h) (.inl ⟨by rfl, ?_⟩) hS ?_
          · intro W' hS'
            obtain ⟨q1, q2, q3, q4, q5, q6, q7, _, _⟩ := hS'
            go_simp
          refine wpAnyH_take (i := 11) (v := .int .i64 (kk : Int)) rfl (by kernel_rfl) (by kernel_rfl) (by kernel_rfl) (fun _ _ _ h => h) (.inl ⟨by rfl, ?_⟩) hS ?_
          · intro W' hS'
            obtain ⟨q1, q2, q3, q4, q5, q6, q7, _, _⟩ := hS'
            go_simp
          refine wpAnyH_take (i := 12) (v := .pointer (some ⟨b, off + kk, none⟩)) rfl (by kernel_rfl) (by kernel_rfl) (by kernel_rfl) (fun _ _ _ h => h) (.inl ⟨by rfl, ?_⟩) hS ?_
          · intro W' hS'
            obtain ⟨q1, q2, q3, q4, q5, q6, q7, _, _⟩ := hS'
            go_simp
          refine wpAnyH_take (i := 13) (v := .slice A 3 C) rfl (by kernel_rfl) (by kernel_rfl) (by kernel_rfl) (fun _ _ _ h => h) (.inl ⟨by rfl, ?_⟩) hS ?_
          · intro W' hS'
            obtain ⟨q1, q2, q3, q4, q5, q6, q7, _, _⟩ := hS'
            go_simp
          refine wpAnyH_all (rs := [14]) (by kernel_rfl) (by simp) (fun j hj => ?_)
          obtain rfl : j = 14 := by simpa using hj
          clear hj
          refine wpOp_step rfl (fun K' hK => ?_)
          have hK := Lib.hid hK
          go_simp
          refine CPR.out.mono ?_
          rintro e w7 ⟨rfl, n7, rfl⟩
          try dsimp only
          have hS7 := hS
          refine hK.out _ _ ⟨hS7, ?_⟩
          clear hK
          refine wpAnyH_take (i := 15) (v := .int .i64 ((pq ^^^ xv : Nat) : Int)) rfl (by kernel_rfl) (by kernel_rfl) (by kernel_rfl) (fun _ _ _ h => h) (.inl ⟨by rfl, ?_⟩) hS7 ?_
          · intro W' hS'
            obtain ⟨q1, q2, q3, q4, q5, q6, q7, _, _⟩ := hS'
            go_simp
          refine wpAnyH_take (i := 16) (v := .pointer (some ⟨w3.heap.size + 1, ss, none⟩)) rfl (by kernel_rfl) (by kernel_rfl) (by kernel_rfl) (fun _ _ _ h => h) (.inl ⟨by rfl, ?_⟩) hS7 ?_
          · intro W' hS'
            obtain ⟨q1, q2, q3, q4, q5, q6, q7, _, _⟩ := hS'
            go_simp
          refine wpAnyH_all (rs := [17]) (by kernel_rfl) (by simp) (fun j hj => ?_)
          obtain rfl : j = 17 := by simpa using hj
          clear hj
          refine wpOp_step rfl (fun K' hK => ?_)
          have hK := Lib.hid hK
          obtain ⟨q1, q2, q3, q4, q5, q6, q7, ⟨y8, q8⟩, q9⟩ := hS7
          have q8w : W.cell? ⟨w3.heap.size + 1, ss, none⟩ = some (.int .i64 y8) := q8
          have q9w : W.frozen? ⟨w3.heap.size + 1, ss, none⟩ = false := q9
          go_simp
          refine hK.out _ _ ⟨⟨?_, ?_, ?_, ?_, ?_, ?_, ?_, ?_, ?_⟩, wpAnyH_done (by kernel_rfl) ?_ _⟩
          all_goals clear hK
          · exact KeptBut.store _ ss _ _ _ _ _ (by omega) q1
          · exact KeptBut.store _ ss _ _ _ _ _ (by omega) q2
          · exact KeptBut.store _ ss _ _ _ _ _ (by omega) q3
          · exact KeptBut.store _ ss _ _ _ _ _ (by omega) q4
          · exact KeptBut.store _ ss _ _ _ _ _ (by omega) q5
          · exact KeptBut.store _ ss _ _ _ _ _ (by omega) q6
          · exact KeptBut.store _ ss _ _ _ _ _ (by omega) q7
          · exact ⟨_, World.cell?_setCell_same' _ _ _ (by show (W.cell? ⟨w3.heap.size + 1, ss, none⟩).isSome = true; rw [q8w]; rfl)⟩
          · rw [World.frozen?_setCell]; exact q9
          · have bW : Below W.heap.size W (W.drewN (1 + n7)) := below_drewN (Below.refl _ W) _
            have kk1 : KeptBut (w3.heap.size + 1) W (W.drewN (1 + n7)) := fun _ _ _ _ hv => hv
            have kk2 := kk1.trans (KeptBut.store (w3.heap.size + 1) ss (W.drewN (1 + n7)) (.int .i64 ((pq ^^^ xv : Nat) : Int)))
            refine ⟨(KeepsOthers.trans (⟨Nat.le_refl _, fun _ _ h _ => h⟩ : KeepsOthers W (W.drewN (1 + n7))) (KeepsOthers.setCell _ _ _)).from _, kk2, ?_, HKB.out.trans kk2, ?_⟩
            · exact HST.out (1 + n7)
            · exact (hBw.trans (bW.mono hBw.size)).setCell (p := ⟨w3.heap.size + 1, ss, none⟩) (by show w.heap.size ≤ w3.heap.size + 1; omega) _
        case done =>
          rintro D ys W hD rfl ⟨hT, hkb, hBw⟩ hKd
          rw [flq_dn _ _ _ _ _ _ (Nat.le_refl _)] at hT
          have hcF := hkb _ _ _ (by omega) xF6.cell
          gi_wp2
          refine ⟨by simp, .inl ⟨_, _, rfl, run_takeDeferred hKd, ?_⟩⟩
          refine ⟨_, results_tmp2 rfl _ _ _, .slice (some ⟨w3.heap.size + 1, 0, none⟩) M M, rfl, ?_, ?_⟩
          · exact Own.mono (base := w3.heap.size) (ownsRow_putObj hT.own _ hKd rfl) (by omega)
          · exact hBw.trans (belowK_b (w := w) (Nat.le_refl _) W D _ _ (by omega) hKd rfl rfl)
        case stop =>
          rintro D c pre W _ _ h _
          exact h.elim
    · have hPn : PR ts.length ps = false := by simpa using hPR
      have hFn : F = ([], false) := by rw [HF.out]; exact FO_no fun h => hPR h.2.1
      subst hFn
      rw [hPn]
      gi_wp2
      refine ⟨_, results_tmp2 rfl _ _ _, ?_⟩
      exact ⟨_, rfl, Own.nil _ _, B2⟩
  · have hv' : TV m ts = false := by simpa using hv
    have hFn : F = ([], false) := by rw [HF.out]; exact FO_no fun h => hv h.1
    subst hFn
    rw [hv']
    clear ct3 ct4 xT1 xP1 xT xP
    gi_wp2
    refine ⟨trivial, ?_⟩
    gi_wp2
    refine ⟨_, results_tmp2 rfl _ _ _, ?_⟩
    exact ⟨_, rfl, Own.nil _ _, B1⟩
end Go.Proofs.Ytbldfhfciihddab
