/-
  spec.MayHave.
-/
import Derived.Test.YtjkcahmbocjacaaW7
namespace Go.Proofs.Ytjkcahmbocjacaa
open Go.RowKit

theorem eqN (a b : Nat) : (((a : Int)) == (b : Int)) = decide (a = b) := by
  by_cases h : a = b
  · subst h; simp
  · have : ¬ ((a : Int) = (b : Int)) := by omega
    simp [h, this]
/-- An operation that is not wanted leaves all as it is. -/
theorem take_skip {P : Program} {md : Region.Mode} {ops : Array Oper} {Q : Exit → Act → World → Prop} {S : World → Prop} {i : Nat} {oi : Oper} {fuel : Nat} {listed : Array Bool} {a : Act} {w : World} (hi : ops[i]? = some oi)
    (hs : Region.noSelect ops = true) (hf : Region.free md ops listed i = true) (hr : (Region.ready md ops listed).contains i = true)
    (hQ : ∀ c a w, Q (.panic c) (a.put oi.dst undef) w → Q (.panic c) a w) (hw : Region.wanted oi (yielded ops a.tmps) = false) (hp : a.put oi.dst undef = a) (hS : S w)
    (h : wpAnyH P md ops Q S fuel (listed.setIfInBounds i true) a w) : wpAnyH P md ops Q S (fuel + 1) listed a w :=
  wpAnyH_take hi hs hf hr hQ (.inr ⟨hw, rfl⟩) hS (by rw [hp]; exact h)

theorem take_at {P : Program} {md : Region.Mode} {ops : Array Oper} {Q : Exit → Act → World → Prop} {S : World → Prop} {i d : Nat} {oi : Oper} {v : Value} {fuel : Nat} {listed : Array Bool} {a : Act} {w : World} (hi : ops[i]? = some oi) (hd : oi.dst = some d)
    (hs : Region.noSelect ops = true) (hf : Region.free md ops listed i = true) (hr : (Region.ready md ops listed).contains i = true)
    (hQ : ∀ c a w, Q (.panic c) (a.put oi.dst v) w → Q (.panic c) a w) (hy : YieldsIf P ops S oi v a) (hS : S w)
    (h : wpAnyH P md ops Q S fuel (listed.setIfInBounds i true) { a with tmps := a.tmps.setIfInBounds d v } w) : wpAnyH P md ops Q S (fuel + 1) listed a w :=
  wpAnyH_take hi hs hf hr hQ hy hS (by rw [hd]; exact h)

set_option maxHeartbeats 4000000 in
theorem specMayHave_any (b ww s k : Int) (w : World) :
    Calls Try.prog 35 #[.agg #[.int .i64 b, .int .i64 ww, .int .i64 s], .int .i64 k] w fun e w' => e = .returned (.bool (MHS b ww s k)) ∧ Below w.heap.size w w' := by
  have hbA := (Below.refl w.heap.size w).alloc (Nat.le_refl _) (.cells #[.int .i64 b, .int .i64 ww, .int .i64 s] 24)
  have x0 := SBox.new w b ww s
  obtain ⟨W0, hW0⟩ : ∃ W0, W0 = w.alloc (.cells #[.int .i64 b, .int .i64 ww, .int .i64 s] 24) := ⟨_, rfl⟩
  have hz : w.heap.size + 1 = W0.heap.size := by rw [hW0]; simp
  rw [← hW0] at hbA x0
  have HW0 := Lib.hid hW0
  have p0 := x0.c0
  have p1 := x0.c1
  have p2 := x0.c2
  have bd := hbA.drew
  clear hW0
  have cv : ∀ wx, SBox wx w.heap.size b ww s → Below w.heap.size w wx → Calls Try.prog 71 #[.agg #[.int .i64 b, .int .i64 ww, .int .i64 s]] wx fun e w' => e = .returned (.bool (VSv b ww s)) ∧ w'.cell? ⟨w.heap.size, 0, none⟩ = some (.int .i64 b) ∧ w'.cell? ⟨w.heap.size, 1, none⟩ = some (.int .i64 ww) ∧ w'.cell? ⟨w.heap.size, 2, none⟩ = some (.int .i64 s) ∧ Hid (SBox w' w.heap.size b ww s) ∧ Hid (Below w.heap.size w w') := by
    intro wx hx hb
    refine (specvalidSieve_any b ww s wx).mono ?_
    rintro e w' ⟨rfl, b2⟩
    have x2 := hx.belowAll b2
    exact ⟨rfl, x2.c0, x2.c1, x2.c2, x2, hb.trans (b2.mono hb.size)⟩
  have ck := fun wx => inRange_any k 0 92 wx
  have hK : inR k 0 92 = KM k := by rw [Bool.eq_iff_iff, inR_iff, KM_iff]
  rw [hK] at ck
  obtain ⟨R, hR⟩ : ∃ R, R = MHS b ww s k := ⟨_, rfl⟩
  rw [← hR]
  by_cases g1 : VSv b ww s = true
  · rw [g1] at cv
    by_cases g2 : KM k = true
    · obtain ⟨B, W, S, rfl, rfl, rfl, h1, h2, h3, h4, h5⟩ := VSv_nats g1
      have hk := KM_iff.1 g2
      obtain ⟨K, rfl⟩ : ∃ K : Nat, k = K := ⟨k.toNat, by omega⟩
      rw [g2] at ck
      have e : R = decide (mkb B K W &&& S = mkb B K W) := by
        rw [hR]; unfold MHS
        rw [Bool.eq_iff_iff, decide_eq_true_eq, decide_eq_true_eq, MKn_nat, Int.toNat_natCast]
        exact ⟨fun h => h.2.2, fun h => ⟨g1, g2, h⟩⟩
      have cm := fun wx => marks_any B W K S wx h1 h2 h4 (by omega)
      have hm16 := mkb_16 (key := K) (k := W) h1 h2
      obtain ⟨m, hm⟩ : ∃ m, m = mkb B K W := ⟨_, rfl⟩
      rw [← hm] at cm hm16 e
      have han := bits_and_i64_nat m S (by omega) (by omega)
      obtain ⟨O, hO⟩ : ∃ O, O = m &&& S := ⟨_, rfl⟩
      rw [← hO] at han e
      have cm2 : ∀ wx, Hid (SBox wx w.heap.size B W S) → Hid (Below w.heap.size w wx) → Calls Try.prog 76 #[.agg #[.int .i64 (B : Int), .int .i64 (W : Int), .int .i64 (S : Int)], .int .i64 (K : Int)] wx fun e w' => e = .returned (.int .i64 (m : Int)) ∧
          w'.cell? ⟨w.heap.size, 0, none⟩ = some (.int .i64 (B : Int)) ∧ w'.cell? ⟨w.heap.size, 1, none⟩ = some (.int .i64 (W : Int)) ∧ w'.cell? ⟨w.heap.size, 2, none⟩ = some (.int .i64 (S : Int)) ∧ Hid (SBox w' w.heap.size B W S) ∧ Hid (Below w.heap.size w w') := by
        intro wx hx hb
        refine (cm wx).mono ?_
        rintro e w' ⟨rfl, b2⟩
        have x2 := hx.out.belowAll b2
        exact ⟨rfl, x2.c0, x2.c1, x2.c2, x2, hb.out.trans (b2.mono hb.out.size)⟩
      have heq := eqN O m
      rw [← e] at heq
      have C1 := Lib.hid (cv W0.drew x0 bd)
      have C2 := Lib.hid ck
      have CM := Lib.hid cm2
      clear cv ck hK g1 g2 cm cm2 hm hO hR e x0 bd
      go_enter Try.func35, Try.ntmps35
      go_upto_region 1 with fail
      rw [← HW0.out]
      go_region_held3 (fun w' => w'.cell? ⟨w.heap.size, 0, none⟩ = some (.int .i64 (B : Int)) ∧ w'.cell? ⟨w.heap.size, 1, none⟩ = some (.int .i64 (W : Int)) ∧ w'.cell? ⟨w.heap.size, 2, none⟩ = some (.int .i64 (S : Int))) (first | exact ⟨s0, s1, s2⟩ | exact ⟨p0, p1, p2⟩ | go_keep)
        (first | (go_at_call 71; refine C1.out.mono ?_; rintro e w3 ⟨rfl, s0, s1, s2, hx, hb⟩) | (go_at_call 75; refine (C2.out _).mono ?_; rintro e w3 ⟨rfl, rfl⟩) | (go_at_call 76; refine (CM.out _ hx hb).mono ?_; rintro e w3 ⟨rfl, s0, s1, s2, hx, hb⟩))
      all_goals
        go_wp2_with fail
        go_ret
        exact ⟨rfl, hb.out⟩
    · have e : R = false := by
        rw [hR]; unfold MHS; rw [decide_eq_false_iff_not]; exact fun h => g2 h.2.1
      subst e
      rw [eq_false_of_ne_true g2] at ck
      have C1 := Lib.hid (cv W0.drew x0 bd)
      have C2 := Lib.hid ck
      clear cv ck hK g1 g2 hR x0 bd
      go_enter Try.func35, Try.ntmps35
      go_upto_region 1 with fail
      rw [← HW0.out]
      obtain ⟨St, hSt⟩ : ∃ St : World → Prop, St = fun W' => W'.cell? ⟨w.heap.size, 0, none⟩ = some (.int .i64 b) ∧ W'.cell? ⟨w.heap.size, 1, none⟩ = some (.int .i64 ww) ∧ W'.cell? ⟨w.heap.size, 2, none⟩ = some (.int .i64 s) := ⟨_, rfl⟩
      refine wp_region_held (S := St) (by kernel_rfl) ?_
      have hS : St W0.drew := by rw [hSt]; exact ⟨p0, p1, p2⟩
      subst hSt
      refine take_at (i := 0) (d := 5) (v := .agg #[.int .i64 b, .int .i64 ww, .int .i64 s]) rfl rfl (by kernel_rfl) (by kernel_rfl) (by kernel_rfl) (fun _ _ _ h => h) (.inl ⟨by rfl, fun W' hS' => ?_⟩) hS ?_
      · obtain ⟨q0, q1, q2⟩ := hS'
        go_simp
      try simp only [List.setIfInBounds_toArray, List.set_cons_zero, List.set_cons_succ]
      refine wpAnyH_all (rs := [1]) (by kernel_rfl) (by simp) (fun j hj => ?_)
      obtain rfl : j = 1 := by simpa using hj
      clear hj
      refine wpOp_step rfl (fun K' hK => ?_)
      have hK := Lib.hid hK
      go_simp
      refine C1.out.mono ?_
      rintro e w3 ⟨rfl, s0, s1, s2, hx, hb⟩
      try dsimp only
      refine hK.out _ _ ⟨⟨s0, s1, s2⟩, ?_⟩
      try simp only [List.setIfInBounds_toArray, List.set_cons_zero, List.set_cons_succ]
      clear hK hS
      have hS3 : w3.cell? ⟨w.heap.size, 0, none⟩ = some (.int .i64 b) ∧ w3.cell? ⟨w.heap.size, 1, none⟩ = some (.int .i64 ww) ∧ w3.cell? ⟨w.heap.size, 2, none⟩ = some (.int .i64 s) := ⟨s0, s1, s2⟩
      refine take_at (i := 2) (d := 7) (v := .bool true) rfl rfl (by kernel_rfl) (by kernel_rfl) (by kernel_rfl) (fun _ _ _ h => h) (.inl ⟨by rfl, fun W' hS' => ?_⟩) hS3 ?_
      · obtain ⟨q0, q1, q2⟩ := hS'
        go_simp
      try simp only [List.setIfInBounds_toArray, List.set_cons_zero, List.set_cons_succ]
      refine take_at (i := 3) (d := 8) (v := .int .i64 k) rfl rfl (by kernel_rfl) (by kernel_rfl) (by kernel_rfl) (fun _ _ _ h => h) (.inl ⟨by rfl, fun W' hS' => ?_⟩) hS3 ?_
      · obtain ⟨q0, q1, q2⟩ := hS'
        go_simp
      try simp only [List.setIfInBounds_toArray, List.set_cons_zero, List.set_cons_succ]
      refine wpAnyH_all (rs := [4]) (by kernel_rfl) (by simp) (fun j hj => ?_)
      obtain rfl : j = 4 := by simpa using hj
      clear hj
      refine wpOp_step rfl (fun K' hK => ?_)
      have hK := Lib.hid hK
      go_simp
      refine (C2.out _).mono ?_
      rintro e w4 ⟨rfl, rfl⟩
      try dsimp only
      refine hK.out _ _ ⟨hS3, ?_⟩
      try simp only [List.setIfInBounds_toArray, List.set_cons_zero, List.set_cons_succ]
      clear hK
      refine take_at (i := 5) (d := 10) (v := .bool false) rfl rfl (by kernel_rfl) (by kernel_rfl) (by kernel_rfl) (fun _ _ _ h => h) (.inl ⟨by rfl, fun W' hS' => ?_⟩) hS3 ?_
      · obtain ⟨q0, q1, q2⟩ := hS'
        go_simp
      try simp only [List.setIfInBounds_toArray, List.set_cons_zero, List.set_cons_succ]
      refine take_at (i := 6) (d := 11) (v := .bool false) rfl rfl (by kernel_rfl) (by kernel_rfl) (by kernel_rfl) (fun _ _ _ h => h) (.inl ⟨by rfl, fun W' hS' => ?_⟩) hS3 ?_
      · obtain ⟨q0, q1, q2⟩ := hS'
        go_simp
      try simp only [List.setIfInBounds_toArray, List.set_cons_zero, List.set_cons_succ]
      refine take_skip (i := 7) rfl (by kernel_rfl) (by kernel_rfl) (by kernel_rfl) (fun _ _ _ h => h) (by rfl) (by rfl) hS3 ?_
      refine take_skip (i := 8) rfl (by kernel_rfl) (by kernel_rfl) (by kernel_rfl) (fun _ _ _ h => h) (by rfl) (by rfl) hS3 ?_
      refine take_skip (i := 9) rfl (by kernel_rfl) (by kernel_rfl) (by kernel_rfl) (fun _ _ _ h => h) (by rfl) (by rfl) hS3 ?_
      refine take_skip (i := 10) rfl (by kernel_rfl) (by kernel_rfl) (by kernel_rfl) (fun _ _ _ h => h) (by rfl) (by rfl) hS3 ?_
      refine take_skip (i := 11) rfl (by kernel_rfl) (by kernel_rfl) (by kernel_rfl) (fun _ _ _ h => h) (by rfl) (by rfl) hS3 ?_
      refine take_skip (i := 12) rfl (by kernel_rfl) (by kernel_rfl) (by kernel_rfl) (fun _ _ _ h => h) (by rfl) (by rfl) hS3 ?_
      refine take_skip (i := 13) rfl (by kernel_rfl) (by kernel_rfl) (by kernel_rfl) (fun _ _ _ h => h) (by rfl) (by rfl) hS3 ?_
      refine take_skip (i := 14) rfl (by kernel_rfl) (by kernel_rfl) (by kernel_rfl) (fun _ _ _ h => h) (by rfl) (by rfl) hS3 ?_
      refine take_skip (i := 15) rfl (by kernel_rfl) (by kernel_rfl) (by kernel_rfl) (fun _ _ _ h => h) (by rfl) (by rfl) hS3 ?_
      refine take_skip (i := 16) rfl (by kernel_rfl) (by kernel_rfl) (by kernel_rfl) (fun _ _ _ h => h) (by rfl) (by rfl) hS3 ?_
      refine take_at (i := 17) (d := 22) (v := .bool false) rfl rfl (by kernel_rfl) (by kernel_rfl) (by kernel_rfl) (fun _ _ _ h => h) (.inl ⟨by rfl, fun W' hS' => ?_⟩) hS3 ?_
      · obtain ⟨q0, q1, q2⟩ := hS'
        go_simp
      try simp only [List.setIfInBounds_toArray, List.set_cons_zero, List.set_cons_succ]
      refine take_at (i := 18) (d := 4) (v := .bool false) rfl rfl (by kernel_rfl) (by kernel_rfl) (by kernel_rfl) (fun _ _ _ h => h) (.inl ⟨by rfl, fun W' hS' => ?_⟩) hS3 ?_
      · obtain ⟨q0, q1, q2⟩ := hS'
        go_simp
      try simp only [List.setIfInBounds_toArray, List.set_cons_zero, List.set_cons_succ]
      refine wpAnyH_done (by kernel_rfl) ?_ _
      go_wp2_with fail
      go_ret
      exact ⟨by first | rfl | simp [Act.put], hb.out⟩
  · have e : R = false := by
      rw [hR]; unfold MHS; rw [decide_eq_false_iff_not]; exact fun h => g1 h.1
    subst e
    rw [eq_false_of_ne_true g1] at cv
    have C1 := Lib.hid (cv W0.drew x0 bd)
    clear cv ck hK g1 hR x0 bd
    go_enter Try.func35, Try.ntmps35
    go_upto_region 1 with fail
    rw [← HW0.out]
    obtain ⟨St, hSt⟩ : ∃ St : World → Prop, St = fun W' => W'.cell? ⟨w.heap.size, 0, none⟩ = some (.int .i64 b) ∧ W'.cell? ⟨w.heap.size, 1, none⟩ = some (.int .i64 ww) ∧ W'.cell? ⟨w.heap.size, 2, none⟩ = some (.int .i64 s) := ⟨_, rfl⟩
    refine wp_region_held (S := St) (by kernel_rfl) ?_
    have hS : St W0.drew := by rw [hSt]; exact ⟨p0, p1, p2⟩
    subst hSt
    refine take_at (i := 0) (d := 5) (v := .agg #[.int .i64 b, .int .i64 ww, .int .i64 s]) rfl rfl (by kernel_rfl) (by kernel_rfl) (by kernel_rfl) (fun _ _ _ h => h) (.inl ⟨by rfl, fun W' hS' => ?_⟩) hS ?_
    · obtain ⟨q0, q1, q2⟩ := hS'
      go_simp
    try simp only [List.setIfInBounds_toArray, List.set_cons_zero, List.set_cons_succ]
    refine wpAnyH_all (rs := [1]) (by kernel_rfl) (by simp) (fun j hj => ?_)
    obtain rfl : j = 1 := by simpa using hj
    clear hj
    refine wpOp_step rfl (fun K' hK => ?_)
    have hK := Lib.hid hK
    go_simp
    refine C1.out.mono ?_
    rintro e w3 ⟨rfl, s0, s1, s2, hx, hb⟩
    try dsimp only
    refine hK.out _ _ ⟨⟨s0, s1, s2⟩, ?_⟩
    try simp only [List.setIfInBounds_toArray, List.set_cons_zero, List.set_cons_succ]
    clear hK hS
    have hS3 : w3.cell? ⟨w.heap.size, 0, none⟩ = some (.int .i64 b) ∧ w3.cell? ⟨w.heap.size, 1, none⟩ = some (.int .i64 ww) ∧ w3.cell? ⟨w.heap.size, 2, none⟩ = some (.int .i64 s) := ⟨s0, s1, s2⟩
    refine take_at (i := 2) (d := 7) (v := .bool false) rfl rfl (by kernel_rfl) (by kernel_rfl) (by kernel_rfl) (fun _ _ _ h => h) (.inl ⟨by rfl, fun W' hS' => ?_⟩) hS3 ?_
    · obtain ⟨q0, q1, q2⟩ := hS'
      go_simp
    try simp only [List.setIfInBounds_toArray, List.set_cons_zero, List.set_cons_succ]
    refine take_skip (i := 3) rfl (by kernel_rfl) (by kernel_rfl) (by kernel_rfl) (fun _ _ _ h => h) (by rfl) (by rfl) hS3 ?_
    refine take_skip (i := 4) rfl (by kernel_rfl) (by kernel_rfl) (by kernel_rfl) (fun _ _ _ h => h) (by rfl) (by rfl) hS3 ?_
    refine take_at (i := 5) (d := 10) (v := .bool false) rfl rfl (by kernel_rfl) (by kernel_rfl) (by kernel_rfl) (fun _ _ _ h => h) (.inl ⟨by rfl, fun W' hS' => ?_⟩) hS3 ?_
    · obtain ⟨q0, q1, q2⟩ := hS'
      go_simp
    try simp only [List.setIfInBounds_toArray, List.set_cons_zero, List.set_cons_succ]
    refine take_at (i := 6) (d := 11) (v := .bool false) rfl rfl (by kernel_rfl) (by kernel_rfl) (by kernel_rfl) (fun _ _ _ h => h) (.inl ⟨by rfl, fun W' hS' => ?_⟩) hS3 ?_
    · obtain ⟨q0, q1, q2⟩ := hS'
      go_simp
    try simp only [List.setIfInBounds_toArray, List.set_cons_zero, List.set_cons_succ]
    refine take_skip (i := 7) rfl (by kernel_rfl) (by kernel_rfl) (by kernel_rfl) (fun _ _ _ h => h) (by rfl) (by rfl) hS3 ?_
    refine take_skip (i := 8) rfl (by kernel_rfl) (by kernel_rfl) (by kernel_rfl) (fun _ _ _ h => h) (by rfl) (by rfl) hS3 ?_
    refine take_skip (i := 9) rfl (by kernel_rfl) (by kernel_rfl) (by kernel_rfl) (fun _ _ _ h => h) (by rfl) (by rfl) hS3 ?_
    refine take_skip (i := 10) rfl (by kernel_rfl) (by kernel_rfl) (by kernel_rfl) (fun _ _ _ h => h) (by rfl) (by rfl) hS3 ?_
    refine take_skip (i := 11) rfl (by kernel_rfl) (by kernel_rfl) (by kernel_rfl) (fun _ _ _ h => h) (by rfl) (by rfl) hS3 ?_
    refine take_skip (i := 12) rfl (by kernel_rfl) (by kernel_rfl) (by kernel_rfl) (fun _ _ _ h => h) (by rfl) (by rfl) hS3 ?_
    refine take_skip (i := 13) rfl (by kernel_rfl) (by kernel_rfl) (by kernel_rfl) (fun _ _ _ h => h) (by rfl) (by rfl) hS3 ?_
    refine take_skip (i := 14) rfl (by kernel_rfl) (by kernel_rfl) (by kernel_rfl) (fun _ _ _ h => h) (by rfl) (by rfl) hS3 ?_
    refine take_skip (i := 15) rfl (by kernel_rfl) (by kernel_rfl) (by kernel_rfl) (fun _ _ _ h => h) (by rfl) (by rfl) hS3 ?_
    refine take_skip (i := 16) rfl (by kernel_rfl) (by kernel_rfl) (by kernel_rfl) (fun _ _ _ h => h) (by rfl) (by rfl) hS3 ?_
    refine take_at (i := 17) (d := 22) (v := .bool false) rfl rfl (by kernel_rfl) (by kernel_rfl) (by kernel_rfl) (fun _ _ _ h => h) (.inl ⟨by rfl, fun W' hS' => ?_⟩) hS3 ?_
    · obtain ⟨q0, q1, q2⟩ := hS'
      go_simp
    try simp only [List.setIfInBounds_toArray, List.set_cons_zero, List.set_cons_succ]
    refine take_at (i := 18) (d := 4) (v := .bool false) rfl rfl (by kernel_rfl) (by kernel_rfl) (by kernel_rfl) (fun _ _ _ h => h) (.inl ⟨by rfl, fun W' hS' => ?_⟩) hS3 ?_
    · obtain ⟨q0, q1, q2⟩ := hS'
      go_simp
    try simp only [List.setIfInBounds_toArray, List.set_cons_zero, List.set_cons_succ]
    refine wpAnyH_done (by kernel_rfl) ?_ _
    go_wp2_with fail
    go_ret
    exact ⟨by first | rfl | simp [Act.put], hb.out⟩
end Go.Proofs.Ytjkcahmbocjacaa
