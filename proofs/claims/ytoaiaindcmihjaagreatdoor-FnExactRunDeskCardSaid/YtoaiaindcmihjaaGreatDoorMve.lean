
import Derived.Test.YtoaiaindcmihjaaGreatDoorMvd
import Derived.Lib.AtoiAll
import Derived.Lib.ItoaNum
import Derived.Lib.Split
import Derived.Lib.Join
import Derived.Shelf.Strings.SplitShaped
import Derived.Shelf.Strings.BuilderK
import Derived.Shelf.Strings.OnBuilder
import Derived.Shelf.Strconv.ErrVarAll
import Derived.Shelf.Strconv.Itoa3
import Derived.Test.YtoaiaindcmihjaaGreatDoorMvc
import Derived.Lib.LaidTab
import Derived.Lib.AppendIntMem
import Derived.WalkSmall
import Derived.Shelf.Strings.Search3
import Derived.Shelf.Strings.Cut
import Derived.Shelf.Strings.Split
import Derived.Shelf.Strings.Builder1
import Derived.Test.YtoaiaindcmihjaaGreatDoorMva
/-
  Numbers that are read as strconv reads them, and written back.
-/
namespace Go.Proofs.YtoaiaindcmihjaaGreatDoor

theorem dec_eq (n : Nat) : Go.Lib.decDigits n = dec n := by
  induction n using Nat.strongRecOn with
  | ind n ih =>
    by_cases h : n < 10
    · rw [Go.Lib.decDigits_one h, dec_lt h]; rfl
    · rw [Go.Lib.decDigits, dif_neg h, ih (n / 10) (by omega), dec_ge h]; rfl
theorem itoa_nat (n : Nat) : Go.Lib.itoa (n : Int) = dec n := by
  unfold Go.Lib.itoa
  rw [if_neg (by omega), Int.toNat_natCast, dec_eq]
theorem itoa_neg {v : Int} (h : v < 0) : Go.Lib.itoa v = 45 :: dec v.natAbs := by
  unfold Go.Lib.itoa
  rw [if_pos h, dec_eq]
theorem pu_app : ∀ (l r : List UInt8) (acc u : Nat), Go.Lib.parseUint10 acc l = .ok u → Go.Lib.parseUint10 acc (l ++ r) = Go.Lib.parseUint10 u r := by
  intro l
  induction l with
  | nil => intro r acc u h; simp only [Go.Lib.parseUint10] at h; injection h with h; rw [List.nil_append, h]
  | cons c l ih =>
    intro r acc u h
    simp only [Go.Lib.parseUint10, List.cons_append] at h ⊢
    split at h
    · rename_i h1
      split at h
      · cases h
      · rename_i h2
        split at h
        · cases h
        · rename_i h3
          rw [if_pos h1, if_neg h2, if_neg h3]
          exact ih r _ u h
    · cases h
theorem pu_dec : ∀ n : Nat, n < 1000000000000000 → Go.Lib.parseUint10 0 (dec n) = .ok n := by
  intro n
  induction n using Nat.strongRecOn with
  | ind n ih =>
    intro hn
    have one : ∀ (a m : Nat), a < 1000000000000000 → m < 10 → Go.Lib.parseUint10 a [dgt m] = .ok (10 * a + m) := fun a m ha hm => by
      have := dgt_toNat hm
      simp only [Go.Lib.parseUint10]
      rw [this, if_pos (by omega), if_neg (by omega), if_neg (by omega)]
      congr 1; omega
    by_cases h : n < 10
    · rw [dec_lt h, one 0 n (by omega) h]; congr 1; omega
    · rw [dec_ge h, pu_app _ _ _ _ (ih (n / 10) (by omega) (by omega)), one _ _ (by omega) (by omega)]
      congr 1; omega
/-- What is written is read. -/
theorem atoi_dec {n : Nat} (h : n < 1000000000000000) : Go.Lib.atoiAll (dec n) = .ok (n : Int) := by
  have hp := pu_dec n h
  obtain ⟨m, t, h1, h2⟩ := dec_head n
  have hd := dgt_toNat h1
  rw [h2] at hp ⊢
  unfold Go.Lib.atoiAll Go.Lib.parseMag
  simp only
  rw [if_neg (show ¬ ((dgt m).toNat = 43 ∨ (dgt m).toNat = 45) by omega), if_neg (by simp), hp]
  simp only
  rw [if_neg (by omega), if_neg (by omega), if_neg (by omega)]
/-- The number of a field, if it is written so. -/
def rnb (p : List UInt8) : Option Int := match Go.Lib.atoiAll p with
  | .ok v => if Go.Lib.itoa v = p then some v else none
  | _ => none
theorem rnb_some {p : List UInt8} {v : Int} (h : rnb p = some v) : Go.Lib.atoiAll p = .ok v ∧ Go.Lib.itoa v = p := by
  unfold rnb at h
  split at h
  · rename_i u e
    split at h
    · rename_i g; injection h with h; subst h; exact ⟨e, g⟩
    · cases h
  · cases h
theorem rnb_dec {n : Nat} (h : n < 1000000000000000) : rnb (dec n) = some (n : Int) := by
  unfold rnb
  rw [atoi_dec h]
  simp only
  rw [if_pos (itoa_nat n)]
/-- The numbers of the fields, if each one is one. -/
def rds : List (List UInt8) → Option (List Int)
  | [] => some []
  | p :: l => match rnb p, rds l with
    | some v, some r => some (v :: r)
    | _, _ => none
theorem rds_snoc (l : List (List UInt8)) (p : List UInt8) : rds (l ++ [p]) = match rds l, rnb p with
    | some r, some v => some (r ++ [v])
    | _, _ => none := by
  induction l with
  | nil => rw [List.nil_append, rds, rds]; cases rnb p <;> rfl
  | cons q l ih =>
    rw [List.cons_append, rds, ih, rds]
    cases rnb q <;> cases rds l <;> cases rnb p <;> rfl
theorem rds_len {l : List (List UInt8)} {r : List Int} : rds l = some r → r.length = l.length := by
  induction l generalizing r with
  | nil => intro h; rw [rds] at h; injection h with h; rw [← h]; rfl
  | cons q l ih =>
    intro h
    rw [rds] at h
    split at h
    · rename_i v s h1 h2; injection h with h; rw [← h]; simp [ih h2]
    · cases h
theorem rds_none {l r : List (List UInt8)} (h : rds l = none) : rds (l ++ r) = none := by
  induction l with
  | nil => rw [rds] at h; cases h
  | cons q l ih =>
    rw [rds] at h
    rw [List.cons_append, rds]
    split at h
    · cases h
    · rename_i h1
      cases e : rnb q with
      | none => rfl
      | some v =>
        cases e2 : rds l with
        | none => rw [ih e2]
        | some s => exact (h1 v s e e2).elim
theorem rds_decs {l : List Int} (hr : ∀ x ∈ l, 0 ≤ x ∧ x ≤ 63) : rds (l.map (fun x => dec x.toNat)) = some l := by
  induction l with
  | nil => rfl
  | cons x l ih =>
    have hx := hr x (by simp)
    rw [List.map_cons, rds, rnb_dec (by omega), ih (fun y hy => hr y (List.mem_cons_of_mem _ hy)), show ((x.toNat : Nat) : Int) = x by omega]
/-- The names of a text, by its fields F. -/
theorem RT_fields {s : List UInt8} {F : List (List UInt8)} (hF : ∀ l, VNm l = true → TXT l = s → F = (lvs l 6 0 0).map (fun x => dec x.toNat)) (h0 : s = [] → F = []) :
    RT s = match rds F with | some N => if TXT (srt N) = s then some (srt N) else none | none => none := by
  cases hR : RT s with
  | some R =>
    obtain ⟨h1, h2, h3⟩ := RT_iff.1 hR
    obtain ⟨_, hr, _⟩ := VNm_iff.1 h1
    have hp := lvs_perm R 6 0 0 (by simp)
    rw [tfl_zero] at hp
    rw [hF R h1 h3, rds_decs (fun x hx => hr x (hp.mem_iff.1 hx))]
    simp only
    have e : srt (lvs R 6 0 0) = R := by rw [srt_congr hp, srt_id h2]
    rw [e, if_pos h3]
  | none =>
    cases hN : rds F with
    | none => rfl
    | some N =>
      simp only
      by_cases h : TXT (srt N) = s
      · exfalso
        by_cases hs : s = []
        · rw [h0 hs, rds] at hN
          injection hN with hN
          rw [← hN, hs] at h
          have hv0 : VNm (srt []) = true := by rw [VNm_iff]; simp [srt]
          exact TXT_ne.2 hv0 h
        · have hv : VNm (srt N) = true := TXT_ne.1 (by rw [h]; exact hs)
          rw [RT_iff.2 ⟨hv, srt_sorted N, h⟩] at hR
          cases hR
      · rw [if_neg h]
end Go.Proofs.YtoaiaindcmihjaaGreatDoor
/-
  Texts cut at a byte: strings.Cut, Split, Contains in the words of the pieces.
-/
namespace Go.Proofs.YtoaiaindcmihjaaGreatDoor

theorem idx_miss {c : UInt8} : ∀ {s : List UInt8}, c ∉ s → Go.Lib.index s [c] = -1 := by
  intro s
  induction s with
  | nil => intro _; rfl
  | cons x t ih =>
    intro h
    rw [List.mem_cons, not_or] at h
    rw [Go.Lib.index, ih h.2]
    have : ([c] : List UInt8).isPrefixOf (x :: t) = false := by simp [List.isPrefixOf]; exact h.1
    rw [this]; rfl
theorem idx_hit {c : UInt8} : ∀ {a : List UInt8} (b : List UInt8), c ∉ a → Go.Lib.index (a ++ c :: b) [c] = (a.length : Int) := by
  intro a
  induction a with
  | nil => intro b _; rw [List.nil_append, Go.Lib.index]; simp [List.isPrefixOf]
  | cons x a ih =>
    intro b h
    rw [List.mem_cons, not_or] at h
    rw [List.cons_append, Go.Lib.index, ih b h.2]
    have : ([c] : List UInt8).isPrefixOf (x :: (a ++ c :: b)) = false := by simp [List.isPrefixOf]; exact h.1
    rw [this]
    have e : (((a.length : Nat) : Int) == -1) = false := by simp
    rw [e]; simp
theorem first_at {c : UInt8} : ∀ {s : List UInt8}, c ∈ s → ∃ a b, s = a ++ c :: b ∧ c ∉ a := by
  intro s
  induction s with
  | nil => intro h; cases h
  | cons x t ih =>
    intro h
    by_cases e : c = x
    · exact ⟨[], t, by rw [e]; rfl, by simp⟩
    · obtain ⟨a, b, h1, h2⟩ := ih (by rcases List.mem_cons.1 h with h | h; exact absurd h e; exact h)
      exact ⟨x :: a, b, by rw [h1]; rfl, by rw [List.mem_cons, not_or]; exact ⟨e, h2⟩⟩
theorem cut_none {c : UInt8} : ∀ {s : List UInt8} (p : List (List UInt8) × List UInt8), c ∉ s → s.foldl (cst c) p = (p.1, p.2 ++ s) := by
  intro s
  induction s with
  | nil => intro p _; simp
  | cons x t ih =>
    intro p h
    rw [List.mem_cons, not_or] at h
    rw [List.foldl_cons, ih _ h.2, cst, if_neg (fun e => h.1 e.symm)]
    simp
theorem cut_pre (c : UInt8) : ∀ (s : List UInt8) (P : List (List UInt8)) (p : List (List UInt8) × List UInt8), s.foldl (cst c) (P ++ p.1, p.2) = (P ++ (s.foldl (cst c) p).1, (s.foldl (cst c) p).2) := by
  intro s
  induction s with
  | nil => intro P p; rfl
  | cons x t ih =>
    intro P p
    rw [List.foldl_cons, List.foldl_cons]
    unfold cst
    by_cases e : x = c
    · rw [if_pos e, if_pos e]; simp only; rw [List.append_assoc]; exact ih P (p.1 ++ [p.2], [])
    · rw [if_neg e, if_neg e]; exact ih P (p.1, p.2 ++ [x])
theorem pcs_miss {c : UInt8} {s : List UInt8} (h : c ∉ s) : pcs c s = [s] := by
  unfold pcs cut; rw [cut_none _ h]; simp
theorem pcs_hit {c : UInt8} {a : List UInt8} (b : List UInt8) (h : c ∉ a) : pcs c (a ++ c :: b) = a :: pcs c b := by
  unfold pcs cut
  rw [List.foldl_append, cut_none _ h, List.foldl_cons, cst, if_pos rfl]
  simp only [List.nil_append]
  have := cut_pre c b [a] ([], [])
  simp only [List.append_nil] at this
  rw [this]; rfl
theorem pcs_pos (c : UInt8) (s : List UInt8) : 0 < (pcs c s).length := by unfold pcs; simp
/-- strings.Cut at one byte. -/
theorem cutL_miss {c : UInt8} {s : List UInt8} (h : c ∉ s) : Go.Lib.cut s [c] = (s, [], false) := by
  unfold Go.Lib.cut; rw [idx_miss h, if_neg (by omega)]
theorem cutL_hit {c : UInt8} {a : List UInt8} (b : List UInt8) (h : c ∉ a) : Go.Lib.cut (a ++ c :: b) [c] = (a, b, true) := by
  unfold Go.Lib.cut; rw [idx_hit b h, if_pos (by omega), Int.toNat_natCast]; simp
/-- strings.Contains at one byte. -/
theorem has_byte (s : List UInt8) (c : UInt8) : decide (0 ≤ Go.Lib.indexByte s c) = decide (c ∈ s) := by
  have h : ∀ s : List UInt8, (c ∈ s → 0 ≤ Go.Lib.indexByte s c) ∧ (c ∉ s → Go.Lib.indexByte s c = -1) := by
    intro s
    induction s with
    | nil => exact ⟨fun h => by simp at h, fun _ => rfl⟩
    | cons x t ih =>
      unfold Go.Lib.indexByte
      by_cases e : x = c
      · subst e; simp
      · rw [if_neg (by simpa using e)]
        refine ⟨fun h => ?_, fun h => ?_⟩
        · have := ih.1 (by rcases List.mem_cons.1 h with h | h; exact absurd h.symm e; exact h)
          rw [if_neg (by simp; omega)]; omega
        · rw [ih.2 (fun g => h (List.mem_cons_of_mem _ g))]; rfl
  by_cases g : c ∈ s
  · rw [decide_eq_true g, decide_eq_true ((h s).1 g)]
  · rw [decide_eq_false g, decide_eq_false (by have := (h s).2 g; omega)]
/-- strings.Split at one byte. -/
theorem splitK_pcs (c : UInt8) : ∀ n (s : List UInt8), s.length ≤ n → Go.Lib.splitK [c] 0 (Go.Lib.count s [c]) s = pcs c s := by
  intro n
  induction n with
  | zero =>
    intro s h
    obtain rfl : s = [] := List.eq_nil_of_length_eq_zero (by omega)
    rw [Go.Lib.count_miss (idx_miss (by simp)), pcs_miss (by simp)]; rfl
  | succ n ih =>
    intro s h
    by_cases g : c ∈ s
    · obtain ⟨a, b, rfl, h2⟩ := first_at g
      rw [Go.Lib.count_hit (by simp) (idx_hit b h2), pcs_hit b h2, show 1 + Go.Lib.count ((a ++ c :: b).drop (a.length + [c].length)) [c] = Go.Lib.count ((a ++ c :: b).drop (a.length + [c].length)) [c] + 1 by omega, Go.Lib.splitK, idx_hit b h2]
      have e : (((a.length : Nat) : Int) == -1) = false := by simp
      have e2 : (a ++ c :: b).drop (a.length + [c].length) = b := by simp
      rw [e, Int.toNat_natCast, e2, ih b (by simp at h; omega)]
      simp
    · rw [Go.Lib.count_miss (idx_miss g), pcs_miss g]; rfl
theorem split_pcs (c : UInt8) (s : List UInt8) : Go.Lib.splitB (B8 [c]) 0 (Go.Lib.countB (B8 s) (B8 [c])) (B8 s) = (pcs c s).map B8 := by
  have h := Go.Lib.splitB_data (B8 [c]) 0 (Go.Lib.countB (B8 s) (B8 [c])) (B8 s)
  have h2 : Go.Lib.splitK (B8 [c]).data.toList 0 (Go.Lib.countB (B8 s) (B8 [c])) (B8 s).data.toList = pcs c s := splitK_pcs c _ s (Nat.le_refl _)
  rw [h2] at h
  rw [← h, List.map_map]
  exact (List.map_id _).symm
theorem split_count (c : UInt8) (s : List UInt8) : Go.Lib.countB (B8 s) (B8 [c]) + 1 = (pcs c s).length := by
  have h : ∀ n (s : List UInt8), s.length ≤ n → Go.Lib.count s [c] + 1 = (pcs c s).length := by
    intro n
    induction n with
    | zero =>
      intro s h
      obtain rfl : s = [] := List.eq_nil_of_length_eq_zero (by omega)
      rw [Go.Lib.count_miss (idx_miss (by simp)), pcs_miss (by simp)]; rfl
    | succ n ih =>
      intro s h
      by_cases g : c ∈ s
      · obtain ⟨a, b, rfl, h2⟩ := first_at g
        have e2 : (a ++ c :: b).drop (a.length + [c].length) = b := by simp
        rw [Go.Lib.count_hit (by simp) (idx_hit b h2), pcs_hit b h2, e2, List.length_cons, ← ih b (by simp at h; omega)]
        omega
      · rw [Go.Lib.count_miss (idx_miss g), pcs_miss g]; rfl
  exact h _ s (Nat.le_refl _)
/-- strings.Join with commas. -/
theorem join_ltx : ∀ l : List Int, Go.Lib.join (l.map num1) [44] = ltx l := by
  intro l
  unfold Go.Lib.join
  induction l with
  | nil => rfl
  | cons x l ih =>
    cases l with
    | nil => simp [ltx, List.intercalate, List.intersperse]
    | cons y l =>
      rw [ltx, ← ih]
      simp [List.intercalate, List.intersperse]
end Go.Proofs.YtoaiaindcmihjaaGreatDoor
/-
  strings.Split, Index, Cut, Contains, Join, Builder (what the kit's shelf lays, written out: wip/tools/laysay.py prints it).
-/
namespace Go.Proofs
open Go.RowKit
def Tryz.splitA_ren : Go.Shelf.Ren := ⟨fun | 146 => 74 | 221 => 103 | 268 => 133 | 138 => 134 | 143 => 102 | 195 => 162 | 197 => 163 | 218 => 164 | 219 => 123 | 260 => 188 | 217 => 151 | 225 => 152 | 224 => 153 | 267 => 154 | 266 => 174 | 314 => 175 | n => n, fun | 9 => 9 | 31 => 33 | 3 => 3 | 4 => 4 | 0 => 0 | 105 => 182 | 21 => 21 | 5 => 5 | 46 => 114 | 119 => 216 | 139 => 219 | 138 => 218 | 146 => 196 | 51 => 150 | n => n, fun | 1 => 1 | 3 => 5 | 4 => 6 | n => n⟩
theorem Tryz.splitA : Go.Proofs.LaysM.n146 Tryz.prog Tryz.splitA_ren where
  mixed := by kernel_rfl
  f138 := Tryz.func134.trans (congrArg some (by kernel_rfl))
  f143 := Tryz.func102.trans (congrArg some (by kernel_rfl))
  f146 := Tryz.func74.trans (congrArg some (by kernel_rfl))
  f195 := Tryz.func162.trans (congrArg some (by kernel_rfl))
  f197 := Tryz.func163.trans (congrArg some (by kernel_rfl))
  f217 := Tryz.func151.trans (congrArg some (by kernel_rfl))
  f218 := Tryz.func164.trans (congrArg some (by kernel_rfl))
  f219 := Tryz.func123.trans (congrArg some (by kernel_rfl))
  f221 := Tryz.func103.trans (congrArg some (by kernel_rfl))
  f224 := Tryz.func153.trans (congrArg some (by kernel_rfl))
  f225 := Tryz.func152.trans (congrArg some (by kernel_rfl))
  f260 := Tryz.func188.trans (congrArg some (by kernel_rfl))
  f266 := Tryz.func174.trans (congrArg some (by kernel_rfl))
  f267 := Tryz.func154.trans (congrArg some (by kernel_rfl))
  f268 := Tryz.func133.trans (congrArg some (by kernel_rfl))
  f314 := Tryz.func175.trans (congrArg some (by kernel_rfl))
  t0 := Tryz.underlying0
  a0 := Tryz.isAgg0
  z0 := Tryz.sizeOf0
  v0 := Tryz.zeroValue0
  t3 := Tryz.underlying3
  a3 := Tryz.isAgg3
  z3 := Tryz.sizeOf3
  v3 := Tryz.zeroValue3
  t4 := Tryz.underlying4
  a4 := Tryz.isAgg4
  z4 := Tryz.sizeOf4
  v4 := Tryz.zeroValue4
  t5 := Tryz.underlying5
  a5 := Tryz.isAgg5
  z5 := Tryz.sizeOf5
  v5 := Tryz.zeroValue5
  t9 := Tryz.underlying9
  a9 := Tryz.isAgg9
  z9 := Tryz.sizeOf9
  v9 := Tryz.zeroValue9
  t21 := Tryz.underlying21
  a21 := Tryz.isAgg21
  z21 := Tryz.sizeOf21
  v21 := Tryz.zeroValue21
  t31 := Tryz.underlying33
  a31 := Tryz.isAgg33
  z31 := Tryz.sizeOf33
  v31 := Tryz.zeroValue33
  t46 := Tryz.underlying114
  a46 := Tryz.isAgg114
  z46 := Tryz.sizeOf114
  v46 := Tryz.zeroValue114
  t51 := Tryz.underlying150
  a51 := Tryz.isAgg150
  z51 := Tryz.sizeOf150
  v51 := Tryz.zeroValue150
  t105 := Tryz.underlying182
  a105 := Tryz.isAgg182
  z105 := Tryz.sizeOf182
  v105 := Tryz.zeroValue182
  t119 := Tryz.underlying216
  a119 := Tryz.isAgg216
  z119 := Tryz.sizeOf216
  t138 := Tryz.underlying218
  a138 := Tryz.isAgg218
  z138 := Tryz.sizeOf218
  v138 := Tryz.zeroValue218
  t139 := Tryz.underlying219
  a139 := Tryz.isAgg219
  z139 := Tryz.sizeOf219
  v139 := Tryz.zeroValue219
  t146 := Tryz.underlying196
  a146 := Tryz.isAgg196
  z146 := Tryz.sizeOf196
  v146 := Tryz.zeroValue196
  g1 := by kernel_rfl
  g3 := by kernel_rfl
  g4 := by kernel_rfl
  i0 := by kernel_rfl
  i3 := by kernel_rfl
  i4 := by kernel_rfl
  i5 := by kernel_rfl
  i9 := by kernel_rfl
  i21 := by kernel_rfl
  i31 := by kernel_rfl
  i46 := by kernel_rfl
  i51 := by kernel_rfl
  i105 := by kernel_rfl
  i138 := by kernel_rfl
  i139 := by kernel_rfl
  i146 := by kernel_rfl
  m1 := by kernel_rfl
  s1_3 := fun w h => Go.Proofs.cell_of_shapedOpen_int (zero := #[.int .i64 0]) (t := 3) h (of_decide_eq_true (by kernel_rfl)) (by kernel_rfl) rfl (by kernel_rfl) (by kernel_rfl) Tryz.underlying3
  m3 := by kernel_rfl
  m4 := by kernel_rfl
def Tryz.indexA_ren : Go.Shelf.Ren := ⟨fun | 143 => 102 | 219 => 123 | 217 => 151 | 225 => 152 | 224 => 153 | 267 => 154 | 266 => 174 | 314 => 175 | n => n, fun | 9 => 9 | 3 => 3 | 4 => 4 | 5 => 5 | 46 => 114 | 146 => 196 | 51 => 150 | n => n, fun | 1 => 1 | n => n⟩
theorem Tryz.indexA : Go.Proofs.Lays.n143 Tryz.prog Tryz.indexA_ren where
  mixed := by kernel_rfl
  f143 := Tryz.func102.trans (congrArg some (by kernel_rfl))
  f217 := Tryz.func151.trans (congrArg some (by kernel_rfl))
  f219 := Tryz.func123.trans (congrArg some (by kernel_rfl))
  f224 := Tryz.func153.trans (congrArg some (by kernel_rfl))
  f225 := Tryz.func152.trans (congrArg some (by kernel_rfl))
  f266 := Tryz.func174.trans (congrArg some (by kernel_rfl))
  f267 := Tryz.func154.trans (congrArg some (by kernel_rfl))
  f314 := Tryz.func175.trans (congrArg some (by kernel_rfl))
  t3 := Tryz.underlying3
  a3 := Tryz.isAgg3
  z3 := Tryz.sizeOf3
  v3 := Tryz.zeroValue3
  t4 := Tryz.underlying4
  a4 := Tryz.isAgg4
  z4 := Tryz.sizeOf4
  v4 := Tryz.zeroValue4
  t5 := Tryz.underlying5
  a5 := Tryz.isAgg5
  z5 := Tryz.sizeOf5
  v5 := Tryz.zeroValue5
  t9 := Tryz.underlying9
  a9 := Tryz.isAgg9
  z9 := Tryz.sizeOf9
  v9 := Tryz.zeroValue9
  t46 := Tryz.underlying114
  a46 := Tryz.isAgg114
  z46 := Tryz.sizeOf114
  v46 := Tryz.zeroValue114
  t51 := Tryz.underlying150
  a51 := Tryz.isAgg150
  z51 := Tryz.sizeOf150
  v51 := Tryz.zeroValue150
  t146 := Tryz.underlying196
  a146 := Tryz.isAgg196
  z146 := Tryz.sizeOf196
  v146 := Tryz.zeroValue196
  g1 := by kernel_rfl
def Tryz.cutA_ren : Go.Shelf.Ren := ⟨fun | 145 => 71 | 220 => 93 | 219 => 123 | 217 => 151 | 225 => 152 | 224 => 153 | 267 => 154 | 266 => 174 | 314 => 175 | n => n, fun | 9 => 9 | 4 => 4 | 59 => 100 | 3 => 3 | 5 => 5 | 46 => 114 | 146 => 196 | 51 => 150 | n => n, fun | 1 => 1 | n => n⟩
theorem Tryz.cutA : Go.Proofs.LaysM.n145 Tryz.prog Tryz.cutA_ren where
  mixed := by kernel_rfl
  f145 := Tryz.func71.trans (congrArg some (by kernel_rfl))
  f217 := Tryz.func151.trans (congrArg some (by kernel_rfl))
  f219 := Tryz.func123.trans (congrArg some (by kernel_rfl))
  f220 := Tryz.func93.trans (congrArg some (by kernel_rfl))
  f224 := Tryz.func153.trans (congrArg some (by kernel_rfl))
  f225 := Tryz.func152.trans (congrArg some (by kernel_rfl))
  f266 := Tryz.func174.trans (congrArg some (by kernel_rfl))
  f267 := Tryz.func154.trans (congrArg some (by kernel_rfl))
  f314 := Tryz.func175.trans (congrArg some (by kernel_rfl))
  t3 := Tryz.underlying3
  a3 := Tryz.isAgg3
  z3 := Tryz.sizeOf3
  v3 := Tryz.zeroValue3
  t4 := Tryz.underlying4
  a4 := Tryz.isAgg4
  z4 := Tryz.sizeOf4
  v4 := Tryz.zeroValue4
  t5 := Tryz.underlying5
  a5 := Tryz.isAgg5
  z5 := Tryz.sizeOf5
  v5 := Tryz.zeroValue5
  t9 := Tryz.underlying9
  a9 := Tryz.isAgg9
  z9 := Tryz.sizeOf9
  v9 := Tryz.zeroValue9
  t46 := Tryz.underlying114
  a46 := Tryz.isAgg114
  z46 := Tryz.sizeOf114
  v46 := Tryz.zeroValue114
  t51 := Tryz.underlying150
  a51 := Tryz.isAgg150
  z51 := Tryz.sizeOf150
  v51 := Tryz.zeroValue150
  t59 := Tryz.underlying100
  a59 := Tryz.isAgg100
  z59 := Tryz.sizeOf100
  v59 := Tryz.zeroValue100
  t146 := Tryz.underlying196
  a146 := Tryz.isAgg196
  z146 := Tryz.sizeOf196
  v146 := Tryz.zeroValue196
  g1 := by kernel_rfl
  i3 := by kernel_rfl
  i4 := by kernel_rfl
  i5 := by kernel_rfl
  i9 := by kernel_rfl
  i46 := by kernel_rfl
  i51 := by kernel_rfl
  i59 := by kernel_rfl
  i146 := by kernel_rfl
  m1 := by kernel_rfl
  s1_3 := fun w h => Go.Proofs.cell_of_shapedOpen_int (zero := #[.int .i64 0]) (t := 3) h (of_decide_eq_true (by kernel_rfl)) (by kernel_rfl) rfl (by kernel_rfl) (by kernel_rfl) Tryz.underlying3
def Tryz.containsA_ren : Go.Shelf.Ren := ⟨fun | 144 => 73 | 143 => 102 | 219 => 123 | 217 => 151 | 225 => 152 | 224 => 153 | 267 => 154 | 266 => 174 | 314 => 175 | n => n, fun | 9 => 9 | 4 => 4 | 3 => 3 | 5 => 5 | 46 => 114 | 146 => 196 | 51 => 150 | n => n, fun | 1 => 1 | n => n⟩
theorem Tryz.containsA : Go.Proofs.Lays.n144 Tryz.prog Tryz.containsA_ren where
  mixed := by kernel_rfl
  f143 := Tryz.func102.trans (congrArg some (by kernel_rfl))
  f144 := Tryz.func73.trans (congrArg some (by kernel_rfl))
  f217 := Tryz.func151.trans (congrArg some (by kernel_rfl))
  f219 := Tryz.func123.trans (congrArg some (by kernel_rfl))
  f224 := Tryz.func153.trans (congrArg some (by kernel_rfl))
  f225 := Tryz.func152.trans (congrArg some (by kernel_rfl))
  f266 := Tryz.func174.trans (congrArg some (by kernel_rfl))
  f267 := Tryz.func154.trans (congrArg some (by kernel_rfl))
  f314 := Tryz.func175.trans (congrArg some (by kernel_rfl))
  t3 := Tryz.underlying3
  a3 := Tryz.isAgg3
  z3 := Tryz.sizeOf3
  v3 := Tryz.zeroValue3
  t4 := Tryz.underlying4
  a4 := Tryz.isAgg4
  z4 := Tryz.sizeOf4
  v4 := Tryz.zeroValue4
  t5 := Tryz.underlying5
  a5 := Tryz.isAgg5
  z5 := Tryz.sizeOf5
  v5 := Tryz.zeroValue5
  t9 := Tryz.underlying9
  a9 := Tryz.isAgg9
  z9 := Tryz.sizeOf9
  v9 := Tryz.zeroValue9
  t46 := Tryz.underlying114
  a46 := Tryz.isAgg114
  z46 := Tryz.sizeOf114
  v46 := Tryz.zeroValue114
  t51 := Tryz.underlying150
  a51 := Tryz.isAgg150
  z51 := Tryz.sizeOf150
  v51 := Tryz.zeroValue150
  t146 := Tryz.underlying196
  a146 := Tryz.isAgg196
  z146 := Tryz.sizeOf196
  v146 := Tryz.zeroValue196
  g1 := by kernel_rfl
def Tryz.strA_ren : Go.Shelf.Ren := ⟨fun | 169 => 49 | n => n, fun | 70 => 66 | 9 => 9 | 0 => 0 | 72 => 68 | 37 => 22 | 127 => 105 | 3 => 3 | 5 => 5 | n => n, fun | n => n⟩
theorem Tryz.strA : Go.Proofs.Lays.n169 Tryz.prog Tryz.strA_ren where
  mixed := by kernel_rfl
  f169 := Tryz.func49.trans (congrArg some (by kernel_rfl))
  t0 := Tryz.underlying0
  a0 := Tryz.isAgg0
  z0 := Tryz.sizeOf0
  v0 := Tryz.zeroValue0
  t3 := Tryz.underlying3
  a3 := Tryz.isAgg3
  z3 := Tryz.sizeOf3
  v3 := Tryz.zeroValue3
  t9 := Tryz.underlying9
  a9 := Tryz.isAgg9
  z9 := Tryz.sizeOf9
  v9 := Tryz.zeroValue9
  t37 := Tryz.underlying22
  a37 := Tryz.isAgg22
  z37 := Tryz.sizeOf22
  v37 := Tryz.zeroValue22
  t70 := Tryz.underlying66
  a70 := Tryz.isAgg66
  z70 := Tryz.sizeOf66
  v70 := Tryz.zeroValue66
  t72 := Tryz.underlying68
  a72 := Tryz.isAgg68
  z72 := Tryz.sizeOf68
  v72 := Tryz.zeroValue68
  t127 := Tryz.underlying105
  a127 := Tryz.isAgg105
  z127 := Tryz.sizeOf105
  v127 := Tryz.zeroValue105
def Tryz.joinA_ren : Go.Shelf.Ren := ⟨fun | 156 => 128 | 165 => 156 | 166 => 47 | 169 => 49 | 240 => 70 | 241 => 176 | 276 => 92 | 277 => 193 | n => n, fun | 31 => 33 | 9 => 9 | 3 => 3 | 4 => 4 | 0 => 0 | 20 => 20 | 72 => 68 | 76 => 69 | 70 => 66 | 37 => 22 | 75 => 53 | 127 => 105 | 164 => 86 | 5 => 5 | 80 => 50 | n => n, fun | n => n⟩
theorem Tryz.joinA : Go.Proofs.Lays.n156 Tryz.prog Tryz.joinA_ren where
  mixed := by kernel_rfl
  f156 := Tryz.func128.trans (congrArg some (by kernel_rfl))
  f165 := Tryz.func156.trans (congrArg some (by kernel_rfl))
  f166 := Tryz.func47.trans (congrArg some (by kernel_rfl))
  f169 := Tryz.func49.trans (congrArg some (by kernel_rfl))
  f240 := Tryz.func70.trans (congrArg some (by kernel_rfl))
  f241 := Tryz.func176.trans (congrArg some (by kernel_rfl))
  f276 := Tryz.func92.trans (congrArg some (by kernel_rfl))
  f277 := Tryz.func193.trans (congrArg some (by kernel_rfl))
  t0 := Tryz.underlying0
  a0 := Tryz.isAgg0
  z0 := Tryz.sizeOf0
  v0 := Tryz.zeroValue0
  t3 := Tryz.underlying3
  a3 := Tryz.isAgg3
  z3 := Tryz.sizeOf3
  v3 := Tryz.zeroValue3
  t4 := Tryz.underlying4
  a4 := Tryz.isAgg4
  z4 := Tryz.sizeOf4
  v4 := Tryz.zeroValue4
  t9 := Tryz.underlying9
  a9 := Tryz.isAgg9
  z9 := Tryz.sizeOf9
  v9 := Tryz.zeroValue9
  t20 := Tryz.underlying20
  a20 := Tryz.isAgg20
  z20 := Tryz.sizeOf20
  v20 := Tryz.zeroValue20
  t31 := Tryz.underlying33
  a31 := Tryz.isAgg33
  z31 := Tryz.sizeOf33
  v31 := Tryz.zeroValue33
  t37 := Tryz.underlying22
  a37 := Tryz.isAgg22
  z37 := Tryz.sizeOf22
  v37 := Tryz.zeroValue22
  t70 := Tryz.underlying66
  a70 := Tryz.isAgg66
  z70 := Tryz.sizeOf66
  v70 := Tryz.zeroValue66
  t72 := Tryz.underlying68
  a72 := Tryz.isAgg68
  z72 := Tryz.sizeOf68
  v72 := Tryz.zeroValue68
  t75 := Tryz.underlying53
  a75 := Tryz.isAgg53
  z75 := Tryz.sizeOf53
  v75 := Tryz.zeroValue53
  t76 := Tryz.underlying69
  a76 := Tryz.isAgg69
  z76 := Tryz.sizeOf69
  v76 := Tryz.zeroValue69
  t127 := Tryz.underlying105
  a127 := Tryz.isAgg105
  z127 := Tryz.sizeOf105
  v127 := Tryz.zeroValue105
  t164 := Tryz.underlying86
  a164 := Tryz.isAgg86
  z164 := Tryz.sizeOf86
  v164 := Tryz.zeroValue86
end Go.Proofs
/-
  strconv.Atoi (what the kit's shelf lays, written out: wip/tools/laysay.py prints it).
-/
namespace Go.Proofs
open Go.RowKit
def Tryz.atoiA_ren : Go.Shelf.Ren := ⟨fun | 172 => 88 | 244 => 121 | 245 => 122 | 247 => 146 | 279 => 147 | 280 => 148 | 281 => 149 | 282 => 150 | 287 => 171 | 316 => 172 | 171 => 57 | 205 => 173 | 321 => 191 | 322 => 192 | 243 => 87 | 246 => 120 | 283 => 142 | 284 => 143 | 285 => 144 | 286 => 145 | 129 => 118 | 317 => 167 | 318 => 168 | 319 => 169 | 320 => 170 | 337 => 189 | 338 => 190 | n => n, fun | 9 => 9 | 3 => 3 | 75 => 53 | 76 => 69 | 4 => 4 | 5 => 5 | 167 => 174 | 37 => 22 | 0 => 0 | 85 => 175 | 2 => 2 | 168 => 177 | 53 => 152 | 175 => 191 | 46 => 114 | 210 => 194 | 127 => 105 | 145 => 209 | 143 => 207 | 21 => 21 | 171 => 170 | 173 => 172 | 212 => 189 | 51 => 150 | 20 => 20 | 213 => 190 | 232 => 220 | 233 => 221 | 80 => 50 | n => n, fun | 15 => 3 | 16 => 4 | 17 => 2 | 18 => 7 | 19 => 8 | n => n⟩
theorem Tryz.atoiA : Go.Proofs.LaysC.n172 Tryz.prog Tryz.atoiA_ren where
  mixed := by kernel_rfl
  f129 := Tryz.func118.trans (congrArg some (by kernel_rfl))
  f171 := Tryz.func57.trans (congrArg some (by kernel_rfl))
  f172 := Tryz.func88.trans (congrArg some (by kernel_rfl))
  f205 := Tryz.func173.trans (congrArg some (by kernel_rfl))
  f243 := Tryz.func87.trans (congrArg some (by kernel_rfl))
  f244 := Tryz.func121.trans (congrArg some (by kernel_rfl))
  f245 := Tryz.func122.trans (congrArg some (by kernel_rfl))
  f246 := Tryz.func120.trans (congrArg some (by kernel_rfl))
  f247 := Tryz.func146.trans (congrArg some (by kernel_rfl))
  f279 := Tryz.func147.trans (congrArg some (by kernel_rfl))
  f280 := Tryz.func148.trans (congrArg some (by kernel_rfl))
  f281 := Tryz.func149.trans (congrArg some (by kernel_rfl))
  f282 := Tryz.func150.trans (congrArg some (by kernel_rfl))
  f283 := Tryz.func142.trans (congrArg some (by kernel_rfl))
  f284 := Tryz.func143.trans (congrArg some (by kernel_rfl))
  f285 := Tryz.func144.trans (congrArg some (by kernel_rfl))
  f286 := Tryz.func145.trans (congrArg some (by kernel_rfl))
  f287 := Tryz.func171.trans (congrArg some (by kernel_rfl))
  f316 := Tryz.func172.trans (congrArg some (by kernel_rfl))
  f317 := Tryz.func167.trans (congrArg some (by kernel_rfl))
  f318 := Tryz.func168.trans (congrArg some (by kernel_rfl))
  f319 := Tryz.func169.trans (congrArg some (by kernel_rfl))
  f320 := Tryz.func170.trans (congrArg some (by kernel_rfl))
  f321 := Tryz.func191.trans (congrArg some (by kernel_rfl))
  f322 := Tryz.func192.trans (congrArg some (by kernel_rfl))
  f337 := Tryz.func189.trans (congrArg some (by kernel_rfl))
  f338 := Tryz.func190.trans (congrArg some (by kernel_rfl))
  t0 := Tryz.underlying0
  a0 := Tryz.isAgg0
  z0 := Tryz.sizeOf0
  v0 := Tryz.zeroValue0
  t2 := Tryz.underlying2
  a2 := Tryz.isAgg2
  z2 := Tryz.sizeOf2
  v2 := Tryz.zeroValue2
  t3 := Tryz.underlying3
  a3 := Tryz.isAgg3
  z3 := Tryz.sizeOf3
  v3 := Tryz.zeroValue3
  t4 := Tryz.underlying4
  a4 := Tryz.isAgg4
  z4 := Tryz.sizeOf4
  v4 := Tryz.zeroValue4
  t5 := Tryz.underlying5
  a5 := Tryz.isAgg5
  z5 := Tryz.sizeOf5
  v5 := Tryz.zeroValue5
  t9 := Tryz.underlying9
  a9 := Tryz.isAgg9
  z9 := Tryz.sizeOf9
  v9 := Tryz.zeroValue9
  t20 := Tryz.underlying20
  a20 := Tryz.isAgg20
  z20 := Tryz.sizeOf20
  v20 := Tryz.zeroValue20
  t21 := Tryz.underlying21
  a21 := Tryz.isAgg21
  z21 := Tryz.sizeOf21
  v21 := Tryz.zeroValue21
  t37 := Tryz.underlying22
  a37 := Tryz.isAgg22
  z37 := Tryz.sizeOf22
  v37 := Tryz.zeroValue22
  t46 := Tryz.underlying114
  a46 := Tryz.isAgg114
  z46 := Tryz.sizeOf114
  v46 := Tryz.zeroValue114
  t51 := Tryz.underlying150
  a51 := Tryz.isAgg150
  z51 := Tryz.sizeOf150
  v51 := Tryz.zeroValue150
  t53 := Tryz.underlying152
  a53 := Tryz.isAgg152
  z53 := Tryz.sizeOf152
  v53 := Tryz.zeroValue152
  t75 := Tryz.underlying53
  a75 := Tryz.isAgg53
  z75 := Tryz.sizeOf53
  v75 := Tryz.zeroValue53
  t76 := Tryz.underlying69
  a76 := Tryz.isAgg69
  z76 := Tryz.sizeOf69
  v76 := Tryz.zeroValue69
  t85 := Tryz.underlying175
  a85 := Tryz.isAgg175
  z85 := Tryz.sizeOf175
  v85 := Tryz.zeroValue175
  t127 := Tryz.underlying105
  a127 := Tryz.isAgg105
  z127 := Tryz.sizeOf105
  v127 := Tryz.zeroValue105
  t143 := Tryz.underlying207
  a143 := Tryz.isAgg207
  z143 := Tryz.sizeOf207
  v143 := Tryz.zeroValue207
  t145 := Tryz.underlying209
  a145 := Tryz.isAgg209
  z145 := Tryz.sizeOf209
  v145 := Tryz.zeroValue209
  t167 := Tryz.underlying174
  a167 := Tryz.isAgg174
  z167 := Tryz.sizeOf174
  v167 := Tryz.zeroValue174
  t168 := Tryz.underlying177
  a168 := Tryz.isAgg177
  z168 := Tryz.sizeOf177
  v168 := Tryz.zeroValue177
  t171 := Tryz.underlying170
  a171 := Tryz.isAgg170
  z171 := Tryz.sizeOf170
  v171 := Tryz.zeroValue170
  t173 := Tryz.underlying172
  a173 := Tryz.isAgg172
  z173 := Tryz.sizeOf172
  v173 := Tryz.zeroValue172
  t175 := Tryz.underlying191
  a175 := Tryz.isAgg191
  z175 := Tryz.sizeOf191
  v175 := Tryz.zeroValue191
  t210 := Tryz.underlying194
  a210 := Tryz.isAgg194
  z210 := Tryz.sizeOf194
  v210 := Tryz.zeroValue194
  t212 := Tryz.underlying189
  a212 := Tryz.isAgg189
  z212 := Tryz.sizeOf189
  v212 := Tryz.zeroValue189
  t213 := Tryz.underlying190
  a213 := Tryz.isAgg190
  z213 := Tryz.sizeOf190
  t232 := Tryz.underlying220
  a232 := Tryz.isAgg220
  z232 := Tryz.sizeOf220
  v232 := Tryz.zeroValue220
  t233 := Tryz.underlying221
  a233 := Tryz.isAgg221
  z233 := Tryz.sizeOf221
  v233 := Tryz.zeroValue221
  g15 := by kernel_rfl
  g16 := by kernel_rfl
  g17 := by kernel_rfl
  g18 := by kernel_rfl
  g19 := by kernel_rfl
  t80 := Tryz.underlying50
  a80 := Tryz.isAgg50
  z80 := Tryz.sizeOf50
  v80 := Tryz.zeroValue50
  i0 := by kernel_rfl
  i2 := by kernel_rfl
  i3 := by kernel_rfl
  i4 := by kernel_rfl
  i5 := by kernel_rfl
  i9 := by kernel_rfl
  i20 := by kernel_rfl
  i21 := by kernel_rfl
  i37 := by kernel_rfl
  i46 := by kernel_rfl
  i51 := by kernel_rfl
  i53 := by kernel_rfl
  i75 := by kernel_rfl
  i76 := by kernel_rfl
  i80 := by kernel_rfl
  i85 := by kernel_rfl
  i127 := by kernel_rfl
  i143 := by kernel_rfl
  i145 := by kernel_rfl
  i167 := by kernel_rfl
  i168 := by kernel_rfl
  i171 := by kernel_rfl
  i173 := by kernel_rfl
  i175 := by kernel_rfl
  i210 := by kernel_rfl
  i212 := by kernel_rfl
  i232 := by kernel_rfl
  i233 := by kernel_rfl
  m15 := by kernel_rfl
  m16 := by kernel_rfl
  m17 := by kernel_rfl
  m18 := by kernel_rfl
  m19 := by kernel_rfl
  c0 := by kernel_rfl
  c2 := by kernel_rfl
  c3 := by kernel_rfl
  c4 := by kernel_rfl
  c5 := by kernel_rfl
  c9 := by kernel_rfl
  c20 := by kernel_rfl
  c21 := by kernel_rfl
  c37 := by kernel_rfl
  c46 := by kernel_rfl
  c51 := by kernel_rfl
  c53 := by kernel_rfl
  c75 := by kernel_rfl
  c76 := by kernel_rfl
  c80 := by kernel_rfl
  c85 := by kernel_rfl
  c127 := by kernel_rfl
  c143 := by kernel_rfl
  c145 := by kernel_rfl
  c167 := by kernel_rfl
  c168 := by kernel_rfl
  c171 := by kernel_rfl
  c173 := by kernel_rfl
  c175 := by kernel_rfl
  c210 := by kernel_rfl
  c212 := by kernel_rfl
  c213 := by kernel_rfl
  c232 := by kernel_rfl
  c233 := by kernel_rfl
end Go.Proofs
/-
  strconv.Itoa (what the kit's shelf lays, written out: wip/tools/laysay.py prints it).
-/
namespace Go.Proofs
open Go.RowKit
def Tryz.itoaA_ren : Go.Shelf.Ren := ⟨fun | 171 => 57 | 243 => 87 | 246 => 120 | 283 => 142 | 284 => 143 | 285 => 144 | 286 => 145 | 129 => 118 | 317 => 167 | 318 => 168 | 319 => 169 | 320 => 170 | 337 => 189 | 338 => 190 | n => n, fun | 3 => 3 | 9 => 9 | 2 => 2 | 4 => 4 | 171 => 170 | 0 => 0 | 53 => 152 | 37 => 22 | 5 => 5 | 173 => 172 | 212 => 189 | 51 => 150 | 20 => 20 | 213 => 190 | 46 => 114 | 232 => 220 | 233 => 221 | n => n, fun | 17 => 2 | 18 => 7 | 19 => 8 | n => n⟩
theorem Tryz.itoaA : Go.Proofs.Lays.n171 Tryz.prog Tryz.itoaA_ren where
  mixed := by kernel_rfl
  f129 := Tryz.func118.trans (congrArg some (by kernel_rfl))
  f171 := Tryz.func57.trans (congrArg some (by kernel_rfl))
  f243 := Tryz.func87.trans (congrArg some (by kernel_rfl))
  f246 := Tryz.func120.trans (congrArg some (by kernel_rfl))
  f283 := Tryz.func142.trans (congrArg some (by kernel_rfl))
  f284 := Tryz.func143.trans (congrArg some (by kernel_rfl))
  f285 := Tryz.func144.trans (congrArg some (by kernel_rfl))
  f286 := Tryz.func145.trans (congrArg some (by kernel_rfl))
  f317 := Tryz.func167.trans (congrArg some (by kernel_rfl))
  f318 := Tryz.func168.trans (congrArg some (by kernel_rfl))
  f319 := Tryz.func169.trans (congrArg some (by kernel_rfl))
  f320 := Tryz.func170.trans (congrArg some (by kernel_rfl))
  f337 := Tryz.func189.trans (congrArg some (by kernel_rfl))
  f338 := Tryz.func190.trans (congrArg some (by kernel_rfl))
  t0 := Tryz.underlying0
  a0 := Tryz.isAgg0
  z0 := Tryz.sizeOf0
  v0 := Tryz.zeroValue0
  t2 := Tryz.underlying2
  a2 := Tryz.isAgg2
  z2 := Tryz.sizeOf2
  v2 := Tryz.zeroValue2
  t3 := Tryz.underlying3
  a3 := Tryz.isAgg3
  z3 := Tryz.sizeOf3
  v3 := Tryz.zeroValue3
  t4 := Tryz.underlying4
  a4 := Tryz.isAgg4
  z4 := Tryz.sizeOf4
  v4 := Tryz.zeroValue4
  t5 := Tryz.underlying5
  a5 := Tryz.isAgg5
  z5 := Tryz.sizeOf5
  v5 := Tryz.zeroValue5
  t9 := Tryz.underlying9
  a9 := Tryz.isAgg9
  z9 := Tryz.sizeOf9
  v9 := Tryz.zeroValue9
  t20 := Tryz.underlying20
  a20 := Tryz.isAgg20
  z20 := Tryz.sizeOf20
  v20 := Tryz.zeroValue20
  t37 := Tryz.underlying22
  a37 := Tryz.isAgg22
  z37 := Tryz.sizeOf22
  v37 := Tryz.zeroValue22
  t46 := Tryz.underlying114
  a46 := Tryz.isAgg114
  z46 := Tryz.sizeOf114
  v46 := Tryz.zeroValue114
  t51 := Tryz.underlying150
  a51 := Tryz.isAgg150
  z51 := Tryz.sizeOf150
  v51 := Tryz.zeroValue150
  t53 := Tryz.underlying152
  a53 := Tryz.isAgg152
  z53 := Tryz.sizeOf152
  v53 := Tryz.zeroValue152
  t171 := Tryz.underlying170
  a171 := Tryz.isAgg170
  z171 := Tryz.sizeOf170
  v171 := Tryz.zeroValue170
  t173 := Tryz.underlying172
  a173 := Tryz.isAgg172
  z173 := Tryz.sizeOf172
  v173 := Tryz.zeroValue172
  t212 := Tryz.underlying189
  a212 := Tryz.isAgg189
  z212 := Tryz.sizeOf189
  v212 := Tryz.zeroValue189
  t213 := Tryz.underlying190
  a213 := Tryz.isAgg190
  z213 := Tryz.sizeOf190
  t232 := Tryz.underlying220
  a232 := Tryz.isAgg220
  z232 := Tryz.sizeOf220
  v232 := Tryz.zeroValue220
  t233 := Tryz.underlying221
  a233 := Tryz.isAgg221
  z233 := Tryz.sizeOf221
  v233 := Tryz.zeroValue221
  g17 := by kernel_rfl
  g18 := by kernel_rfl
  g19 := by kernel_rfl
def Tryz.itoaM_ren : Go.Shelf.Ren := ⟨fun | 171 => 57 | 243 => 87 | 246 => 120 | 283 => 142 | 284 => 143 | 285 => 144 | 286 => 145 | 129 => 118 | 317 => 167 | 318 => 168 | 319 => 169 | 320 => 170 | 337 => 189 | 338 => 190 | n => n, fun | 3 => 3 | 9 => 9 | 2 => 2 | 4 => 4 | 171 => 170 | 0 => 0 | 53 => 152 | 37 => 22 | 5 => 5 | 173 => 172 | 212 => 189 | 51 => 150 | 20 => 20 | 213 => 190 | 46 => 114 | 232 => 220 | 233 => 221 | n => n, fun | 17 => 2 | 18 => 7 | 19 => 8 | n => n⟩
theorem Tryz.itoaM : Go.Proofs.LaysM.n171 Tryz.prog Tryz.itoaM_ren where
  mixed := by kernel_rfl
  f129 := Tryz.func118.trans (congrArg some (by kernel_rfl))
  f171 := Tryz.func57.trans (congrArg some (by kernel_rfl))
  f243 := Tryz.func87.trans (congrArg some (by kernel_rfl))
  f246 := Tryz.func120.trans (congrArg some (by kernel_rfl))
  f283 := Tryz.func142.trans (congrArg some (by kernel_rfl))
  f284 := Tryz.func143.trans (congrArg some (by kernel_rfl))
  f285 := Tryz.func144.trans (congrArg some (by kernel_rfl))
  f286 := Tryz.func145.trans (congrArg some (by kernel_rfl))
  f317 := Tryz.func167.trans (congrArg some (by kernel_rfl))
  f318 := Tryz.func168.trans (congrArg some (by kernel_rfl))
  f319 := Tryz.func169.trans (congrArg some (by kernel_rfl))
  f320 := Tryz.func170.trans (congrArg some (by kernel_rfl))
  f337 := Tryz.func189.trans (congrArg some (by kernel_rfl))
  f338 := Tryz.func190.trans (congrArg some (by kernel_rfl))
  t0 := Tryz.underlying0
  a0 := Tryz.isAgg0
  z0 := Tryz.sizeOf0
  v0 := Tryz.zeroValue0
  t2 := Tryz.underlying2
  a2 := Tryz.isAgg2
  z2 := Tryz.sizeOf2
  v2 := Tryz.zeroValue2
  t3 := Tryz.underlying3
  a3 := Tryz.isAgg3
  z3 := Tryz.sizeOf3
  v3 := Tryz.zeroValue3
  t4 := Tryz.underlying4
  a4 := Tryz.isAgg4
  z4 := Tryz.sizeOf4
  v4 := Tryz.zeroValue4
  t5 := Tryz.underlying5
  a5 := Tryz.isAgg5
  z5 := Tryz.sizeOf5
  v5 := Tryz.zeroValue5
  t9 := Tryz.underlying9
  a9 := Tryz.isAgg9
  z9 := Tryz.sizeOf9
  v9 := Tryz.zeroValue9
  t20 := Tryz.underlying20
  a20 := Tryz.isAgg20
  z20 := Tryz.sizeOf20
  v20 := Tryz.zeroValue20
  t37 := Tryz.underlying22
  a37 := Tryz.isAgg22
  z37 := Tryz.sizeOf22
  v37 := Tryz.zeroValue22
  t46 := Tryz.underlying114
  a46 := Tryz.isAgg114
  z46 := Tryz.sizeOf114
  v46 := Tryz.zeroValue114
  t51 := Tryz.underlying150
  a51 := Tryz.isAgg150
  z51 := Tryz.sizeOf150
  v51 := Tryz.zeroValue150
  t53 := Tryz.underlying152
  a53 := Tryz.isAgg152
  z53 := Tryz.sizeOf152
  v53 := Tryz.zeroValue152
  t171 := Tryz.underlying170
  a171 := Tryz.isAgg170
  z171 := Tryz.sizeOf170
  v171 := Tryz.zeroValue170
  t173 := Tryz.underlying172
  a173 := Tryz.isAgg172
  z173 := Tryz.sizeOf172
  v173 := Tryz.zeroValue172
  t212 := Tryz.underlying189
  a212 := Tryz.isAgg189
  z212 := Tryz.sizeOf189
  v212 := Tryz.zeroValue189
  t213 := Tryz.underlying190
  a213 := Tryz.isAgg190
  z213 := Tryz.sizeOf190
  t232 := Tryz.underlying220
  a232 := Tryz.isAgg220
  z232 := Tryz.sizeOf220
  v232 := Tryz.zeroValue220
  t233 := Tryz.underlying221
  a233 := Tryz.isAgg221
  z233 := Tryz.sizeOf221
  v233 := Tryz.zeroValue221
  g17 := by kernel_rfl
  g18 := by kernel_rfl
  g19 := by kernel_rfl
  i0 := by kernel_rfl
  i2 := by kernel_rfl
  i3 := by kernel_rfl
  i4 := by kernel_rfl
  i5 := by kernel_rfl
  i9 := by kernel_rfl
  i20 := by kernel_rfl
  i37 := by kernel_rfl
  i46 := by kernel_rfl
  i51 := by kernel_rfl
  i53 := by kernel_rfl
  i171 := by kernel_rfl
  i173 := by kernel_rfl
  i212 := by kernel_rfl
  i232 := by kernel_rfl
  i233 := by kernel_rfl
  m17 := by kernel_rfl
  m18 := by kernel_rfl
  m19 := by kernel_rfl
end Go.Proofs
namespace Go.Proofs.YtoaiaindcmihjaaGreatDoor
open Go.RowKit
theorem itoaS_any (i : Nat) (w : World) (hi : i < 100) : Calls Tryz.prog 57 #[.int .i64 (i : Int)] w fun e w' => e = .returned (.string (B8 (dec i))) ∧ w = w' := by
  have c := Any.strconv_Itoa_small Tryz.itoaA i hi w
  rw [dec_eq] at c
  exact c.mono (fun e w' h => ⟨h.1, h.2.symm⟩)
end Go.Proofs.YtoaiaindcmihjaaGreatDoor
/-
  What the listed variables hold; strconv.Atoi, Itoa; impl.readNumbers.
-/
namespace Go.Proofs.YtoaiaindcmihjaaGreatDoor
open Go.RowKit

/-- The table of powers of ten, and two errors of strconv's. -/
abbrev GN (w : World) : Prop := Go.Lib.TabIs Tryz.prog w "internal/strconv.uint64pow10" .u64 Go.Lib.pow10Tab ∧ (∃ tp p, w.cell? ⟨3, 0, none⟩ = some (.iface tp p)) ∧ (∃ tp p, w.cell? ⟨4, 0, none⟩ = some (.iface tp p))
theorem gPow : Tryz.prog.globalNamed "internal/strconv.uint64pow10" = some 2 := by kernel_rfl
theorem tab_lt {w : World} (h : Go.Lib.TabIs Tryz.prog w "internal/strconv.uint64pow10" .u64 Go.Lib.pow10Tab) : 2 < w.heap.size := by
  have := Go.Lib.TabIs.cell h gPow 0 (by rw [Go.Lib.pow10Tab_length]; omega)
  exact World.block_lt_of_cell? w _ this
theorem GN.below {w w' : World} (h : GN w) (hb : Below w.heap.size w w') : GN w' := by
  obtain ⟨h1, ⟨t2, p2, h2⟩, ⟨t3, p3, h3⟩⟩ := h
  exact ⟨var?_below hb gPow (tab_lt h1) h1, ⟨t2, p2, (hb.cell (World.block_lt_of_cell? w _ h2)).trans h2⟩, ⟨t3, p3, (hb.cell (World.block_lt_of_cell? w _ h3)).trans h3⟩⟩
theorem itoaAll_any (v : Int) (w : World) (hv : In64 v) (hG : GN w) : Calls Tryz.prog 57 #[.int .i64 v] w fun e w' => e = .returned (.string (B8 (Go.Lib.itoa v))) ∧ Below w.heap.size w w' := by
  refine (Any.strconv_Itoa Tryz.itoaM v hv.1 hv.2 w hG.1).mono ?_
  rintro e w' ⟨rfl, k, os, rfl⟩
  exact ⟨rfl, Go.Lib.below_grow _ w (Nat.le_refl _) k os⟩
theorem atoi_in64 {p : List UInt8} {v : Int} (h : Go.Lib.atoiAll p = .ok v) : In64 v := by
  unfold Go.Lib.atoiAll at h
  split at h
  · cases h
  · simp only at h
    split at h
    · cases h
    · cases h
    · split at h
      · cases h
      · split at h
        · cases h
        · injection h with h
          unfold In64
          split at h <;> omega
theorem atoiAll_any (p : List UInt8) (w : World) (hp : p.length ≤ 100000000) (hG : GN w) :
    Calls Tryz.prog 88 #[.string (B8 p)] w fun e w' => (∃ v er, e = .returned (.tuple #[.int .i64 v, er]) ∧ ((Go.Lib.atoiAll p = .ok v ∧ er = .nilIface) ∨ ((∀ x, Go.Lib.atoiAll p ≠ .ok x) ∧ ∃ t q, er = .iface t q))) ∧ Below w.heap.size w w' := by
  have hs : (B8 p).size = p.length := rfl
  obtain ⟨h1, ⟨t2, p2, h2⟩, ⟨t3, p3, h3⟩⟩ := hG
  cases hA : Go.Lib.atoiAll p with
  | ok v =>
    refine (Any.strconv_Atoi_ok Tryz.atoiA (B8 p) (by omega) v hA w).mono ?_
    rintro e w' ⟨rfl, h⟩
    refine ⟨⟨v, _, rfl, .inl ⟨rfl, rfl⟩⟩, ?_⟩
    rcases h with rfl | ⟨t, rfl⟩
    · exact Below.refl _ _
    · exact Go.Lib.bytesWorld_below w _ t
  | range =>
    refine (Any.strconv_Atoi_range Tryz.atoiA (B8 p) (by omega) hA _ w h3 (.inr ⟨_, _, rfl⟩)).mono ?_
    rintro e w' ⟨N, rfl, _, _, hb⟩
    exact ⟨⟨_, _, rfl, .inr ⟨(fun x h => by cases h), _, _, rfl⟩⟩, hb⟩
  | _ =>
    refine (Any.strconv_Atoi_syntax Tryz.atoiA (B8 p) (by omega) hA _ w h2 (.inr ⟨_, _, rfl⟩)).mono ?_
    rintro e w' ⟨N, rfl, _, _, hb⟩
    exact ⟨⟨_, _, rfl, .inr ⟨(fun x h => by cases h), _, _, rfl⟩⟩, hb⟩
end Go.Proofs.YtoaiaindcmihjaaGreatDoor
/-
  strings.Cut, Contains, Split, Join, the builder, at the desk's own arguments.
-/
namespace Go.Proofs.YtoaiaindcmihjaaGreatDoor
open Go.RowKit

/-- The least length at which a search works with sums: some number. -/
def GM (w : World) : Prop := ∃ m, w.cell? ⟨1, 0, none⟩ = some (.int .i64 m)
theorem GM.below {w w' : World} (h : GM w) (hb : Below w.heap.size w w') : GM w' := by
  obtain ⟨m, h⟩ := h
  exact ⟨m, (hb.cell (World.block_lt_of_cell? w _ h)).trans h⟩
def GD (w : World) : Prop := GN w ∧ GM w
theorem GD.below {w w' : World} (h : GD w) (hb : Below w.heap.size w w') : GD w' := ⟨GN.below h.1 hb, GM.below h.2 hb⟩

theorem cut_any (s : List UInt8) (w : World) (hs : s.length ≤ 1048576) (hG : GM w) :
    Calls Tryz.prog 71 #[.string (B8 s), .string ⟨#[32]⟩] w fun e w' => e = .returned (.tuple #[.string (B8 (Go.Lib.cut s [32]).1), .string (B8 (Go.Lib.cut s [32]).2.1), .bool (Go.Lib.cut s [32]).2.2]) ∧ Below w.heap.size w w' := by
  obtain ⟨m, hm⟩ := hG
  refine (Any.strings_Cut { Tryz.cutA with } (B8 s) ⟨#[32]⟩ m w (by rw [B8_size]; omega) hm).mono ?_
  rintro e w' ⟨rfl, n, rfl⟩
  exact ⟨rfl, Go.below_drewN (Below.refl _ _) n⟩
theorem has_any32 (s : List UInt8) (w : World) :
    Calls Tryz.prog 73 #[.string (B8 s), .string ⟨#[32]⟩] w fun e w' => e = .returned (.bool (decide ((32 : UInt8) ∈ s))) ∧ w' = w := by
  refine (Any.strings_Contains_one Tryz.containsA (B8 s) 32 w).mono ?_
  rintro e w' ⟨rfl, rfl⟩
  exact ⟨congrArg (fun b => Ending.returned (.bool b)) (has_byte s 32), rfl⟩
theorem split44_any (s : List UInt8) (w : World) (hs : s.length ≤ 1048576) (hG : GM w) :
    Calls Tryz.prog 74 #[.string (B8 s), .string ⟨#[44]⟩] w fun e w' => ∃ a cap, e = .returned (.slice a (pcs 44 s).length cap) ∧ (pcs 44 s).length ≤ cap ∧ ReadsX w' a (pcs 44 s) ∧ Below w.heap.size w w' := by
  obtain ⟨m, hm⟩ := hG
  have e1 : Go.Lib.countB (B8 s) ⟨#[44]⟩ + 1 = (pcs 44 s).length := split_count 44 s
  have e2 : Go.Lib.splitB ⟨#[44]⟩ 0 (Go.Lib.countB (B8 s) ⟨#[44]⟩) (B8 s) = (pcs 44 s).map B8 := split_pcs 44 s
  refine (Any.strings_Split { Tryz.splitA with } Tryz.splitA.i9 (B8 s) ⟨#[44]⟩ m w (by rw [B8_size]; omega) hm (by decide)).mono ?_
  rintro e w' ⟨rfl, rfl⟩
  rw [e1, e2]
  refine ⟨_, _, rfl, Nat.le_refl _, .inr ⟨w.heap.size, 0, rfl, by rw [World.size_alloc]; omega, fun i hi => ?_⟩, (Below.refl _ _).alloc (Nat.le_refl _) _⟩
  rw [Nat.zero_add]
  refine (World.cell?_alloc_new w _ _ i).trans ?_
  simp [List.getD, hi]
end Go.Proofs.YtoaiaindcmihjaaGreatDoor
/-
  The desk's answers, by numbers that are read as strconv reads them.
-/
namespace Go.Proofs.YtoaiaindcmihjaaGreatDoor

theorem rnm_some {p : List UInt8} (h : rnm p ≠ -1) : ∃ n : Nat, rnm p = n ∧ n ≤ 10009 ∧ dec n = p := by
  unfold rnm at h ⊢
  split at h
  · exact absurd rfl h
  · rename_i g
    rw [if_neg g]
    rw [not_or, not_or, Classical.not_not] at g
    have := rnm0_le p
    exact ⟨(rnm0 p).toNat, by omega, by omega, g.2.2⟩
theorem rnm0_dec : ∀ n : Nat, n ≤ 10009 → rnm0 (dec n) = n := by
  intro n
  induction n using Nat.strongRecOn with
  | ind n ih =>
    intro hn
    by_cases h : n < 10
    · rw [dec_lt h]
      show rst 0 (dgt n) = _
      unfold rst
      rw [isD_dgt h, dgt_toNat h, if_neg (by simp)]
      omega
    · rw [dec_ge h, rnm0_snoc, ih (n / 10) (by omega) (by omega)]
      unfold rst
      rw [isD_dgt (show n % 10 < 10 by omega), dgt_toNat (show n % 10 < 10 by omega), if_neg (by simp; omega)]
      omega
theorem dec_ne (n : Nat) : dec n ≠ [] := fun h => by have := dec_pos n; rw [h] at this; simp at this
theorem rnm_dec {n : Nat} (h : n ≤ 10009) : rnm (dec n) = n := by
  unfold rnm
  rw [rnm0_dec n h, if_neg]
  rw [not_or, not_or, Classical.not_not]
  exact ⟨dec_ne n, by omega, by rw [Int.toNat_natCast]⟩
/-- A field that is no number, and one that is. -/
theorem rnb_rnm (p : List UInt8) : match rnb p with
    | none => rnm p = -1
    | some v => rnm p = v ∨ (rnm p = -1 ∧ (v < 0 ∨ 1000 < v)) := by
  cases h : rnb p with
  | none =>
    simp only
    apply Classical.byContradiction
    intro g
    obtain ⟨n, _, h2, h3⟩ := rnm_some g
    rw [← h3, rnb_dec (by omega)] at h
    cases h
  | some v =>
    simp only
    obtain ⟨_, h2⟩ := rnb_some h
    by_cases hv : 0 ≤ v ∧ v ≤ 1000
    · refine .inl ?_
      obtain ⟨n, rfl⟩ : ∃ n : Nat, v = n := ⟨v.toNat, by omega⟩
      rw [itoa_nat] at h2
      rw [← h2, rnm_dec (by omega)]
    · by_cases g : rnm p = -1
      · exact .inr ⟨g, by omega⟩
      · obtain ⟨n, h3, h4, h5⟩ := rnm_some g
        rw [← h5, rnb_dec (by omega)] at h
        injection h with h
        exact .inl (by rw [h3, h])
/-- Both readings of the fields. -/
theorem rds_rls : ∀ (F : List (List UInt8)), match rds F with
    | none => (-1 : Int) ∈ F.map rnm
    | some N => F.map rnm = N ∨ ((-1 : Int) ∈ F.map rnm ∧ ∃ v ∈ N, v < 0 ∨ 1000 < v) := by
  intro F
  induction F with
  | nil => exact .inl rfl
  | cons p F ih =>
    have hp := rnb_rnm p
    rw [rds]
    cases h1 : rnb p with
    | none => rw [h1] at hp; simp only at hp ⊢; rw [List.map_cons, hp]; simp
    | some v =>
      rw [h1] at hp
      cases h2 : rds F with
      | none => rw [h2] at ih; simp only at ih ⊢; exact List.mem_cons_of_mem _ ih
      | some N =>
        rw [h2] at ih
        simp only at hp ih ⊢
        rw [List.map_cons]
        rcases hp with hp | ⟨hp, hb⟩
        · rcases ih with ih | ⟨ih, u, hu, hb⟩
          · exact .inl (by rw [hp, ih])
          · exact .inr ⟨List.mem_cons_of_mem _ ih, u, List.mem_cons_of_mem _ hu, hb⟩
        · exact .inr ⟨by rw [hp]; simp, v, by simp, hb⟩
theorem VH_in {l : List Int} (h : VH 10 l = true) : ∀ x ∈ l, 0 ≤ x ∧ x ≤ 1000 := fun x hx => by
  have := (VH_iff.1 h).2.2.2 x hx; omega
theorem VR_in {l : List Int} (h : VR l = true) : ∀ x ∈ l, 0 ≤ x ∧ x ≤ 1000 := fun x hx => by
  obtain ⟨i, hi, rfl⟩ := List.getElem_of_mem hx
  have := VR_rng h hi
  rw [show l.getD i 0 = l[i] by simp [List.getD, hi]] at this
  omega
theorem VK_in {l : List Int} (h : VK l = true) : ∀ x ∈ l, 0 ≤ x ∧ x ≤ 1000 := fun x hx => by
  have := (VK_iff.1 h).2.1 x hx; omega
theorem VNm_in {l : List Int} (h : VNm l = true) : ∀ x ∈ l, 0 ≤ x ∧ x ≤ 1000 := fun x hx => by
  have := (VNm_iff.1 h).2.1 x hx; omega
/-- The words. -/
def isW (a : List UInt8) : Bool := decide (a = wLinear) || decide (a = wFair) || decide (a = wShares) || decide (a = wApart) || decide (a = wTree)
/-- What a word answers by numbers; nothing if they are not those of the word. -/
def an3 (a : List UInt8) (N : List Int) : List UInt8 :=
  if a = wLinear then ltx (LT 10 N).1
  else if a = wFair then ltx (FT 10 N)
  else if a = wShares then ltx (SH N)
  else if a = wApart then (if LA N < 0 then [] else dec (LA N).toNat)
  else if a = wTree then TXT N
  else []
theorem num1_ne (x : Int) : num1 x ≠ [] := by
  unfold num1; split
  · simp
  · exact dec_ne _
theorem ltx_ne {l : List Int} (h : l ≠ []) : ltx l ≠ [] := by
  cases l with
  | nil => exact absurd rfl h
  | cons x l =>
    cases l with
    | nil => exact num1_ne x
    | cons y l => rw [ltx]; simp
/-- Both ways give one answer. -/
theorem an2_an3 {a b : List UInt8} (hw : isW a = true) : an2 a (rls b) = match rds (pcs 44 b) with
    | none => wWrong
    | some N => if an3 a N = [] then wWrong else an3 a N := by
  have hr : match rds (pcs 44 b) with
    | none => (-1 : Int) ∈ rls b
    | some N => rls b = N ∨ ((-1 : Int) ∈ rls b ∧ ∃ v ∈ N, v < 0 ∨ 1000 < v) := rds_rls (pcs 44 b)
  have bad : ∀ {V : List Int → Bool}, (∀ l, V l = true → ∀ x ∈ l, 0 ≤ x ∧ x ≤ 1000) → (-1 : Int) ∈ rls b → V (rls b) = false := fun {V} hV hm => by
    cases e : V (rls b) with
    | false => rfl
    | true => have := hV _ e _ hm; omega
  have bad2 : ∀ {V : List Int → Bool} {N : List Int}, (∀ l, V l = true → ∀ x ∈ l, 0 ≤ x ∧ x ≤ 1000) → (∃ v ∈ N, v < 0 ∨ 1000 < v) → V N = false := fun {V N} hV hm => by
    obtain ⟨v, h1, h2⟩ := hm
    cases e : V N with
    | false => rfl
    | true => have := hV _ e _ h1; omega
  have b1 := @bad (VH 10) (fun l h => VH_in h)
  have b2 := @bad VR (fun l h => VR_in h)
  have b3 := @bad VK (fun l h => VK_in h)
  have b4 := @bad VNm (fun l h => VNm_in h)
  have c1 := fun N => @bad2 (VH 10) N (fun l h => VH_in h)
  have c2 := fun N => @bad2 VR N (fun l h => VR_in h)
  have c3 := fun N => @bad2 VK N (fun l h => VK_in h)
  have c4 := fun N => @bad2 VNm N (fun l h => VNm_in h)
  have allbad : (-1 : Int) ∈ rls b → an2 a (rls b) = wWrong := fun hm => by
    unfold an2
    rw [b1 hm, b2 hm, b3 hm, b4 hm]
    simp only [Bool.false_eq_true, if_false]
    unfold isW at hw
    simp only [Bool.or_eq_true, decide_eq_true_eq] at hw
    rcases hw with (((hw | hw) | hw) | hw) | hw <;> subst hw <;> rfl
  have three : ∀ N, (VH 10 N = true ∨ an3 wLinear N = []) ∧ (VH 10 N = true ∨ an3 wFair N = []) ∧ (VR N = true ∨ an3 wShares N = []) ∧ (VK N = true ∨ an3 wApart N = []) ∧ (VNm N = true ∨ an3 wTree N = []) := fun N => by
    refine ⟨?_, ?_, ?_, ?_, ?_⟩
    · cases e : VH 10 N with
      | true => exact .inl rfl
      | false => exact .inr (by show ltx (LT 10 N).1 = []; unfold LT; rw [e]; rfl)
    · cases e : VH 10 N with
      | true => exact .inl rfl
      | false => exact .inr (by show ltx (FT 10 N) = []; unfold FT; rw [e]; rfl)
    · cases e : VR N with
      | true => exact .inl rfl
      | false => exact .inr (by show ltx (SH N) = []; unfold SH; rw [e]; rfl)
    · cases e : VK N with
      | true => exact .inl rfl
      | false => exact .inr (by show (if LA N < 0 then [] else dec (LA N).toNat) = []; unfold LA; rw [e]; rfl)
    · cases e : VNm N with
      | true => exact .inl rfl
      | false => exact .inr (by show TXT N = []; unfold TXT; rw [e]; rfl)
  cases hN : rds (pcs 44 b) with
  | none =>
    rw [hN] at hr
    exact allbad hr
  | some N =>
    rw [hN] at hr
    simp only at hr ⊢
    rcases hr with hr | ⟨hm, hb⟩
    · rw [hr]
      unfold isW at hw
      simp only [Bool.or_eq_true, decide_eq_true_eq] at hw
      obtain ⟨t1, t2, t3, t4, t5⟩ := three N
      have nl : ∀ l : List Int, l.length ≠ 0 → ¬ ltx l = [] := fun l h g => ltx_ne (fun e => h (by rw [e]; rfl)) g
      rcases hw with (((hw | hw) | hw) | hw) | hw <;> subst hw
      · cases e : VH 10 N with
        | false => rw [if_pos (t1.resolve_left (by rw [e]; simp))]; unfold an2; rw [e]; rfl
        | true =>
          have e3 : an3 wLinear N = ltx (lin 10 N N.length).1 := by show ltx (LT 10 N).1 = _; unfold LT; rw [e]; rfl
          rw [e3, if_neg (nl _ (by rw [lin_len]; omega))]
          unfold an2; rw [e]; rfl
      · cases e : VH 10 N with
        | false => rw [if_pos (t2.resolve_left (by rw [e]; simp))]; unfold an2; rw [e]; rfl
        | true =>
          have e3 : an3 wFair N = ltx (rob 10 N N.length) := by show ltx (FT 10 N) = _; unfold FT; rw [e]; rfl
          rw [e3, if_neg (nl _ (by have h0 := (rob_inv (Homes.of_VH (m := 10) (VH_iff.1 e)) N.length (Nat.le_refl _)).1; exact fun h1 => absurd (h0.symm.trans h1) (by decide)))]
          unfold an2; rw [e]; rfl
      · cases e : VR N with
        | false => rw [if_pos (t3.resolve_left (by rw [e]; simp))]; unfold an2; rw [e]; rfl
        | true =>
          have e3 : an3 wShares N = ltx (SH N) := rfl
          have hl := (VR_iff.1 e).1
          have h1 := SH_one e (s := 0) (by omega)
          have h0 : (SH N).length ≠ 0 := fun h => by
            rw [List.eq_nil_of_length_eq_zero h] at h1; simp at h1
          rw [e3, if_neg (nl _ h0)]
          unfold an2; rw [e]; rfl
      · cases e : VK N with
        | false => rw [if_pos (t4.resolve_left (by rw [e]; simp))]; unfold an2; rw [e]; rfl
        | true =>
          have hL := (LA_facts e).1
          have e3 : an3 wApart N = dec (LA N).toNat := by show (if LA N < 0 then [] else dec (LA N).toNat) = _; rw [if_neg (by omega)]
          rw [e3, if_neg (dec_ne _)]
          unfold an2; rw [e]; rfl
      · cases e : VNm N with
        | false => rw [if_pos (t5.resolve_left (by rw [e]; simp))]; unfold an2; rw [e]; rfl
        | true =>
          have e3 : an3 wTree N = ttr N 6 0 0 := by show TXT N = _; unfold TXT; rw [e]; rfl
          rw [e3, if_neg (ttr_ne _ _ _ _)]
          unfold an2; rw [e]; rfl
    · rw [allbad hm]
      obtain ⟨t1, t2, t3, t4, t5⟩ := three N
      unfold isW at hw
      simp only [Bool.or_eq_true, decide_eq_true_eq] at hw
      rcases hw with (((hw | hw) | hw) | hw) | hw <;> subst hw
      · rw [if_pos (t1.resolve_left (by rw [c1 N hb]; simp))]
      · rw [if_pos (t2.resolve_left (by rw [c1 N hb]; simp))]
      · rw [if_pos (t3.resolve_left (by rw [c2 N hb]; simp))]
      · rw [if_pos (t4.resolve_left (by rw [c3 N hb]; simp))]
      · rw [if_pos (t5.resolve_left (by rw [c4 N hb]; simp))]
theorem an2_no {a : List UInt8} (hw : isW a = false) (l : List Int) : an2 a l = wWhat := by
  unfold isW at hw
  simp only [Bool.or_eq_false_iff, decide_eq_false_iff_not] at hw
  unfold an2
  rw [if_neg hw.1.1.1.1, if_neg hw.1.1.1.2, if_neg hw.1.1.2, if_neg hw.1.2, if_neg hw.2]
/-- What a line is answered, by its word and its text. -/
theorem ANS_miss {s : List UInt8} (h : (32 : UInt8) ∉ s) : ANS s = wWhat := by
  unfold ANS; rw [pcs_miss h]
theorem ANS_more {a b : List UInt8} (h : (32 : UInt8) ∉ a) (h2 : (32 : UInt8) ∈ b) : ANS (a ++ 32 :: b) = wWhat := by
  obtain ⟨c, d, rfl, h3⟩ := first_at h2
  have := pcs_pos 32 d
  unfold ANS
  rw [pcs_hit _ h, pcs_hit _ h3]
  cases e : pcs 32 d with
  | nil => rw [e] at this; simp at this
  | cons x t => rfl
theorem ANS_two {a b : List UInt8} (h : (32 : UInt8) ∉ a) (h2 : (32 : UInt8) ∉ b) : ANS (a ++ 32 :: b) = an2 a (rls b) := by
  unfold ANS; rw [pcs_hit _ h, pcs_miss h2]
end Go.Proofs.YtoaiaindcmihjaaGreatDoor
/-
  impl.slotsText.
-/
namespace Go.Proofs
theorem Tryz.joinX : Builder.Extra Tryz.prog Tryz.joinA_ren where
  sizeBuilder := by kernel_rfl
  liesBuilder := by kernel_rfl
  t5 := Tryz.underlying5
  a5 := Tryz.isAgg5
  z5 := Tryz.sizeOf5
  v5 := Tryz.zeroValue5
  infoByte := by kernel_rfl
  cellsByte := by kernel_rfl
  sizeByte := by kernel_rfl
  neB5 := by decide
end Go.Proofs
namespace Go.Proofs.YtoaiaindcmihjaaGreatDoor
open Go.RowKit

/-- A row of texts that was made here. -/
def TabX (w : World) (base g n cap : Nat) (l : List (List UInt8)) : Prop := w.ownsRow base 9 1 (.slice (some ⟨g, 0, none⟩) n cap) n (strs l)
section
variable {w : World} {base g n cap : Nat} {l : List (List UInt8)}
theorem TabX.len (h : TabX w base g n cap l) : l.length = n := by have := h.1; simpa [strs] using this
theorem TabX.frozen (h : TabX w base g n cap l) (k : Nat) : w.frozen? ⟨g, k, none⟩ = false := World.ownsRow.frozenAt h k
theorem TabX.store (h : TabX w base g n cap l) (k : Nat) (x : List UInt8) : TabX (w.setCell ⟨g, k, none⟩ (.string (B8 x))) base g n cap (l.set k x) := by
  have e : strs (l.set k x) = (strs l).set k (.string (B8 x)) := by unfold strs; rw [List.map_set]
  unfold TabX; rw [e]; exact (World.ownsRow.stored h k _).1
theorem TabX.block (h : TabX w base g n cap l) : base ≤ g ∧ g < w.heap.size := World.ownsRow.lt h g rfl
theorem TabX.own (h : TabX w base g n cap l) : OwnX w base (.slice (some ⟨g, 0, none⟩) n cap) l := by
  have e := h.len; unfold OwnX; rw [e]; exact h
theorem TabX.below {w' : World} (hb : Below w.heap.size w w') (h : TabX w base g n cap l) : TabX w' base g n cap l := by
  have e := h.len; have := h.own.below hb; unfold OwnX at this; rw [e] at this; exact this
theorem TabX.cell (h : TabX w base g n cap l) {k : Nat} (hk : k < n) : ∃ x, w.cell? ⟨g, k, none⟩ = some x := by
  have := h.len
  exact ⟨_, by rw [World.ownsRow.cellAt h k (by omega)]; exact strs_get (by omega)⟩
end
theorem made_tabX (w : World) (base n : Nat) (hb : base ≤ w.heap.size) (hn : n ≤ 1000) : TabX (w.alloc (.cells (madeCells #[.string ⟨#[]⟩] n) 9)) base w.heap.size n n (List.replicate n []) := by
  have e := toList_madeCells_one (Value.string ⟨#[]⟩) n
  have := World.ownsRow_lit (e := 9) (size := 1) (base := base) w (madeCells #[.string ⟨#[]⟩] n) n hb (by unfold maxLen; omega) (by rw [← Array.length_toList, e]; simp)
  rw [e] at this
  unfold TabX strs
  rw [List.map_replicate]
  exact this
/-- The texts of the first numbers. -/
def stx (l : List Int) (i : Nat) : List (List UInt8) := (l.take i).map num1 ++ List.replicate (l.length - i) []
theorem stx_next {l : List Int} {i : Nat} (h : i < l.length) : (stx l i).set i (num1 (l.getD i 0)) = stx l (i + 1) := by
  unfold stx
  have e : l.length - i = (l.length - (i + 1)) + 1 := by omega
  rw [e, List.replicate_succ, List.set_append_right _ _ (by simp; omega)]
  have e2 : i - ((l.take i).map num1).length = 0 := by simp; omega
  rw [e2, List.set_cons_zero, List.take_succ_eq_append_getElem h]
  simp only [List.map_append, List.map_cons, List.map_nil, List.append_assoc, List.singleton_append]
  simp [List.getD, h]
theorem stx_end (l : List Int) : stx l l.length = l.map num1 := by unfold stx; simp
theorem stx_zero (l : List Int) : stx l 0 = List.replicate l.length [] := by unfold stx; simp
theorem join_any (g : Nat) (l : List Int) (w : World) (base : Nat) (h : TabX w base g l.length l.length (l.map num1)) (hl : l.length ≤ 1000) (hlen : (ltx l).length ≤ 100000) :
    Calls Tryz.prog 128 #[.slice (some ⟨g, 0, none⟩) l.length l.length, .string ⟨#[44]⟩] w fun e w' => e = .returned (.string (B8 (ltx l))) ∧ Below w.heap.size w w' := by
  have e1 : ((l.map num1).map B8).length = l.length := by simp
  have e2 : (((l.map num1).map B8).map (·.data.toList)) = l.map num1 := by rw [List.map_map]; exact List.map_id _
  have e3 : Go.Lib.join (((l.map num1).map B8).map (·.data.toList)) (⟨#[44]⟩ : ByteArray).data.toList = ltx l := by rw [e2]; exact join_ltx l
  have c := Any.strings_Join Tryz.joinA Tryz.joinX g 0 l.length ((l.map num1).map B8) ⟨#[44]⟩ w ?_ h.block.2 (by rw [e1]; omega) (by rw [e1]; omega) (by rw [e3]; omega)
  · rw [e3, e1] at c
    exact c
  · intro j x hx
    have hj : j < l.length := by have := (List.getElem?_eq_some_iff.1 hx).1; simpa using this
    rw [Nat.zero_add, World.ownsRow.cellAt h j (by omega)]
    have hx2 : some (B8 ((l.map num1).getD j [])) = some x := by
      rw [← hx]; simp [List.getD, hj]
    injection hx2 with hx2
    rw [← hx2]
    exact strs_get (by simp; exact hj)
end Go.Proofs.YtoaiaindcmihjaaGreatDoor
/-
  impl.slotsText: the walk.
-/
namespace Go.Proofs.YtoaiaindcmihjaaGreatDoor
open Go.RowKit

theorem itoa_num1 {x : Int} (h : 0 ≤ x) : Go.Lib.itoa x = num1 x := by
  obtain ⟨n, rfl⟩ : ∃ n : Nat, x = n := ⟨x.toNat, by omega⟩
  rw [itoa_nat]; unfold num1; rw [if_neg (by omega), Int.toNat_natCast]
set_option maxHeartbeats 4000000 in
theorem slotsText_any (a : Option Addr) (l : List Int) (cap : Nat) (w : World) (hr : Reads w a l) (hi : ∀ x ∈ l, In64 x ∧ -1 ≤ x) (hl : l.length ≤ 1000) (hlen : (ltx l).length ≤ 100000) (hG : GN w) :
    Calls Tryz.prog 96 #[.slice a l.length cap] w fun e w' => e = .returned (.string (B8 (ltx l))) ∧ Below w.heap.size w w' := by
  have hmk := run_make_row' (P := Tryz.prog) 33 9 (.string ⟨#[]⟩) 16 Tryz.underlying33 infoStr rfl .i64 .i64 l.length (by omega) (by omega)
  have xA := made_tabX w w.heap.size l.length (Nat.le_refl _) hl
  rw [← stx_zero] at xA
  have bA := (Below.refl w.heap.size w).alloc (Nat.le_refl _) (.cells (madeCells #[.string ⟨#[]⟩] l.length) 9)
  obtain ⟨BB, hBB⟩ : ∃ BB, BB = madeCells #[.string ⟨#[]⟩] l.length := ⟨_, rfl⟩
  rw [← hBB] at hmk xA bA
  have cJ := fun wx h => join_any w.heap.size l wx w.heap.size h hl hlen
  rw [← stx_end] at cJ
  obtain ⟨T, hT⟩ : ∃ T, T = ltx l := ⟨_, rfl⟩
  rw [← hT] at cJ ⊢
  have CJ := Lib.hid cJ
  have HI := Lib.hid hi
  have HG := Lib.hid hG
  clear hBB cJ hT hlen hi hG
  go_enter Tryz.func96, Tryz.ntmps96
  go_wp2_with fail
  go_loopw [11] (fun iv wr => ∃ i : Nat, i ≤ l.length ∧ iv = .int .i64 (i : Int) ∧ TabX wr w.heap.size w.heap.size l.length l.length (stx l i) ∧ Below w.heap.size w wr) (fun iv _ => l.length - (intOf iv).toNat)
  case atStart => exact ⟨0, by omega, rfl, xA, bA⟩
  case round =>
    clear bA hmk xA
    obtain ⟨i, hi, rfl, hT, hB⟩ := hrel
    have hz := hB.size
    by_cases hlt : i < l.length
    · have hi1 : (i : Int) < (l.length : Int) := by omega
      obtain ⟨bk, off, x, rfl, hbk, hc, hx⟩ := (hr.below hB).get (k := i) hlt
      obtain ⟨h64, hm1⟩ := HI.out (l.getD i 0) (by rw [List.getD_eq_getElem?_getD, List.getElem?_eq_getElem hlt]; exact List.getElem_mem hlt)
      rw [hx.out] at h64 hm1
      have cI := itoaAll_any x wr h64 (GN.below HG.out hB)
      have hst := stx_next hlt
      rw [hx.out] at hst
      by_cases hneg : x < 0
      · obtain rfl : x = -1 := by omega
        have CI := Lib.hid cI
        have HST := Lib.hid (show (stx l i).set i [45] = stx l (i + 1) from hst)
        clear cI hst hx hneg h64 hm1
        go_wp2_with fail
        refine CI.out.mono ?_
        rintro e w2 ⟨rfl, b2⟩
        have t2 := hT.below b2
        have B2 := hB.trans (b2.mono hB.size)
        have hf2 := t2.frozen i
        obtain ⟨y2, hy2⟩ := t2.cell hlt
        have t3 := t2.store i (Go.Lib.itoa (-1))
        have B3 := B2.setCell (p := ⟨w.heap.size, i, none⟩) (Nat.le_refl _) (.string (B8 (Go.Lib.itoa (-1))))
        have hf3 := t3.frozen i
        obtain ⟨y3, hy3⟩ := t3.cell hlt
        have t4 := t3.store i [45]
        rw [List.set_set, HST.out] at t4
        have B4 := B3.setCell (p := ⟨w.heap.size, i, none⟩) (Nat.le_refl _) (.string (B8 [45]))
        clear hT hB t2 t3 B2 B3 b2 CI
        go_wp2
        go_roundw
        case rel => exact ⟨i + 1, by omega, by go_num, t4, B4⟩
        case measure => simp [intOf]; omega
      · have e1 : Go.Lib.itoa x = num1 x := itoa_num1 (by omega)
        rw [e1] at cI
        have hx1 : (x == -1) = false := by simp; omega
        have CI := Lib.hid cI
        have HST := Lib.hid hst
        clear cI hst hx e1 h64 hm1
        go_wp2_with fail
        refine CI.out.mono ?_
        rintro e w2 ⟨rfl, b2⟩
        have t2 := hT.below b2
        have B2 := hB.trans (b2.mono hB.size)
        have hf2 := t2.frozen i
        obtain ⟨y2, hy2⟩ := t2.cell hlt
        have t3 := t2.store i (num1 x)
        rw [HST.out] at t3
        have B3 := B2.setCell (p := ⟨w.heap.size, i, none⟩) (Nat.le_refl _) (.string (B8 (num1 x)))
        clear hT hB t2 B2 b2 CI
        go_wp2
        go_roundw
        case rel => exact ⟨i + 1, by omega, by go_num, t3, B3⟩
        case measure => simp [intOf]; omega
    · obtain rfl : i = l.length := by omega
      have cj := CJ.out wr hT
      have C2 := Lib.hid cj
      clear cj
      go_wp2_with fail
      refine C2.out.mono ?_
      rintro e w2 ⟨rfl, b2⟩
      have B2 := hB.trans (b2.mono hB.size)
      go_wp2
      go_ret
      exact ⟨rfl, B2⟩
end Go.Proofs.YtoaiaindcmihjaaGreatDoor
/-
  Arrays of ints in variables: a block whose cells are the numbers of a list; loads and stores of the whole.
-/
namespace Go.Proofs.YtoaiaindcmihjaaGreatDoor
open Go.RowKit

/-- The cells of an array of ints. -/
def arr (l : List Int) : Array Value := (l.map (Value.int .i64)).toArray
theorem arr_size (l : List Int) : (arr l).size = l.length := by simp [arr]

/-- Block g is a variable of the array type t that holds the numbers of the list. -/
def Arr (w : World) (t g : Nat) (l : List Int) : Prop := w.heap[g]? = some (.cells (arr l) t (0, 0))

section
variable {w : World} {t g : Nat} {l : List Int}
theorem Arr.lt (h : Arr w t g l) : g < w.heap.size := (Array.getElem?_eq_some_iff.1 h).1
theorem Arr.get (h : Arr w t g l) {k : Nat} (hk : k < l.length) : ∃ x, w.cell? ⟨g, k, none⟩ = some (.int .i64 x) ∧ Hid (l.getD k 0 = x) :=
  ⟨_, by rw [cell_of_row w g k _ t _ h]; simp [arr, List.getD, hk], rfl⟩
theorem Arr.frozen (h : Arr w t g l) (k : Nat) : w.frozen? ⟨g, k, none⟩ = false := frozen_of_row w g k _ t h
theorem Arr.store (h : Arr w t g l) (k : Nat) (x : Int) : Arr (w.setCell ⟨g, k, none⟩ (.int .i64 x)) t g (l.set k x) := by
  unfold Arr
  rw [heap_setCell_same w g k _ t _ h]
  simp [arr, List.map_set]
theorem Arr.other {g' : Nat} (h : Arr w t g l) (hne : g ≠ g') (k : Nat) (v : Value) : Arr (w.setCell ⟨g', k, none⟩ v) t g l := by
  unfold Arr
  rw [heap_setCell_other w ⟨g', k, none⟩ g v hne]; exact h
theorem Arr.below {B : Nat} {w' : World} (h : Arr w t g l) (hb : Below B w w') (hg : g < B) : Arr w' t g l := (hb.block g hg).trans h
theorem Arr.belowAll {w' : World} (hb : Below w.heap.size w w') (h : Arr w t g l) : Arr w' t g l := h.below hb h.lt
theorem Arr.kept {w' : World} {row : Option Nat} (h : Arr w t g l) (hg : w.grownBy w' row) (hne : some g ≠ row) : Arr w' t g l := (hg.block g h.lt hne).trans h
theorem Arr.alloc (h : Arr w t g l) (o : Obj) : Arr (w.alloc o) t g l := (Below.heap_alloc w o g h.lt).trans h
theorem Arr.new (w : World) (t : Nat) (l : List Int) : Arr (w.alloc (.cells (arr l) t)) t w.heap.size l := heap_alloc_new w _
theorem Arr.drewN (h : Arr w t g l) (n : Nat) : Arr (w.drewN n) t g l := h
end

theorem arr_zero5 : arr (List.replicate 5 0) = #[.int .i64 0, .int .i64 0, .int .i64 0, .int .i64 0, .int .i64 0] := rfl
theorem arr_zero10 : arr (List.replicate 10 0) = #[.int .i64 0, .int .i64 0, .int .i64 0, .int .i64 0, .int .i64 0, .int .i64 0, .int .i64 0, .int .i64 0, .int .i64 0, .int .i64 0] := rfl

section
variable {P : Program}
/-- The whole array is loaded. -/
theorem load_arr {w : World} {ops : Array Oper} {rest : List Oper} {o : Oper} {a : Act} {Q : Exit → Act → World → Prop} (hgd : o.guard = none) (ty : TypeId) (x : Operand) (ho : o.op = .load ty x)
    (g : Nat) (hx : a.eval x = .pointer (some ⟨g, 0, none⟩)) (t e n : Nat) (l : List Int) (hg : Arr w t g l)
    (hu : P.underlying ty = some (.array n e)) (hi : (P.info? ty).map (·.size) = some n) (hl : l.length = n)
    (h : wpList P ops Q rest (a.put o.dst (.agg (arr l))) w) : wpList P ops Q (o :: rest) a w :=
  wpList_load_row hgd ty x ho g hx t (arr l) (0, 0) _ hg hu rfl (by rw [hi, arr_size, hl]) h

/-- The same, of an operation that is guarded. -/
theorem load_arr_g {w : World} {ops : Array Oper} {rest : List Oper} {o : Oper} {a : Act} {Q : Exit → Act → World → Prop} (hwn : Region.wanted o (yielded ops a.tmps) = true) (ty : TypeId) (x : Operand) (ho : o.op = .load ty x)
    (g : Nat) (hx : a.eval x = .pointer (some ⟨g, 0, none⟩)) (t e n : Nat) (l : List Int) (hg : Arr w t g l)
    (hu : P.underlying ty = some (.array n e)) (hi : (P.info? ty).map (·.size) = some n) (hl : l.length = n)
    (h : wpList P ops Q rest (a.put o.dst (.agg (arr l))) w) : wpList P ops Q (o :: rest) a w :=
  wpList_step fun _ hK => by
    rw [if_pos hwn]
    exact wp_load_row ty x ho g hx t (arr l) (0, 0) _ hg hu rfl (by rw [hi, arr_size, hl]) (hK _ _ h)

/-- The whole array is stored. -/
theorem store_arr {w : World} {ops : Array Oper} {rest : List Oper} {o : Oper} {a : Act} {Q : Exit → Act → World → Prop} (hgd : o.guard = none) (ty : TypeId) (x y : Operand) (ho : o.op = .store ty x y)
    (g : Nat) (hx : a.eval x = .pointer (some ⟨g, 0, none⟩)) (l l0 : List Int) (hy : a.eval y = .agg (arr l)) (t n : Nat) (hg : Arr w t g l0)
    (hi : (P.info? ty).map (·.size) = some n) (hl : l.length = n) (hl0 : l0.length = n)
    (h : ∀ w', Arr w' t g l → w.grownBy w' (some g) → wpList P ops Q rest (a.put o.dst undef) w') : wpList P ops Q (o :: rest) a w := by
  refine wpList_plain hgd fun K hK => ?_
  cases hq : P.info? ty with
  | none => simp [hq] at hi
  | some i =>
    have hs : i.size = n := by simpa [hq] using hi
    have hst := run_storeCells_from (P := P) g t (arr l).toList 0 (arr l0) w hg (by simp [arr_size, hl, hl0]) (by
      intro v hv
      simp only [arr, List.toList_toArray] at hv
      obtain ⟨q, _, rfl⟩ := List.mem_map.1 hv
      rfl)
    have hw : (w.setRow g ((arr l0).toList.take 0 ++ (arr l).toList).toArray) = w.setRow g (arr l) := by simp
    rw [hw] at hst
    unfold Oper.wp execOp
    simp only [ho, hx, hy]
    simp [Instr.storeAt, Instr.sureAddr, Sem.run_bind, Result.andThen, storeVar, sizeOf, typeInfo, hq, hs, Value.cells, arr_size, hl, hst]
    have e1 : Arr (w.setRow g (arr l)) t g l := setRow_heap w g (arr l0) (arr l) t (0, 0) hg
    have e2 : w.grownBy (w.setRow g (arr l)) (some g) := ⟨rfl, rfl, rfl, by simp, fun k _ hk => setRow_other w g k _ (fun e => hk (by simp [e]))⟩
    exact hK _ _ (h _ e1 e2)

/-- A result that is an array in a variable. -/
theorem ret_arr {fn : Func} {R : Ending → World → Prop} {a : Act} {w : World} {p : Tmp} {ty : TypeId} (hf : fn.results = #[.cell p ty]) (hd : a.defers = [])
    (g : Nat) (hp : a.tmps.getD p undef = .pointer (some ⟨g, 0, none⟩)) (t e n : Nat) (l : List Int) (hg : Arr w t g l)
    (hu : P.underlying ty = some (.array n e)) (hi : (P.info? ty).map (·.size) = some n) (hl : l.length = n) (hR : R (.returned (.agg (arr l))) w) : bodyPost P fn R .ret a w :=
  bodyPost_ret (results_cell_row hf a.tmps w g t (arr l) (0, 0) _ hp hg hu rfl (by rw [hi, arr_size, hl])) hd hR

/-- Two results: an array in a variable, and a value. -/
theorem ret_arr2 {fn : Func} {R : Ending → World → Prop} {a : Act} {w : World} {p q : Tmp} {ty : TypeId} (hf : fn.results = #[.cell p ty, .tmp q]) (hd : a.defers = [])
    (g : Nat) (hp : a.tmps.getD p undef = .pointer (some ⟨g, 0, none⟩)) (t e n : Nat) (l : List Int) (hg : Arr w t g l)
    (hu : P.underlying ty = some (.array n e)) (hi : (P.info? ty).map (·.size) = some n) (hl : l.length = n) (v : Value) (hq : a.tmps.getD q undef = v) (hR : R (.returned (.tuple #[.agg (arr l), v])) w) : bodyPost P fn R .ret a w := by
  refine bodyPost_ret (v := .tuple #[.agg (arr l), v]) ?_ hd hR
  have hp' : a.tmps[p]?.getD undef = .pointer (some ⟨g, 0, none⟩) := by simpa using hp
  have hq' : a.tmps[q]?.getD undef = v := by simpa using hq
  have hl' := run_loadVar_row (P := P) w g t ty (arr l) (0, 0) _ hg hu rfl (by rw [hi, arr_size, hl])
  simp [results, hf, hp', hq', asAddr, hl']

/-- Block g is a variable of the array type t that holds the truth values of the list. -/
def BArr (w : World) (t g : Nat) (l : List Bool) : Prop := w.heap[g]? = some (.cells (l.map Value.bool).toArray t (0, 0))
section
variable {w : World} {t g : Nat} {l : List Bool}
theorem BArr.lt (h : BArr w t g l) : g < w.heap.size := (Array.getElem?_eq_some_iff.1 h).1
theorem BArr.get (h : BArr w t g l) {k : Nat} (hk : k < l.length) : ∃ x, w.cell? ⟨g, k, none⟩ = some (.bool x) ∧ Hid (l.getD k false = x) :=
  ⟨_, by rw [cell_of_row w g k _ t _ h]; simp [List.getD, hk], rfl⟩
theorem BArr.frozen (h : BArr w t g l) (k : Nat) : w.frozen? ⟨g, k, none⟩ = false := frozen_of_row w g k _ t h
theorem BArr.store (h : BArr w t g l) (k : Nat) (x : Bool) : BArr (w.setCell ⟨g, k, none⟩ (.bool x)) t g (l.set k x) := by
  unfold BArr
  rw [heap_setCell_same w g k _ t _ h]
  simp [List.map_set]
theorem BArr.other {g' : Nat} (h : BArr w t g l) (hne : g ≠ g') (k : Nat) (v : Value) : BArr (w.setCell ⟨g', k, none⟩ v) t g l := by
  unfold BArr
  rw [heap_setCell_other w ⟨g', k, none⟩ g v hne]; exact h
theorem BArr.kept {w' : World} {row : Option Nat} (h : BArr w t g l) (hg : w.grownBy w' row) (hne : some g ≠ row) : BArr w' t g l := (hg.block g h.lt hne).trans h
theorem BArr.belowAll {w' : World} (hb : Below w.heap.size w w') (h : BArr w t g l) : BArr w' t g l := (hb.block g h.lt).trans h
theorem BArr.new (w : World) (t : Nat) (l : List Bool) : BArr (w.alloc (.cells (l.map Value.bool).toArray t)) t w.heap.size l := heap_alloc_new w _
end
end
theorem eq_loop {P : Program} {w : World} (f : Nat → Sem (ForInStep (Option Bool × Unit))) (b : Nat → Bool) : ∀ l : List Nat, (∀ i ∈ l, (f i).run P w = .ok (if b i = false then ForInStep.done (some false, ()) else ForInStep.yield (none, ())) w) →
    (forIn l ((none : Option Bool), ()) (fun i _ => f i)).run P w = .ok (if l.all b = true then (none, ()) else (some false, ())) w := by
  intro l
  induction l with
  | nil => intro _; simp
  | cons i l ih =>
    intro h
    have h1 := h i (by simp)
    have ih' := ih (fun j hj => h j (by simp [hj]))
    rw [List.forIn_cons, Sem.run_bind, h1]
    by_cases hb : b i = true
    · simp only [hb, Bool.true_eq_false, if_false, Result.andThen_ok, List.all_cons, Bool.true_and]
      exact ih'
    · have hb' : b i = false := by simpa using hb
      simp [hb', Result.andThen]

theorem run_equalIn_arr {P : Program} (w : World) (d : Nat) (t e n : Nat) (k : IntKind) (A B : List Int) (hA : A.length = n) (hB : B.length = n) (hu : P.underlying t = some (.array n e)) (hue : P.underlying e = some (.int k))
    (hs : ∀ w, (sizeOf e).run P w = .ok 1 w) (ha : ∀ w, (isAgg e).run P w = .ok false w) :
    (Op.equalIn (d + 2) t (.agg (arr A)) (.agg (arr B))).run P w = .ok (decide (A = B)) w := by
  have hbody : ∀ i ∈ List.range' 0 n, (do
      let x ← part e (arr A) (i * 1)
      let y ← part e (arr B) (i * 1)
      let q ← Op.equalIn (d + 1) e x y
      if q = false then pure (ForInStep.done (some false, ())) else pure (ForInStep.yield ((none : Option Bool), ())) : Sem _).run P w
      = .ok (if (A.getD i 0 == B.getD i 0) = false then ForInStep.done (some false, ()) else ForInStep.yield (none, ())) w := by
    intro i hi
    have hi' : i < n := by simpa using hi
    have eA : (arr A)[i]? = some (.int .i64 (A.getD i 0)) := by simp [arr, List.getD, hA, hi']
    have eB : (arr B)[i]? = some (.int .i64 (B.getD i 0)) := by simp [arr, List.getD, hB, hi']
    have hEq := run_equalIn_int (P := P) w d e .i64 k (A.getD i 0) (B.getD i 0) hue
    simp only [Sem.run_bind, part, ha, Result.andThen_ok, Bool.false_eq_true, if_false, Nat.mul_one, eA, eB, Sem.run_pure, hEq]
    split <;> simp
  have hl := eq_loop _ _ _ hbody
  clear hbody
  simp only [Op.equalIn, Sem.run_bind, run_underlying hu, Result.andThen_ok, hs]
  simp only [Op.equalIn] at hl
  simp
  simp at hl
  rw [hl]
  by_cases h : A = B
  · subst h; simp [Result.andThen]
  · have : ¬ ∀ i, i < n → A.getD i 0 = B.getD i 0 := by
      intro hh
      apply h
      refine List.ext_getElem (by rw [hA, hB]) fun i h1 h2 => ?_
      have := hh i (by omega)
      simpa [List.getD, h1, h2] using this
    rw [if_neg (by simpa [List.getD] using this)]
    simp [h, Result.andThen]

/-- '==' of two arrays of ints. -/
theorem run_eql_arr {P : Program} (w : World) (t e n : Nat) (k : IntKind) (A B : List Int) (hA : A.length = n) (hB : B.length = n) (hu : P.underlying t = some (.array n e)) (hue : P.underlying e = some (.int k))
    (hs : ∀ w, (sizeOf e).run P w = .ok 1 w) (ha : ∀ w, (isAgg e).run P w = .ok false w) :
    (binOp .eql t (.agg (arr A)) (.agg (arr B))).run P w = .ok (.bool (decide (A = B))) w := by
  rw [run_eql_struct, run_equalIn_arr w 9998 t e n k A B hA hB hu hue hs ha]
  rfl

end Go.Proofs.YtoaiaindcmihjaaGreatDoor
/-
  impl.freeTable, lookFrom, list; slices.Clone.
-/
namespace Go.Proofs.YtoaiaindcmihjaaGreatDoor
open Go.RowKit

theorem und_slot : Tryz.prog.underlying 156 = some (.array 10 3) := by kernel_rfl
theorem inf_slot : (Tryz.prog.info? 156).map (·.size) = some 10 := by kernel_rfl

/-- The table of an impl.slotTable: the first m slots, the rest free. -/
def full (t : List Int) : List Int := t ++ List.replicate (10 - t.length) (-1)
theorem full_len {t : List Int} (h : t.length ≤ 10) : (full t).length = 10 := by simp [full]; omega
theorem full_get {t : List Int} {k : Nat} (h : k < t.length) : (full t).getD k 0 = t.getD k 0 := by simp [full, List.getD, List.getElem?_append, h]
theorem full_set {t : List Int} {k : Nat} {x : Int} (h : k < t.length) : (full t).set k x = full (t.set k x) := by
  unfold full; rw [List.set_append_left _ _ h, List.length_set]
theorem full_rep (m : Nat) (h : m ≤ 10) : full (List.replicate m (-1)) = List.replicate 10 (-1) := by
  unfold full; rw [List.length_replicate, List.replicate_append_replicate]; congr 1; omega

/-- The table without keys. -/
def free10 : List Int := List.replicate 10 (-1)
theorem free10_len : free10.length = 10 := rfl
theorem full_free (m : Nat) (h : m ≤ 10) : free10 = full (List.replicate m (-1)) := (full_rep m h).symm

/-- freeTable's array while it is filled. -/
def filled (k : Nat) : List Int := List.replicate k (-1) ++ List.replicate (10 - k) 0
theorem filled_len {k : Nat} (h : k ≤ 10) : (filled k).length = 10 := by simp [filled]; omega
theorem filled_set {k : Nat} (h : k < 10) : (filled k).set k (-1) = filled (k + 1) := by
  unfold filled
  rw [List.set_append_right _ _ (by simp), List.length_replicate, Nat.sub_self, show 10 - k = (10 - (k + 1)) + 1 by omega, List.replicate_succ, List.set_cons_zero, List.replicate_succ', List.append_assoc]
  rfl

set_option maxHeartbeats 1000000 in
theorem freeTable_any (w : World) :
    Calls Tryz.prog 125 #[] w fun e w' => e = .returned (.agg (arr free10)) ∧ Below w.heap.size w w' := by
  go_enter Tryz.func125, Tryz.ntmps125
  go_wp2
  go_loopw [3] (fun i wr => ∃ k : Nat, k ≤ 10 ∧ i = .int .i64 k ∧ Arr wr 156 w.heap.size (List.replicate 10 0) ∧ Arr wr 156 (w.heap.size + 1) (filled k) ∧ Below w.heap.size w wr) (fun i _ => 10 - (intOf i).toNat)
  case atStart =>
    rw [← arr_zero10]
    refine ⟨0, by omega, rfl, (Arr.new w _ _).alloc _, ?_, ((Below.refl _ _).alloc (Nat.le_refl _) _).alloc (by simp) _⟩
    have := Arr.new (w.alloc (.cells (arr (List.replicate 10 0)) 156)) 156 (List.replicate 10 0)
    rw [World.size_alloc] at this
    exact this
  case round =>
    obtain ⟨k, hk, rfl, h0, h1, hb⟩ := hrel
    by_cases hlt : k < 10
    · obtain ⟨x, hcell, _⟩ := h1.get (k := k) (by rw [filled_len hk]; exact hlt)
      have hfz := h1.frozen k
      have hst := h1.store k (-1)
      rw [filled_set hlt] at hst
      have h0' := h0.other (g' := w.heap.size + 1) (by omega) k (.int .i64 (-1))
      have hb' := hb.setCell (p := ⟨w.heap.size + 1, k, none⟩) (by exact Nat.le_succ _) (.int .i64 (-1))
      go_wp2
      go_roundw
      case rel => exact ⟨k + 1, by omega, by go_num, h0', hst, hb'⟩
      case measure => simp [intOf]; omega
    · obtain rfl : k = 10 := by omega
      go_wp2_with (first | (refine load_arr rfl _ _ rfl _ rfl _ _ _ _ h1 und_slot inf_slot rfl ?_) | (refine store_arr rfl _ _ _ rfl _ rfl _ _ rfl _ _ h0 inf_slot rfl rfl ?_))
      intro w2 h2 hg2
      have hb2 := hb.grown hg2 hb.size (fun q hq => by cases hq; exact Nat.le_refl _)
      go_wp2
      exact ret_arr rfl rfl _ rfl _ _ 10 _ h2 und_slot inf_slot rfl ⟨rfl, hb2⟩

set_option maxHeartbeats 400000 in
theorem lookFrom_any (m s : Int) (w : World) :
    Calls Tryz.prog 126 #[.int .i64 m, .int .i64 s] w fun e w' => e = .returned (.func (.func 155) #[] #[.pointer (some ⟨w.heap.size + 1, 0, none⟩), .pointer (some ⟨w.heap.size, 0, none⟩)]) ∧
      w'.cell? ⟨w.heap.size, 0, none⟩ = some (.int .i64 m) ∧ w'.cell? ⟨w.heap.size + 1, 0, none⟩ = some (.int .i64 s) ∧ Below w.heap.size w w' ∧ w'.heap.size = w.heap.size + 2 := by
  go_enter Tryz.func126, Tryz.ntmps126
  go_wp2
  go_ret
  exact ⟨rfl, by simp [go_sem, World.cell?_alloc_past], by simp [go_sem, World.cell?_alloc_past], ((Below.refl _ _).alloc (Nat.le_refl _) _).alloc (by simp) _, by simp⟩

set_option maxHeartbeats 400000 in
theorem lookFrom1_any (m s d : Nat) (hm0 : 0 < m) (hm : m ≤ 100000) (hs : s ≤ 100000) (hd : d ≤ 100000) (b1 b2 : Nat) (w : World) (h1 : w.cell? ⟨b1, 0, none⟩ = some (.int .i64 m)) (h2 : w.cell? ⟨b2, 0, none⟩ = some (.int .i64 s)) :
    Calls Tryz.prog 155 #[.int .i64 d, .pointer (some ⟨b2, 0, none⟩), .pointer (some ⟨b1, 0, none⟩)] w fun e w' => e = .returned (.int .i64 (((s + d) % m : Nat) : Int)) ∧ w = w' := by
  have hne : ((m : Int) == 0) = false := by simp; omega
  go_enter Tryz.func155, Tryz.ntmps155
  go_wp2
  go_ret
  exact ⟨ret_int (by rw [Int.natCast_emod]; rfl), rfl⟩

set_option maxHeartbeats 1000000 in
theorem clone_any (b off cap : Nat) (l : List Int) (w : World) (hc : CellsAt w b off l) (hb : b < w.heap.size) (hl : l.length < 1000000) :
    Calls Tryz.prog 53 #[.slice (some ⟨b, off, none⟩) l.length cap] w fun e w' => ∃ v, e = .returned v ∧ Own w' w.heap.size v l ∧ Below w.heap.size w w' ∧ v ≠ .slice none 0 0 := by
  have hnil := fun wx => Lib.run_eql_slice_nil (P := Tryz.prog) wx 23 3 (some ⟨b, off, none⟩) l.length cap 0 0 Tryz.underlying23
  obtain ⟨i0, hi, hz0, hz1, hz2⟩ := info_parts infoInt
  have ho := Own.lit0 w w.heap.size (Nat.le_refl _)
  go_enter Tryz.func53, Tryz.ntmps53
  go_wp2_with (at_builtin; refine wpList_append_own _ rfl _ _ 23 rfl w.heap.size 3 i0 (.int .i64 0) 1 8 Tryz.underlying23 hi hz0 hz1 hz2 rfl (by decide) _ _ _ rfl ho ⟨b, off, none⟩ l.length cap (l.map (Value.int .i64)) rfl (by simp) ?c1 (ints_oneCell _ _) ?c3 ?c4 ?c5 ?_)
  case c1 =>
    intro j u hu
    have hj : j < l.length := by simpa using (List.getElem?_eq_some_iff.1 hu).1
    rw [getD_map hj] at hu
    obtain rfl := Option.some.inj hu
    rw [Addr.add_lit, World.cell?_alloc_past _ _ _ hb]
    exact hc j hj
  case c3 => unfold maxLen; simp; omega
  case c4 => simp; omega
  case c5 => simp
  intro v' w1 h1 h2 h3
  have hb1 : Below w.heap.size w w1 := ((Below.refl _ _).alloc (Nat.le_refl _) _).grown h2 (by simp) (fun q hq => by simp [Value.ownBlock] at hq; omega)
  go_wp2
  go_ret
  exact ⟨_, rfl, h1, hb1, h3⟩

theorem len_slot : Tryz.prog.arrayLen 156 = 10 := by kernel_rfl
theorem und_slot' : Tryz.prog.underlying 156 = some (.array (Tryz.prog.arrayLen 156) (Tryz.prog.elem 156)) := by kernel_rfl
theorem size_int (w : World) : (sizeOf (Tryz.prog.elem 156)).run Tryz.prog w = .ok 1 w := by kernel_rfl
/-- 'table[:m]' of an array of ten slots. -/
theorem slice_slot (B M : Nat) (h : M ≤ 10) (w : World) :
    (Instr.sliceAt 156 (.pointer (some ⟨B, 0, none⟩)) none (some (.int .i64 (M : Int))) none).run Tryz.prog w = .ok (.slice (some ⟨B, 0, none⟩) M 10) w := by
  rw [run_sliceAt_array_h w 156 ⟨B, 0, none⟩ und_slot' .i64 (M : Int) (by omega) (by rw [len_slot]; omega), size_int, len_slot]
  simp [slicedAt, Result.andThen, Addr.add]

set_option maxHeartbeats 1000000 in
theorem list_any (M : Nat) (t : List Int) (w : World) (hM : M ≤ 10) (ht : t.length = M) :
    Calls Tryz.prog 127 #[.agg (arr (full t)), .int .i64 M] w fun e w' => ∃ v, e = .returned v ∧ Own w' w.heap.size v t ∧ Below w.heap.size w w' ∧ v ≠ .slice none 0 0 := by
  have ha := Arr.new w 156 (full t)
  have hc : CellsAt (w.alloc (.cells (arr (full t)) 156)) w.heap.size 0 t := by
    intro i hi
    obtain ⟨x, h1, h2⟩ := ha.get (k := i) (by rw [full_len (by omega)]; omega)
    rw [Nat.zero_add, h1, ← h2.out, full_get hi]
  have hsl := slice_slot w.heap.size t.length (by omega)
  subst ht
  go_enter Tryz.func127, Tryz.ntmps127
  go_wp2_with fail
  refine (clone_any _ _ _ _ _ hc (by simp) (by omega)).mono ?_
  rintro e w1 ⟨v, rfl, ho, hb, hn⟩
  go_wp2
  go_ret
  refine ⟨_, rfl, ho.mono (by simp), ?_, hn⟩
  exact ((Below.refl _ _).alloc (Nat.le_refl _) _).trans (hb.mono (by simp))

theorem agg_int (w : World) : (isAgg 3).run Tryz.prog w = .ok false w := by kernel_rfl
theorem size_int2 (w : World) : (sizeOf 3).run Tryz.prog w = .ok 1 w := by kernel_rfl
/-- 'arr[i]' of an array of ten slots that is a value. -/
theorem index_slot (l : List Int) (hl : l.length = 10) (i : Nat) (hi : i < 10) (x : Int) (hx : l.getD i 0 = x) (w : World) :
    (Instr.index 156 (.agg (arr l)) (.int .i64 (i : Int))).run Tryz.prog w = .ok (.int .i64 x) w := by
  have e : (arr l)[i]? = some (.int .i64 x) := by rw [← hx]; simp [arr, List.getD, hl, hi]
  have h1 : (0 : Int) ≤ i ∧ (i : Int) < (10 : Nat) := ⟨by omega, by omega⟩
  simp [Instr.index, run_underlying und_slot, asIntOf, h1, part, Sem.run_bind, size_int2, agg_int, e]
  exact fun h => absurd h (by omega)
end Go.Proofs.YtoaiaindcmihjaaGreatDoor
/-
  impl.LinearTable.
-/
namespace Go.Proofs.YtoaiaindcmihjaaGreatDoor
open Go.RowKit

set_option maxHeartbeats 1000000 in
theorem implLinearTable_yes (M : Nat) (a : Option Addr) (l : List Int) (cap : Nat) (w : World) (hr : Reads w a l) (h : Homes M l) (hv : VH M l = true) :
    Calls Tryz.prog 95 #[.int .i64 M, .slice a l.length cap] w fun e w' => ∃ v, e = .returned (.tuple #[v, .int .i64 (lin M l l.length).2]) ∧ Own w' w.heap.size v (lin M l l.length).1 ∧ Below w.heap.size w w' := by
  have hM := h.le
  have hM1 := h.pos
  have hlen := h.len
  go_enter Tryz.func95, Tryz.ntmps95
  go_wp2_with fail
  go_step3
  go_wp2_with fail
  refine (implValidHomes_any _ _ _ _ _ hr).mono ?_
  rintro e w' ⟨rfl, rfl⟩
  go_wp2_with fail
  refine (freeTable_any _).mono ?_
  rintro e w1 ⟨rfl, hb⟩
  have hs1 := hb.size
  have h0 : Arr (w1.alloc (.cells (arr (List.replicate 10 0)) 156)) 156 w1.heap.size (List.replicate 10 0) := Arr.new _ _ _
  rw [arr_zero10] at h0
  go_wp2_with (refine store_arr rfl _ _ _ rfl _ rfl _ _ rfl _ _ h0 inf_slot rfl rfl ?_)
  intro w2 h2 hg2
  have hb2 : Below w.heap.size w w2 := (hb.alloc hb.size _).grown hg2 (by simp; omega) (fun q hq => by cases hq; exact hb.size)
  rw [full_free M hM] at h2
  clear hg2 h0 hb
  go_wp2
  go_step3
  go_wp2
  obtain ⟨g, hg⟩ : ∃ g, g = w1.heap.size := ⟨_, rfl⟩
  rw [← hg] at h2 ⊢
  have hgw : w.heap.size ≤ g := by omega
  clear hg
  go_loopw [7, 20] (fun c i wr => ∃ k : Nat, k ≤ l.length ∧ i = .int .i64 k ∧ c = .int .i64 (lin M l k).2 ∧ Arr wr 156 g (full (lin M l k).1) ∧ Below w.heap.size w wr) (fun _ i _ => l.length - (intOf i).toNat)
  case atStart => exact ⟨0, Nat.zero_le _, rfl, rfl, h2, hb2⟩
  case round =>
    clear h2 hb2
    obtain ⟨k, hk, rfl, rfl, ht, hb⟩ := hrel
    by_cases hlt : k < l.length
    · obtain ⟨b, off, x, rfl, hbb, hcell, hx⟩ := hr.get hlt
      have hx2 : x = (home l k : Int) := by rw [h.home_cast hlt]; exact hx.out.symm
      have hhl := h.home_lt hlt
      clear hx
      subst hx2
      have hc1 : wr.cell? ⟨b, off + k, none⟩ = some (.int .i64 (home l k)) := (hb.cell (by exact hbb)).trans hcell
      have hbd := lin_bound h k hk
      obtain ⟨D, hway⟩ := way (lin_len M l k) hhl (by rw [lin_held h k hk]; omega)
      have hDM := hway.lt
      have hll := lin_len M l k
      have HLL := Lib.hid hll
      clear hll
      go_wp2_with fail
      refine (lookFrom_any _ _ _).mono ?_
      rintro e w3 ⟨rfl, hk1, hk2, hb3, hs3⟩
      have ht3 := ht.belowAll hb3
      have hb4 := hb.trans (hb3.mono hb.size)
      have hk1' : w3.cell? ⟨wr.heap.size, 0, none⟩ = some (.int .i64 (M : Int)) := hk1
      clear ht hb hb3 hk1
      go_wp2
      go_loop [7, 29] (fun c i => ∃ d : Nat, d ≤ D ∧ i = .int .i64 d ∧ c = .int .i64 ((lin M l k).2 + d)) (fun _ i => M - (intOf i).toNat)
      case atStart => exact ⟨0, Nat.zero_le _, rfl, by simp⟩
      case round =>
        obtain ⟨d, hd, rfl, rfl⟩ := hrel
        obtain ⟨p, hpd⟩ : ∃ p, p = (home l k + d) % M := ⟨_, rfl⟩
        have hpM : p < M := by rw [hpd]; exact Nat.mod_lt _ (by omega)
        obtain ⟨y, hcell2, hy⟩ := ht3.get (k := p) (by rw [full_len (by rw [HLL.out]; exact hM)]; omega)
        have hy2 : (lin M l k).1.getD p 0 = y := by rw [← hy.out, full_get (by rw [HLL.out]; exact hpM)]
        have HPD := Lib.hid hpd
        have HY := Lib.hid hy2
        clear hpd hy hy2
        go_wp2_with fail
        refine (lookFrom1_any M (home l k) d (by omega) (by omega) (by omega) (by omega) wr.heap.size (wr.heap.size + 1) _ hk1' hk2).mono ?_
        rintro e w' ⟨rfl, rfl⟩
        rw [← HPD.out]
        have hsl := lin_slots M l k p (by rw [HLL.out]; exact hpM)
        rw [HY.out] at hsl
        by_cases hlt2 : y = -1
        · have hdD : d = D := by
            apply Classical.byContradiction
            intro hne
            exact hway.full d p (by omega) HPD.out (by rw [HY.out]; omega)
          have HD := Lib.hid hdD
          clear hdD hsl
          subst hlt2
          have hfz := ht3.frozen p
          have hst := ht3.store p k
          rw [full_set (by rw [HLL.out]; exact hpM)] at hst
          have hbs := hb4.setCell (p := ⟨g, p, none⟩) hgw (.int .i64 k)
          go_wp2
          go_roundw
          case rel =>
            obtain ⟨e1, e2⟩ := lin_succ hway (p := p) (by rw [← HD.out]; exact HPD.out)
            refine ⟨k + 1, by omega, by go_num, ?_, by rw [e1]; exact hst, hbs⟩
            rw [e2, ← HD.out]; congr 1
          case measure => simp [intOf]; omega
        · have hne : (y == -1) = false := by simpa using hlt2
          have hdD : d < D := by
            apply Classical.byContradiction
            intro hn
            have : d = D := by omega
            have := hway.free p (by rw [← this]; exact HPD.out)
            rw [HY.out] at this
            omega
          clear hsl
          go_wp2
          go_round
          case rel => exact ⟨d + 1, by omega, by go_num, by go_num⟩
          case measure => simp [intOf]; omega
    · obtain rfl : k = l.length := by omega
      have hl1 := lin_len M l l.length
      go_wp2_with (refine load_arr rfl _ _ rfl _ rfl _ _ _ _ ht und_slot inf_slot (full_len (by rw [hl1]; exact hM)) ?_)
      go_wp2_with fail
      refine (list_any M _ _ hM hl1).mono ?_
      rintro e w3 ⟨v, rfl, ho, hb3, _⟩
      go_wp2
      try rw [Exit.noGoto_ret]
      go_ret2
      exact ⟨_, rfl, ho.mono hb.size, hb.trans (hb3.mono hb.size)⟩

theorem implLinearTable_no (m : Int) (a : Option Addr) (l : List Int) (cap : Nat) (w : World) (hr : Reads w a l) (hv : VH m l = false) :
    Calls Tryz.prog 95 #[.int .i64 m, .slice a l.length cap] w fun e w' => e = .returned (.tuple #[.slice none 0 0, .int .i64 (-1)]) ∧ w = w' := by
  go_enter Tryz.func95, Tryz.ntmps95
  go_wp2_with fail
  go_step3
  go_wp2_with fail
  refine (implValidHomes_any _ _ _ _ _ hr).mono ?_
  rintro e w' ⟨rfl, rfl⟩
  go_wp2
  try rw [Exit.noGoto_ret]
  go_ret2
  exact ⟨rfl, rfl⟩

theorem implLinearTable_any (m : Int) (a : Option Addr) (l : List Int) (cap : Nat) (w : World) (hm : In64 m) (hr : Reads w a l) (_hi : ∀ n ∈ l, In64 n) (hl : l.length ≤ 1048586) :
    Calls Tryz.prog 95 #[.int .i64 m, .slice a l.length cap] w fun e w' => ∃ v, e = .returned (.tuple #[v, .int .i64 (LT m l).2]) ∧ Own w' w.heap.size v (LT m l).1 ∧ Below w.heap.size w w' := by
  by_cases hv : VH m l = true
  · have hh := VH_iff.1 hv
    have hM := Homes.of_VH hh
    obtain ⟨M, rfl⟩ := Int.eq_ofNat_of_zero_le (show 0 ≤ m by omega)
    unfold LT
    rw [if_pos hv]
    exact implLinearTable_yes M a l cap w hr hM hv
  · refine (implLinearTable_no m a l cap w hr (by simpa using hv)).mono ?_
    rintro e w' ⟨rfl, rfl⟩
    unfold LT
    rw [if_neg hv]
    exact ⟨_, rfl, Own.nil _ _, Below.refl _ _⟩

end Go.Proofs.YtoaiaindcmihjaaGreatDoor
/-
  impl.stepsTo, impl.givesWay, impl.FairTable.
-/
namespace Go.Proofs.YtoaiaindcmihjaaGreatDoor
open Go.RowKit

set_option maxHeartbeats 400000 in
theorem stepsTo_any (m h p : Int) (hm : 1 ≤ m) (hm' : m ≤ 100000) (h0 : 0 ≤ h) (h1 : h < m) (p0 : 0 ≤ p) (p1 : p < m) (w : World) :
    Calls Tryz.prog 157 #[.int .i64 m, .int .i64 h, .int .i64 p] w fun e w' => e = .returned (.int .i64 (offI m h p)) ∧ w = w' := by
  have hne : (m == 0) = false := by simp; omega
  go_enter Tryz.func157, Tryz.ntmps157
  go_wp2
  go_ret
  exact ⟨rfl, rfl⟩

set_option maxHeartbeats 400000 in
theorem givesWay_any (M : Nat) (a : Option Addr) (l : List Int) (cap p o q : Nat) (w : World) (hr : Reads w a l) (h : Homes M l) (hp : p < M) (hol : o < l.length) (hql : q < l.length) :
    Calls Tryz.prog 129 #[.int .i64 M, .slice a l.length cap, .int .i64 p, .int .i64 o, .int .i64 q] w fun e w' => e = .returned (.bool (gives M l p o q)) ∧ w = w' := by
  have hM := h.le
  have hM1 := h.pos
  have hlen := h.len
  obtain ⟨b, off, x, rfl, hbb, hz1, hz2⟩ := hr.get hol
  clear hz1 hz2
  obtain ⟨hq, hcq1, hhq⟩ := hr.at_ hql
  obtain ⟨hoo, hco1, hho⟩ := hr.at_ hol
  have fq := h.fit q hql
  have fo := h.fit o hol
  rw [hhq.out] at fq
  rw [hho.out] at fo
  obtain ⟨A, hA⟩ : ∃ A, offI M hq p = A := ⟨_, rfl⟩
  obtain ⟨B, hB⟩ : ∃ B, offI M hoo p = B := ⟨_, rfl⟩
  have HA := Lib.hid hA
  have HB := Lib.hid hB
  clear hA hB
  go_enter Tryz.func129, Tryz.ntmps129
  go_wp2_with fail
  refine (stepsTo_any _ _ _ (by omega) (by omega) fo.1 fo.2 (by omega) (by omega) _).mono ?_
  rintro e w' ⟨rfl, rfl⟩
  rw [HB.out]
  go_wp2_with fail
  refine (stepsTo_any _ _ _ (by omega) (by omega) fq.1 fq.2 (by omega) (by omega) _).mono ?_
  rintro e w' ⟨rfl, rfl⟩
  rw [HA.out]
  by_cases hAB : B < A
  · go_wp2
    go_ret
    exact ⟨ret_bool (gives_lt (A := A) (B := B) (l := l) (k := q) (o := o) (m := M) (p := p) (by rw [hhq.out]; exact HA.out) (by rw [hho.out]; exact HB.out) hAB).symm, rfl⟩
  by_cases hEQ : A = B
  · by_cases hko : q < o
    · have HEQ := Lib.hid hEQ
      have hb1 : (B == A) = true := by simp [hEQ]
      clear hEQ
      go_wp2
      go_ret
      exact ⟨ret_bool (gives_eq (A := A) (B := B) (l := l) (k := q) (o := o) (m := M) (p := p) (by rw [hhq.out]; exact HA.out) (by rw [hho.out]; exact HB.out) HEQ.out hko).symm, rfl⟩
    · have HEQ := Lib.hid hEQ
      have hb1 : (B == A) = true := by simp [hEQ]
      have hb2 : decide ((q : Int) < o) = false := by simp; omega
      have hb3 : decide (B < A) = false := by simp; omega
      clear hEQ
      go_wp2
      go_ret
      exact ⟨ret_bool (gives_no (A := A) (B := B) (l := l) (k := q) (o := o) (m := M) (p := p) (by rw [hhq.out]; exact HA.out) (by rw [hho.out]; exact HB.out) (by omega) (fun hh => by have := hh.2; omega)).symm, rfl⟩
  · have hb1 : (B == A) = false := by simp; omega
    have hb3 : decide (B < A) = false := by simp; omega
    go_wp2
    go_ret
    exact ⟨ret_bool (gives_no (A := A) (B := B) (l := l) (k := q) (o := o) (m := M) (p := p) (by rw [hhq.out]; exact HA.out) (by rw [hho.out]; exact HB.out) (by omega) (fun hh => hEQ hh.1)).symm, rfl⟩

set_option maxHeartbeats 2000000 in
theorem implFairTable_yes (M : Nat) (a : Option Addr) (l : List Int) (cap : Nat) (w : World) (hr : Reads w a l) (h : Homes M l) (hv : VH M l = true) :
    Calls Tryz.prog 98 #[.int .i64 M, .slice a l.length cap] w fun e w' => ∃ v, e = .returned v ∧ Own w' w.heap.size v (rob M l l.length) ∧ Below w.heap.size w w' := by
  have hM := h.le
  have hM1 := h.pos
  have hlen := h.len
  go_enter Tryz.func98, Tryz.ntmps98
  go_wp2_with fail
  go_step3
  go_wp2_with fail
  refine (implValidHomes_any _ _ _ _ _ hr).mono ?_
  rintro e w' ⟨rfl, rfl⟩
  go_wp2_with fail
  refine (freeTable_any _).mono ?_
  rintro e w1 ⟨rfl, hb⟩
  have hs1 := hb.size
  have h0 : Arr (w1.alloc (.cells (arr (List.replicate 10 0)) 156)) 156 w1.heap.size (List.replicate 10 0) := Arr.new _ _ _
  rw [arr_zero10] at h0
  go_wp2_with (refine store_arr rfl _ _ _ rfl _ rfl _ _ rfl _ _ h0 inf_slot rfl rfl ?_)
  intro w2 h2 hg2
  have hb2 : Below w.heap.size w w2 := (hb.alloc hb.size _).grown hg2 (by simp; omega) (fun q hq => by cases hq; exact hb.size)
  rw [full_free M hM] at h2
  clear hg2 h0 hb
  go_wp2
  go_step3
  go_wp2
  obtain ⟨g, hg⟩ : ∃ g, g = w1.heap.size := ⟨_, rfl⟩
  rw [← hg] at h2 ⊢
  have hgw : w.heap.size ≤ g := by omega
  clear hg
  go_loopw [20] (fun i wr => ∃ k : Nat, k ≤ l.length ∧ i = .int .i64 k ∧ Arr wr 156 g (full (rob M l k)) ∧ Below w.heap.size w wr) (fun i _ => l.length - (intOf i).toNat)
  case atStart => exact ⟨0, Nat.zero_le _, rfl, h2, hb2⟩
  case round =>
    clear h2 hb2
    obtain ⟨k, hk, rfl, ht, hb⟩ := hrel
    by_cases hlt : k < l.length
    · obtain ⟨b, off, x, rfl, hbb, hcell, hx⟩ := hr.get hlt
      have hx2 : x = (home l k : Int) := by rw [h.home_cast hlt]; exact hx.out.symm
      have hhl := h.home_lt hlt
      clear hx
      subst hx2
      have hc1 : wr.cell? ⟨b, off + k, none⟩ = some (.int .i64 (home l k)) := (hb.cell (by exact hbb)).trans hcell
      obtain ⟨v1, v2, v3⟩ := rob_inv h k hk
      obtain ⟨D, hway⟩ := way v1 hhl (by rw [v3]; omega)
      have hDM := hway.lt
      have hinv := rob1_inv (l := l) h.pos v1 v2 hway
      have HINV := Lib.hid hinv
      clear hinv v1 v2 v3
      go_wp2_with fail
      refine (lookFrom_any _ _ _).mono ?_
      rintro e w3 ⟨rfl, hk1, hk2, hb3, hs3⟩
      have ht3 := ht.belowAll hb3
      have hb4 := hb.trans (hb3.mono hb.size)
      have hk1' : w3.cell? ⟨wr.heap.size, 0, none⟩ = some (.int .i64 (M : Int)) := hk1
      have hgc := ht.lt
      obtain ⟨c, hc⟩ : ∃ c, c = wr.heap.size := ⟨_, rfl⟩
      rw [← hc] at hk1' hk2 hgc hs3 ⊢
      clear ht hb hb3 hk1 hc1 hcell hc
      go_wp2
      go_loopw [9, 30] (fun key i wq => ∃ d : Nat, d ≤ D ∧ i = .int .i64 d ∧ key = .int .i64 (rob1 M l (home l k) (rob M l k) k d).2 ∧ Arr wq 156 g (full (rob1 M l (home l k) (rob M l k) k d).1) ∧ Below w.heap.size w wq ∧ wq.cell? ⟨c, 0, none⟩ = some (.int .i64 (M : Int)) ∧ wq.cell? ⟨c + 1, 0, none⟩ = some (.int .i64 (home l k : Int))) (fun _ i _ => M - (intOf i).toNat)
      case atStart => exact ⟨0, Nat.zero_le _, rfl, rfl, ht3, hb4, hk1', hk2⟩
      case round =>
        clear ht3 hb4 hk1' hk2 hs3
        obtain ⟨d, hdle, rfl, rfl, ht, hb, hk1, hk2⟩ := hrel
        obtain ⟨r1, r2, r3, r4⟩ := HINV.out d hdle
        obtain ⟨T, q, hs⟩ : ∃ T q, rob1 M l (home l k) (rob M l k) k d = (T, q) := ⟨_, _, rfl⟩
        have HS := Lib.hid hs
        rw [hs] at r1 r2 r3 r4 ht ⊢
        clear hs
        dsimp only at r1 r2 r3 r4 ht ⊢
        obtain ⟨p, hpd⟩ : ∃ p, p = (home l k + d) % M := ⟨_, rfl⟩
        have hp : p < M := by rw [hpd]; exact Nat.mod_lt _ (by omega)
        have HPD := Lib.hid hpd
        clear hpd
        have HR1 := Lib.hid r1
        obtain ⟨y, hcell2, hy⟩ := ht.get (k := p) (by rw [full_len (by omega)]; omega)
        have hy2 : T.getD p 0 = y := by rw [← hy.out, full_get (by omega)]
        have hr2 := r2 p (by omega)
        rw [hy2] at hr2
        have hyf := r4 p hp
        rw [hy2] at hyf
        have HY := Lib.hid hy2
        have HYF := Lib.hid hyf
        have hfz := ht.frozen p
        clear hyf hy2 hy r1 r2 r4
        go_wp2_with fail
        refine (lookFrom1_any M (home l k) d (by omega) (by omega) (by omega) (by omega) c (c + 1) _ hk1 hk2).mono ?_
        rintro e w' ⟨rfl, rfl⟩
        rw [← HPD.out]
        by_cases hlt2 : y = -1
        · have hdD : d = D := by
            apply Classical.byContradiction
            intro hne
            exact hway.full d p (by omega) HPD.out (HYF.out.1 (by omega))
          have HDD := Lib.hid hdD
          clear hdD hr2
          subst hlt2
          have hst := ht.store p q
          rw [full_set (by rw [HR1.out]; exact hp)] at hst
          have hbs := hb.setCell (p := ⟨g, p, none⟩) hgw (.int .i64 q)
          go_wp2
          go_roundw
          case rel =>
            refine ⟨k + 1, by omega, by go_num, ?_, hbs⟩
            rw [rob_succ hway (p := p) (by rw [← HDD.out]; exact HPD.out), ← HDD.out, HS.out]
            exact hst
          case measure => simp [intOf]; omega
        · have hne1 : (y == -1) = false := by simpa using hlt2
          have hdD : d < D := by
            apply Classical.byContradiction
            intro hne
            have : d = D := by omega
            have := HYF.out.2 (hway.free p (by rw [← this]; exact HPD.out))
            omega
          obtain ⟨o, rfl⟩ := Int.eq_ofNat_of_zero_le (show 0 ≤ y by omega)
          have hol : o < l.length := by omega
          have hql : q < l.length := by omega
          have hrr : Reads wr (some ⟨b, off, none⟩) l := hr.below hb
          clear hr2 hlt2
          go_wp2_with fail
          refine (givesWay_any M _ _ _ _ _ _ _ hrr h hp hol hql).mono ?_
          rintro e w' ⟨rfl, rfl⟩
          by_cases hgv : gives M l p o q = true
          · have hst := ht.store p q
            rw [full_set (by rw [HR1.out]; exact hp)] at hst
            have hbs := hb.setCell (p := ⟨g, p, none⟩) hgw (.int .i64 q)
            have hk1s : (wr.setCell ⟨g, p, none⟩ (.int .i64 q)).cell? ⟨c, 0, none⟩ = some (.int .i64 (M : Int)) := by
              rw [World.cell?_of_block (w := wr) (heap_setCell_other _ _ _ _ (by show c ≠ g; omega))]; exact hk1
            have hk2s : (wr.setCell ⟨g, p, none⟩ (.int .i64 q)).cell? ⟨c + 1, 0, none⟩ = some (.int .i64 (home l k : Int)) := by
              rw [World.cell?_of_block (w := wr) (heap_setCell_other _ _ _ _ (by show c + 1 ≠ g; omega))]; exact hk2
            go_wp2
            go_roundw
            case rel =>
              have e1 := rob1_succ_yes (l := l) (t := rob M l k) (k := k) HPD.out (o := o) (by rw [HS.out]; exact HY.out) (by rw [HS.out]; exact hgv)
              rw [HS.out] at e1
              exact ⟨d + 1, by omega, by go_num, by rw [e1], by rw [e1]; exact hst, hbs, hk1s, hk2s⟩
            case measure => simp [intOf]; omega
          · have hgv' : gives M l p o q = false := by simpa using hgv
            go_wp2
            go_roundw
            case rel =>
              have e1 := rob1_succ_no (l := l) (t := rob M l k) (k := k) HPD.out (o := o) (by rw [HS.out]; exact HY.out) (by rw [HS.out]; exact hgv')
              rw [HS.out] at e1
              exact ⟨d + 1, by omega, by go_num, by rw [e1], by rw [e1]; exact ht, hb, hk1, hk2⟩
            case measure => simp [intOf]; omega
    · obtain rfl : k = l.length := by omega
      have hl1 := (rob_inv h l.length (Nat.le_refl _)).1
      go_wp2_with (refine load_arr rfl _ _ rfl _ rfl _ _ _ _ ht und_slot inf_slot (full_len (by rw [hl1]; exact hM)) ?_)
      go_wp2_with fail
      refine (list_any M _ _ hM hl1).mono ?_
      rintro e w3 ⟨v, rfl, ho, hb3, _⟩
      go_wp2
      try rw [Exit.noGoto_ret]
      go_ret
      exact ⟨_, rfl, ho.mono hb.size, hb.trans (hb3.mono hb.size)⟩

theorem implFairTable_any (m : Int) (a : Option Addr) (l : List Int) (cap : Nat) (w : World) (hm : In64 m) (hr : Reads w a l) (_hi : ∀ n ∈ l, In64 n) (hl : l.length ≤ 1048586) :
    Calls Tryz.prog 98 #[.int .i64 m, .slice a l.length cap] w fun e w' => ∃ v, e = .returned v ∧ Own w' w.heap.size v (FT m l) ∧ Below w.heap.size w w' := by
  by_cases hv : VH m l = true
  · have hM := Homes.of_VH (VH_iff.1 hv)
    obtain ⟨M, rfl⟩ := Int.eq_ofNat_of_zero_le (show 0 ≤ m by have := (VH_iff.1 hv).1; omega)
    have hF : FT M l = rob M l l.length := by unfold FT; rw [if_pos hv]; rfl
    rw [hF]
    exact implFairTable_yes M a l cap w hr hM hv
  · have hv' : VH m l = false := by simpa using hv
    have hF : FT m l = [] := by unfold FT; rw [if_neg hv]
    rw [hF]
    clear hF hv
    go_enter Tryz.func98, Tryz.ntmps98
    go_wp2_with fail
    go_step3
    go_wp2_with fail
    refine (implValidHomes_any _ _ _ _ _ hr).mono ?_
    rintro e w' ⟨rfl, rfl⟩
    go_wp2
    try rw [Exit.noGoto_ret]
    go_ret
    exact ⟨_, rfl, Own.nil _ _, Below.refl _ _⟩

end Go.Proofs.YtoaiaindcmihjaaGreatDoor
