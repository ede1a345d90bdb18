/-
  Slices of texts; spec.splitAt, listText.
-/
import Derived.Test.YtoaiaindcmihjaaGreatDoorNR
import Derived.Test.YtoaiaindcmihjaaGreatDoorN5
namespace Go.Proofs.YtoaiaindcmihjaaGreatDoor
open Go.RowKit

/-- The texts' values. -/
def strs (l : List (List UInt8)) : List Value := l.map fun s => .string (B8 s)
theorem strs_get {l : List (List UInt8)} {i : Nat} (h : i < l.length) : (strs l)[i]? = some (.string (B8 (l.getD i []))) := by simp [strs, List.getD, h]
/-- The slice (its address, its length) reads as the texts. -/
def ReadsX (w : World) (a : Option Addr) (l : List (List UInt8)) : Prop := l = [] ∨ ∃ b off, a = some ⟨b, off, none⟩ ∧ b < w.heap.size ∧ ∀ i, i < l.length → w.cell? ⟨b, off + i, none⟩ = some (.string (B8 (l.getD i [])))
theorem ReadsX.below {w w' : World} (h : Below w.heap.size w w') {a : Option Addr} {l : List (List UInt8)} (hc : ReadsX w a l) : ReadsX w' a l := by
  rcases hc with h0 | ⟨b, off, ha, hb, hc⟩
  · exact .inl h0
  · exact .inr ⟨b, off, ha, Nat.lt_of_lt_of_le hb h.size, fun i hi => (h.cell (p := ⟨b, off + i, none⟩) hb).trans (hc i hi)⟩
theorem ReadsX.get {w : World} {a : Option Addr} {l : List (List UInt8)} (h : ReadsX w a l) {k : Nat} (hk : k < l.length) : ∃ b off, a = some ⟨b, off, none⟩ ∧ b < w.heap.size ∧ w.cell? ⟨b, off + k, none⟩ = some (.string (B8 (l.getD k []))) := by
  rcases h with rfl | ⟨b, off, ha, hb, hc⟩
  · simp at hk
  · exact ⟨b, off, ha, hb, hc k hk⟩
/-- A slice of texts of the call's own. -/
def OwnX (w : World) (base : Nat) (v : Value) (l : List (List UInt8)) : Prop := w.ownsRow base 9 1 v l.length (strs l)
theorem OwnX.lt {w : World} {base : Nat} {v : Value} {l : List (List UInt8)} (h : OwnX w base v l) : ∀ k, v.ownBlock = some k → base ≤ k ∧ k < w.heap.size := World.ownsRow.lt h
theorem OwnX.kept {w w' : World} {base : Nat} {v : Value} {l : List (List UInt8)} {row : Option Nat} (h : OwnX w base v l) (hg : w.grownBy w' row) (hne : v.ownBlock = none ∨ v.ownBlock ≠ row) : OwnX w' base v l := World.ownsRow.kept h hg hne
theorem OwnX.below {w w' : World} {base : Nat} {v : Value} {l : List (List UInt8)} (hb : Below w.heap.size w w') (h : OwnX w base v l) : OwnX w' base v l :=
  World.ownsRow.kept h (row := none) ⟨hb.os, hb.tape, hb.output, hb.size, fun i hi _ => hb.block i hi⟩ (by cases hv : v.ownBlock with | none => exact .inl rfl | some q => exact .inr (fun e => by cases e))
theorem OwnX.form {w : World} {base : Nat} {v : Value} {l : List (List UInt8)} (h : OwnX w base v l) : ∃ a cap, v = .slice a l.length cap ∧ ReadsX w a l ∧ l.length ≤ cap ∧ cap ≤ maxLen := by
  rcases h.2 with ⟨rfl, h0⟩ | ⟨g, cap, cur, rfl, hb, hg, hn, hm, hs, ht⟩
  · exact ⟨none, 0, by rw [h0], .inl (List.eq_nil_of_length_eq_zero h0), by omega, by unfold maxLen; omega⟩
  · refine ⟨some ⟨g, 0, none⟩, cap, rfl, .inr ⟨g, 0, rfl, (Array.getElem?_eq_some_iff.1 hg).1, fun i hi => ?_⟩, hn, hm⟩
    rw [World.ownsRow.cellAt h (0 + i) (by omega), Nat.zero_add]
    exact strs_get hi
theorem OwnX.lit0 (w : World) (base : Nat) (hb : base ≤ w.heap.size) : OwnX (w.alloc (.cells #[] 9)) base (.slice (some ⟨w.heap.size, 0, none⟩) 0 0) [] :=
  World.ownsRow_lit w #[] 0 hb (by unfold maxLen; omega) rfl
theorem infoStr : (Tryz.prog.info? 9).map (fun i => (i.zero, i.size, i.bytes)) = some (some (.string ⟨#[]⟩), 1, 16) := by kernel_rfl
/-- 'append(s, x)' of one text onto a slice of the call's own. -/
theorem push_str {wr : World} {ops : Array Oper} {rest : List Oper} {o : Oper} {a : Act} {Q : Exit → Act → World → Prop} (hgd : o.guard = none) (s x : Operand)
    (ho : o.op = .call { callee := .builtin .append, args := #[s, x], argTypes := #[33, 33] })
    (base : Nat) (v : Value) (l : List (List UInt8)) (y : List UInt8) (hs : a.eval s = v) (hown : OwnX wr base v l) (hx : a.eval x = .slice (some ⟨wr.heap.size, 0, none⟩) 1 1)
    (hl : l.length < 1000000000) (hbase : base ≤ wr.heap.size)
    (h : ∀ v' w', OwnX w' base v' (l ++ [y]) → wr.grownBy w' v.ownBlock → wpList Tryz.prog ops Q rest (a.put o.dst v') w') :
    wpList Tryz.prog ops Q (o :: rest) a (wr.alloc (.cells #[.string (B8 y)] 9)) := by
  obtain ⟨i0, hi, hz0, hz1, hz2⟩ := info_parts infoStr
  refine wpList_append_own _ hgd s x 33 ho base 9 i0 (.string ⟨#[]⟩) 1 16 Tryz.underlying33 hi hz0 hz1 hz2 rfl (by decide) v l.length (strs l) hs (World.ownsRow.alloc hown _) ⟨wr.heap.size, 0, none⟩ 1 1 [.string (B8 y)] hx rfl (cell_one_new _ _ _) (fun u hu => by simp at hu; subst hu; rfl) (by unfold maxLen; omega) (by omega) (by simp; omega) fun v' w' h1 h2 _ => h v' w' ?_ ?_
  · unfold OwnX
    rw [List.length_append]
    have e : strs (l ++ [y]) = strs l ++ [.string (B8 y)] := by simp [strs]
    rw [e]; exact h1
  · refine ⟨h2.os, h2.tape, h2.output, Nat.le_trans (by simp) h2.size, fun k hk hne => ?_⟩
    rw [h2.block k (by simp; omega) hne]; exact Below.heap_alloc _ _ _ hk
theorem B8_sub (s : List UInt8) (a b : Nat) : (B8 s).extract a b = B8 ((s.drop a).take (b - a)) := ByteArray.extract_mk s a b
theorem drop_step {s : List UInt8} {f i : Nat} (hf : f ≤ i) (hi : i < s.length) : (s.drop f).take (i + 1 - f) = (s.drop f).take (i - f) ++ [s.getD i 0] := by
  have e : i + 1 - f = (i - f) + 1 := by omega
  have h : i - f < (s.drop f).length := by rw [List.length_drop]; omega
  rw [e, List.take_succ_eq_append_getElem h, List.getElem_drop]
  simp [List.getD, show f + (i - f) = i by omega, hi]
theorem cut_take {c : UInt8} {s : List UInt8} {i : Nat} (hi : i < s.length) : cut c (s.take (i + 1)) = cst c (cut c (s.take i)) (s.getD i 0) := by rw [takeU hi, cut_snoc]
set_option maxHeartbeats 8000000 in
set_option maxRecDepth 100000 in
theorem splitAt_any (s : List UInt8) (c : UInt8) (w : World) (hs : s.length ≤ 9000000) : Calls Tryz.prog 75 #[.string (B8 s), .int .u8 (c.toNat : Int)] w fun e w' => ∃ v, e = .returned v ∧ OwnX w' w.heap.size v (pcs c s) ∧ Below w.heap.size w w' := by
  have hsz := B8_size s
  have hg := B8_get s
  have hsub := B8_sub s
  have hdr := B8_drop s
  obtain ⟨S, hS⟩ : ∃ S, S = B8 s := ⟨_, rfl⟩
  have hgk : ∀ k, k < s.length → ∀ h : k < S.size, (S[k]'h).toNat = (s.getD k 0).toNat := by rw [hS]; exact fun k _ h => hg k h
  rw [← hS] at hsz hsub hdr ⊢
  obtain ⟨N, hN⟩ : ∃ N, N = s.length := ⟨_, rfl⟩
  rw [← hN] at hsz hgk hdr hs
  obtain ⟨cn, hcn⟩ : ∃ cn : Nat, cn = c.toNat := ⟨_, rfl⟩
  rw [← hcn]
  have HN := Lib.hid hN
  have HGK := Lib.hid hgk
  have HSUB := Lib.hid hsub
  have HDR := Lib.hid hdr
  have HCN := Lib.hid hcn
  have ho := OwnX.lit0 w w.heap.size (Nat.le_refl _)
  have hB := (Below.refl w.heap.size w).alloc (Nat.le_refl _) (.cells #[] 9)
  clear hg hS hN hgk hsub hdr hcn
  go_enter Tryz.func75, Tryz.ntmps75
  go_wp2
  go_loopw [5, 6, 7] (fun ov fv iv wr => ∃ i f : Nat, i ≤ N ∧ f ≤ i ∧ iv = .int .i64 (i : Int) ∧ fv = .int .i64 (f : Int) ∧ OwnX wr w.heap.size ov (cut c (s.take i)).1 ∧ Hid ((cut c (s.take i)).2 = (s.drop f).take (i - f)) ∧ Below w.heap.size w wr) (fun _ _ iv _ => N - (intOf iv).toNat)
  case atStart => exact ⟨0, 0, by omega, by omega, rfl, rfl, ho, rfl, hB⟩
  case round =>
    clear ho hB
    rename World => wo
    obtain ⟨i, f, hi, hf, rfl, rfl, ho, h2, hB⟩ := hrel
    have hz := hB.size
    have hlen := cut_len c (s.take i)
    rw [List.length_take] at hlen
    have hT9 : (cut c (s.take i)).1.length ≤ 9000000 := by omega
    by_cases hlt : i < N
    · have hi1 : (i : Int) < (N : Int) := by omega
      have his : i < s.length := by have := HN.out; omega
      have hct := cut_take (c := c) his
      have hgk := HGK.out i hlt
      have hds := drop_step hf his
      obtain ⟨x, hx⟩ : ∃ x, x = s.getD i 0 := ⟨_, rfl⟩
      rw [← hx] at hct hgk hds
      obtain ⟨D, hD⟩ : ∃ D : Nat, D = x.toNat := ⟨_, rfl⟩
      rw [← hD] at hgk
      obtain ⟨T, hT⟩ : ∃ T, T = (cut c (s.take i)).1 := ⟨_, rfl⟩
      rw [← hT] at ho hT9
      by_cases hxc : x = c
      · have hd1 : ((D : Int) == (cn : Int)) = true := by rw [hD, HCN.out, hxc]; simp
        have hc1 : (cut c (s.take (i + 1))).1 = T ++ [(s.drop f).take (i - f)] := by rw [hct]; unfold cst; rw [if_pos hxc, ← hT, h2.out]
        have hc2 : Hid ((cut c (s.take (i + 1))).2 = (s.drop (i + 1)).take (i + 1 - (i + 1))) := by show (cut c (s.take (i + 1))).2 = _; rw [hct]; unfold cst; rw [if_pos hxc]; simp
        have HC1 := Lib.hid hc1
        have hsub := HSUB.out f i
        obtain ⟨Y, hY⟩ : ∃ Y, Y = (s.drop f).take (i - f) := ⟨_, rfl⟩
        rw [← hY] at hsub HC1
        have f1 : (f : Int) ≤ (i : Int) := by omega
        have f2 : (i : Int) ≤ (N : Int) := by omega
        clear hct hds hc1 hY hx hD hT hxc h2 hlen his
        go_wp2_with (at_builtin; refine push_str rfl (.tmp 20) (.tmp 25) rfl w.heap.size _ T Y rfl ho rfl (by omega) hz ?_)
        intro v' wf of gf
        rw [← HC1.out] at of
        have hBf := hB.grown gf hB.size (fun k hk => (ho.lt k hk).1)
        clear gf ho hB
        go_wp2
        go_roundw
        case rel => exact ⟨i + 1, i + 1, by omega, by omega, by go_num, by go_num, of, hc2, hBf⟩
        case measure => simp [intOf]; omega
      · have hd1 : ((D : Int) == (cn : Int)) = false := by
          have hne : ¬ D = cn := fun e => hxc (UInt8.toNat_inj.1 (by rw [← hD, ← HCN.out]; exact e))
          simp; omega
        have hc1 : (cut c (s.take (i + 1))).1 = T := by rw [hct]; unfold cst; rw [if_neg hxc, ← hT]
        have hc2 : Hid ((cut c (s.take (i + 1))).2 = (s.drop f).take (i + 1 - f)) := by show (cut c (s.take (i + 1))).2 = _; rw [hct]; unfold cst; rw [if_neg hxc, hds, h2.out]
        rw [← hc1] at ho
        clear hct hds hc1 hx hD hT hxc h2 hlen his
        go_wp2
        go_roundw
        case rel => exact ⟨i + 1, f, by omega, by omega, by go_num, rfl, ho, hc2, hB⟩
        case measure => simp [intOf]; omega
    · obtain rfl : i = N := by omega
      have htk : s.take i = s := by rw [HN.out, List.take_length]
      have hp : pcs c s = (cut c (s.take i)).1 ++ [(s.drop f).take (i - f)] := by rw [← h2.out, htk]; rfl
      have hdl : (s.drop f).take (i - f) = s.drop f := List.take_of_length_le (by rw [List.length_drop]; have := HN.out; omega)
      rw [hdl] at hp
      have HP := Lib.hid hp
      have hdr := HDR.out f
      obtain ⟨Y, hY⟩ : ∃ Y, Y = s.drop f := ⟨_, rfl⟩
      rw [← hY] at hdr HP
      obtain ⟨T, hT⟩ : ∃ T, T = (cut c (s.take i)).1 := ⟨_, rfl⟩
      rw [← hT] at ho hT9 HP
      have f1 : (f : Int) ≤ (i : Int) := by omega
      clear htk hp hdl hY hT h2 hlen
      go_wp2_with (at_builtin; refine push_str rfl (.tmp 29) (.tmp 33) rfl w.heap.size _ T Y rfl ho rfl (by omega) hz ?_)
      intro v' wf of gf
      rw [← HP.out] at of
      have hBf := hB.grown gf hB.size (fun k hk => (ho.lt k hk).1)
      clear gf ho hB
      go_wp2
      go_ret
      exact ⟨v', rfl, of, hBf⟩
end Go.Proofs.YtoaiaindcmihjaaGreatDoor
