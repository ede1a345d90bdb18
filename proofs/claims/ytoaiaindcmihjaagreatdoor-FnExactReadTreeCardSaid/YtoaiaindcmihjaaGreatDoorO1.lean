/-
  Texts cut into the runs of digits: what strings.FieldsFunc gives of a text, and of the text of a tree.
-/
import Derived.Test.YtoaiaindcmihjaaGreatDoorNT
import Derived.Test.YtoaiaindcmihjaaGreatDoorN5
import Derived.Lib.FieldsP
namespace Go.Proofs.YtoaiaindcmihjaaGreatDoor

/-- No digit. -/
def isN (r : Nat) : Bool := decide (r < 48) || decide (57 < r)
theorem isN_isD (x : UInt8) : isN x.toNat = !isD x := by
  unfold isN isD
  by_cases h : 48 ≤ x.toNat ∧ x.toNat ≤ 57
  · rw [decide_eq_true h, decide_eq_false (by omega), decide_eq_false (by omega)]; rfl
  · rw [decide_eq_false h]
    by_cases h1 : x.toNat < 48
    · rw [decide_eq_true h1]; rfl
    · rw [decide_eq_false h1, decide_eq_true (by omega)]; rfl
/-- The runs of digits; the first one may have begun. -/
def frun : List UInt8 → Option (List UInt8) → List (List UInt8)
  | [], st => st.toList
  | x :: t, st => if isD x = true then frun t (some (st.getD [] ++ [x])) else st.toList ++ frun t none
theorem frun_nod {s : List UInt8} (h : nod s) (p : List UInt8) : frun s (some p) = p :: frun s none := by
  cases s with
  | nil => rfl
  | cons c t => rw [frun, frun, h c t rfl]; simp
theorem frun_app : ∀ (p s : List UInt8) (q : List UInt8), (∀ c ∈ p, isD c = true) → frun (p ++ s) (some q) = frun s (some (q ++ p)) := by
  intro p
  induction p with
  | nil => intro s q _; simp
  | cons c p ih =>
    intro s q h
    rw [List.cons_append, frun, if_pos (h c (by simp)), ih _ _ (fun x hx => h x (List.mem_cons_of_mem _ hx))]
    simp
theorem dec_isD : ∀ (n : Nat), ∀ c ∈ dec n, isD c = true := by
  intro n
  induction n using Nat.strongRecOn with
  | ind n ih =>
    intro c hc
    by_cases h : n < 10
    · rw [dec_lt h, List.mem_singleton] at hc
      rw [hc]; exact isD_dgt h
    · rw [dec_ge h, List.mem_append, List.mem_singleton] at hc
      rcases hc with hc | hc
      · exact ih (n / 10) (by omega) c hc
      · rw [hc]; exact isD_dgt (by omega)
theorem frun_dec (n : Nat) {s : List UInt8} (h : nod s) : frun (dec n ++ s) none = dec n :: frun s none := by
  obtain ⟨m, t, h1, h2⟩ := dec_head n
  have hd := dec_isD n
  rw [h2] at hd ⊢
  rw [List.cons_append, frun, if_pos (hd _ (by simp)), frun_app t s _ (fun c hc => hd c (by simp [hc])), frun_nod h]
  simp
theorem frun_sep {c : UInt8} (h : isD c = false) (s : List UInt8) : frun (c :: s) none = frun s none := by
  rw [frun, h]; simp
/-- The runs of digits of the text of a tree are its names. -/
theorem frun_ttr {l : List Int} (hn : l.Nodup) (hr : ∀ x ∈ l, 0 ≤ x ∧ x ≤ 63) : ∀ f d e s, f + d = 6 → e < 2 ^ d → nod s → frun (ttr l f d e ++ s) none = (lvs l f d e).map (fun x => dec x.toNat) ++ frun s none := by
  have one : ∀ f d e s, (tfl l d e).length ≤ 1 → nod s → frun (ttr l f d e ++ s) none = (tfl l d e).map (fun x => dec x.toNat) ++ frun s none := by
    intro f d e s h hs
    rcases tfl_cases l d e with h0 | ⟨x, h1⟩ | h2
    · rw [ttr_none h0, h0, List.singleton_append, frun_sep (by decide)]; rfl
    · rw [ttr_one h1, h1, frun_dec _ hs]; rfl
    · omega
  intro f
  induction f with
  | zero =>
    intro d e s hf he hs
    obtain rfl : d = 6 := by omega
    exact one 0 6 e s (tfl_six hn hr e) hs
  | succ f ih =>
    intro d e s hf he hs
    have hp : 2 ^ (d + 1) = 2 * 2 ^ d := by rw [Nat.pow_succ]; omega
    by_cases h : (tfl l d e).length ≤ 1
    · rw [lvs, if_pos h]; exact one (f + 1) d e s h hs
    · rw [lvs, if_neg h, ttr_more (by omega)]
      have e1 : [40] ++ ttr l f (d + 1) e ++ [32] ++ ttr l f (d + 1) (e + 2 ^ d) ++ [41] ++ s = 40 :: (ttr l f (d + 1) e ++ 32 :: (ttr l f (d + 1) (e + 2 ^ d) ++ 41 :: s)) := by simp
      rw [e1, frun_sep (by decide), ih (d + 1) e _ (by omega) (by omega) (nod_cons (by decide)), frun_sep (by decide), ih (d + 1) (e + 2 ^ d) _ (by omega) (by omega) (nod_cons (by decide)), frun_sep (by decide)]
      simp
theorem ttr_ascii (l : List Int) : ∀ f d e, ∀ c ∈ ttr l f d e, c.toNat < 128 := by
  have dg : ∀ n, ∀ c ∈ dec n, c.toNat < 128 := fun n c hc => by
    have := dec_isD n c hc
    unfold isD at this
    have := of_decide_eq_true this
    omega
  intro f
  induction f with
  | zero =>
    intro d e c hc
    rcases tfl_cases l d e with h0 | ⟨x, h1⟩ | h2
    · rw [ttr_none h0, List.mem_singleton] at hc; rw [hc]; decide
    · rw [ttr_one h1] at hc; exact dg _ c hc
    · cases hx : tfl l d e with
      | nil => rw [hx] at h2; simp at h2
      | cons x t =>
        rw [ttr, hx] at hc
        exact dg _ c hc
  | succ f ih =>
    intro d e c hc
    rcases tfl_cases l d e with h0 | ⟨x, h1⟩ | h2
    · rw [ttr_none h0, List.mem_singleton] at hc; rw [hc]; decide
    · rw [ttr_one h1] at hc; exact dg _ c hc
    · rw [ttr_more h2] at hc
      simp only [List.mem_append, List.mem_singleton] at hc
      rcases hc with (((hc | hc) | hc) | hc) | hc
      · rw [hc]; decide
      · exact ih _ _ c hc
      · rw [hc]; decide
      · exact ih _ _ c hc
      · rw [hc]; decide
/-- The fields, by the pass over the runes, of a text in ASCII. -/
theorem spans_ascii (s : List UInt8) (ha : ∀ c ∈ s, c.toNat < 128) : ∀ (f pos : Nat) (st : Option Nat) (acc : List (Nat × Nat)), s.length ≤ pos + f → pos ≤ s.length → (∀ a, st = some a → a ≤ pos) →
    (Go.Lib.closeSpans (B8 s) (Go.Lib.spansFromP isN (B8 s) f pos st acc)).map (fun p => (s.drop p.1).take (p.2 - p.1)) = acc.map (fun p => (s.drop p.1).take (p.2 - p.1)) ++ frun (s.drop pos) (st.map fun a => (s.drop a).take (pos - a)) := by
  have hsz : (B8 s).size = s.length := by show s.toArray.size = _; simp
  intro f
  induction f with
  | zero =>
    intro pos st acc h hp hst
    obtain rfl : pos = s.length := by omega
    rw [List.drop_length]
    cases st with
    | none => simp [Go.Lib.spansFromP, Go.Lib.closeSpans, frun]
    | some a => simp [Go.Lib.spansFromP, Go.Lib.closeSpans, frun, hsz]
  | succ f ih =>
    intro pos st acc h hp hst
    by_cases hlt : pos < s.length
    · have hx : s.drop pos = s[pos] :: s.drop (pos + 1) := (List.drop_eq_getElem_cons hlt)
      have hdc : Utf8.decode (B8 s) pos = (s[pos].toNat, 1) := by
        rw [← Go.Lib.decodeL_drop]
        show Go.Lib.decodeL (s.drop pos) = _
        rw [hx]
        rw [Go.Lib.decodeL_N]
        exact Go.Lib.decodeN_ascii _ _ _ _ _ (ha _ (List.getElem_mem hlt))
      simp only [Go.Lib.spansFromP]
      rw [if_pos (by rw [hsz]; exact hlt), hdc, isN_isD, hx, frun]
      have grow : ∀ a, a ≤ pos → (s.drop a).take (pos + 1 - a) = (s.drop a).take (pos - a) ++ [s[pos]] := fun a h => by
        rw [show pos + 1 - a = pos - a + 1 by omega, List.take_add_one]
        congr 1
        rw [List.getElem?_drop, show a + (pos - a) = pos by omega]
        simp [hlt]
      cases hd : isD s[pos] with
      | true =>
        simp only [Bool.not_true, Bool.false_eq_true, if_false, if_true]
        cases st with
        | none =>
          rw [ih (pos + 1) (some pos) acc (by omega) (by omega) (fun a h => by cases h; omega)]
          have := grow pos (Nat.le_refl _)
          simp only [Option.map_some, Option.map_none, Option.getD_none]
          rw [this]; simp
        | some a =>
          rw [ih (pos + 1) (some a) acc (by omega) (by omega) (fun b h => by cases h; have := hst a rfl; omega)]
          simp only [Option.map_some, Option.getD_some]
          rw [grow a (hst a rfl)]
      | false =>
        simp only [Bool.not_false, if_true, Bool.false_eq_true, if_false]
        cases st with
        | none =>
          rw [ih (pos + 1) none acc (by omega) (by omega) (fun a h => by cases h)]
          simp
        | some a =>
          rw [ih (pos + 1) none (acc ++ [(a, pos)]) (by omega) (by omega) (fun a h => by cases h)]
          simp
    · obtain rfl : pos = s.length := by omega
      rw [Go.Lib.spansFromP_end _ _ _ _ _ _ (by rw [hsz]; omega), List.drop_length]
      cases st with
      | none => simp [Go.Lib.closeSpans, frun]
      | some a => simp [Go.Lib.closeSpans, frun, hsz]
theorem fields_ascii (s : List UInt8) (ha : ∀ c ∈ s, c.toNat < 128) : Go.Lib.goFieldsP isN (B8 s) = (frun s none).map B8 := by
  have hsz : (B8 s).size = s.length := by show s.toArray.size = _; simp
  have h := spans_ascii s ha (B8 s).size 0 none [] (by rw [hsz]; omega) (by omega) (fun a h => by cases h)
  unfold Go.Lib.goFieldsP Go.Lib.spansOfP
  simp only [List.map_nil, List.nil_append, List.drop_zero, Option.map_none] at h
  rw [← h, List.map_map]
  refine List.map_congr_left fun p _ => ?_
  show (B8 s).extract p.1 p.2 = B8 ((s.drop p.1).take (p.2 - p.1))
  exact ByteArray.extract_mk s p.1 p.2
/-- The fields of the text of a tree. -/
theorem fields_TXT {l : List Int} (hv : VNm l = true) : Go.Lib.goFieldsP isN (B8 (TXT l)) = ((lvs l 6 0 0).map (fun x => dec x.toNat)).map B8 := by
  obtain ⟨h1, h2, h3⟩ := VNm_iff.1 hv
  have e : TXT l = ttr l 6 0 0 := by unfold TXT; rw [if_pos hv]
  rw [e, fields_ascii _ (ttr_ascii l 6 0 0)]
  have := frun_ttr h3 h2 6 0 0 [] rfl (by simp) nod_nil
  rw [List.append_nil] at this
  rw [this]
  simp [frun]
end Go.Proofs.YtoaiaindcmihjaaGreatDoor
