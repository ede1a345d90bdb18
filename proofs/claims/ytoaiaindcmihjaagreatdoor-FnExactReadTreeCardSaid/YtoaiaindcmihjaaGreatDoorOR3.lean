/-
  impl.namesIn, impl.ReadTree.
-/
import Derived.Test.YtoaiaindcmihjaaGreatDoorOR2
import Derived.Test.YtoaiaindcmihjaaGreatDoorOT2
import Derived.Test.YtoaiaindcmihjaaGreatDoorOSf
import Derived.Test.YtoaiaindcmihjaaGreatDoorOB
namespace Go.Proofs.YtoaiaindcmihjaaGreatDoor
open Go.RowKit

theorem isNoDigit_any (x : Nat) (w : World) (hx : x ≤ 1114111) : Calls Tryz.prog 64 #[.int .i32 (x : Int)] w fun e w' => e = .returned (.bool (isN x)) ∧ w = w' := by
  by_cases h : x < 48
  · have h1 : (x : Int) < 48 := by omega
    have hN : isN x = true := by unfold isN; rw [decide_eq_true h]; rfl
    rw [hN]
    go_enter Tryz.func64, Tryz.ntmps64
    go_wp2
    go_ret
    exact ⟨rfl, rfl⟩
  · have h1 : ¬ (x : Int) < 48 := by omega
    have hN : isN x = decide ((57 : Int) < x) := by unfold isN; rw [decide_eq_false h, Bool.false_or, decide_eq_decide]; omega
    rw [hN]
    go_enter Tryz.func64, Tryz.ntmps64
    go_wp2
    go_ret
    exact ⟨rfl, rfl⟩
theorem isNoDigit_grows (w : World) : PredGrows Tryz.prog 64 #[] isN w := fun W x hx _ =>
  (isNoDigit_any x W hx).mono (by rintro e w' ⟨rfl, rfl⟩; exact ⟨rfl, Below.refl _ _⟩)
/-- The fields of a text, as lists of bytes. -/
noncomputable def Fld (s : List UInt8) : List (List UInt8) := (Go.Lib.goFieldsP isN (B8 s)).map (·.data.toList)
theorem Fld_TXT {l : List Int} (hv : VNm l = true) : Fld (TXT l) = (lvs l 6 0 0).map (fun x => dec x.toNat) := by
  unfold Fld; rw [fields_TXT hv, List.map_map]
  exact List.map_id _
theorem Fld_nil : Fld [] = [] := by
  unfold Fld; rw [fields_ascii [] (fun c h => by cases h)]; rfl
theorem Fld_len (s : List UInt8) : ∀ p ∈ Fld s, p.length ≤ s.length := by
  intro p hp
  unfold Fld Go.Lib.goFieldsP at hp
  rw [List.map_map] at hp
  obtain ⟨x, _, rfl⟩ := List.mem_map.1 hp
  show ((B8 s).extract x.1 x.2).data.toList.length ≤ _
  rw [Go.Lib.extract_data]
  rw [List.length_take, List.length_drop]
  show _ ≤ s.toArray.toList.length
  simp; omega
theorem spans_count (s : ByteArray) : ∀ (f pos : Nat) (st : Option Nat) (acc : List (Nat × Nat)), (Go.Lib.closeSpans s (Go.Lib.spansFromP isN s f pos st acc)).length ≤ acc.length + f + 1 := by
  intro f
  induction f with
  | zero => intro pos st acc; cases st <;> simp [Go.Lib.spansFromP, Go.Lib.closeSpans]
  | succ f ih =>
    intro pos st acc
    simp only [Go.Lib.spansFromP]
    split
    · split
      · cases st with
        | none => exact Nat.le_trans (ih _ _ _) (by omega)
        | some a => exact Nat.le_trans (ih _ _ _) (by simp; omega)
      · cases st with
        | none => exact Nat.le_trans (ih _ _ _) (by omega)
        | some a => exact Nat.le_trans (ih _ _ _) (by omega)
    · cases st <;> simp [Go.Lib.closeSpans] <;> omega
theorem Fld_count (s : List UInt8) : (Fld s).length ≤ s.length + 1 := by
  unfold Fld Go.Lib.goFieldsP Go.Lib.spansOfP
  rw [List.length_map, List.length_map]
  have := spans_count (B8 s) (B8 s).size 0 none []
  have hs : (B8 s).size = s.length := rfl
  simp only [List.length_nil, Nat.zero_add] at this
  omega
theorem fields_any (s : List UInt8) (w : World) (hs : s.length ≤ 400) : Calls Tryz.prog 63 #[.string (B8 s), .func (.func 64) #[] #[]] w fun e w' => (∃ a, e = .returned (.slice a (Fld s).length (Fld s).length) ∧ ReadsX w' a (Fld s)) ∧ Below w.heap.size w w' := by
  have hl : (Fld s).length = (Go.Lib.goFieldsP isN (B8 s)).length := by unfold Fld; rw [List.length_map]
  have c := Any.strings_FieldsFunc_grows Tryz.fieldsA 64 #[] (enters_of Tryz.func64 (by kernel_rfl) rfl) isN (B8 s) w (by show s.length ≤ _; omega) (isNoDigit_grows w) (by kernel_rfl) (by kernel_rfl)
  refine c.mono ?_
  rintro e w' ⟨A, rfl, hA, hrow, hb⟩
  rw [← hl] at hrow ⊢
  refine ⟨⟨_, rfl, ?_⟩, hb⟩
  by_cases h0 : Fld s = []
  · exact .inl h0
  · refine .inr ⟨A, 0, rfl, (World.ownsRow.lt hrow A rfl).2, fun i hi => ?_⟩
    rw [Nat.zero_add, World.ownsRow.cellAt hrow i (by omega)]
    have hi2 : i < (Go.Lib.goFieldsP isN (B8 s)).length := by rw [← hl]; exact hi
    rw [List.getElem?_map, List.getElem?_eq_getElem hi2]
    simp only [Option.map_some]
    congr 2
    simp [Fld, List.getD, hi2]
end Go.Proofs.YtoaiaindcmihjaaGreatDoor
