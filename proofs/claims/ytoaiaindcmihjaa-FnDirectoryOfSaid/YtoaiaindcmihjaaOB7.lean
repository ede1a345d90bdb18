/-
  impl.BucketsOf, as the laws and the exact law take it.
-/
import Derived.Test.YtoaiaindcmihjaaOB6
import Derived.Test.YtoaiaindcmihjaaNL
import Derived.Test.YtoaiaindcmihjaaBn
import Derived.Test.YtoaiaindcmihjaaD2
namespace Go.Proofs.Ytoaiaindcmihjaa
open Go.RowKit

theorem bks_none {l : List Int} {m : Int} (h : ¬ (VNm l = true ∧ 1 ≤ m ∧ m ≤ 4)) : BKs l m = [] := if_neg h
/-- Buckets as impl gives them: none, or buckets of its own, each one's names in a block of their own. -/
def BGv (w w' : World) (e : Ending) (bs : List Bk) : Prop := (bs = [] ∧ ∃ a c, e = .returned (.slice a ([] : List Bk).length c) ∧ (a = none ∧ c = 0)) ∨ ∃ g C cs, e = .returned (.slice (some ⟨g, 0, none⟩) bs.length C) ∧ OwnD w' w.heap.size w'.heap.size g C cs bs
theorem BGv.reads {w w' : World} {e : Ending} {bs : List Bk} (h : BGv w w' e bs) : ∃ a c, e = .returned (.slice a bs.length c) ∧ ReadsB w' a bs := by
  rcases h with ⟨rfl, a, c, rfl, _⟩ | ⟨g, C, cs, rfl, h⟩
  · exact ⟨a, c, rfl, .inl rfl⟩
  · exact ⟨_, C, rfl, h.reads⟩
theorem ReadsB.nil (w : World) (a : Option Addr) : ReadsB w a [] := .inl rfl
theorem PBk.ownD {w : World} {lo g C : Nat} {uo : Option Nat} {cs : List Bc} {bs : List Bk} (h : PBk w lo lo uo cs bs) (hr : RwB w lo (.slice (some ⟨g, 0, none⟩) bs.length C) cs) : OwnD w lo w.heap.size g C cs bs :=
  ⟨(hr.lt g rfl).1, (hr.lt g rfl).2, Nat.le_refl _, h.len, by have := hr; unfold RwB at this; rw [h.len] at this; exact this, fun r hr' => by
    obtain ⟨u, i1, i2, _⟩ := h.each r hr'
    exact ⟨u, i1, i2, fun k hk => (i2.lt k hk).2⟩, h.apart⟩
theorem PBk.lower {w : World} {base lo lo' : Nat} {uo : Option Nat} {cs : List Bc} {bs : List Bk} (h : PBk w base lo uo cs bs) (hl : lo' ≤ lo) (hb : lo' ≤ base) : PBk w lo' lo' uo cs bs :=
  ⟨h.len, fun r hr => by obtain ⟨u, i1, i2, i3⟩ := h.each r hr; exact ⟨u, i1, i2.mono hb, fun k hk => by rcases i3 k hk with j | j; exact .inl j; exact .inr (by omega)⟩, h.apart⟩
set_option maxHeartbeats 4000000 in
set_option maxRecDepth 100000 in
theorem implBucketsOf_d (a : Option Addr) (l : List Int) (cap : Nat) (m : Int) (w : World) (hr : Reads w a l) (_hi : ∀ n ∈ l, In64 n) (_hm : In64 m) (hl : l.length ≤ 1048586) (hcap : l.length ≤ cap) :
    Calls Try.prog 12 #[.slice a l.length cap, .int .i64 m] w fun e w' => BGv w w' e (BKs l m) ∧ Below w.heap.size w w' := by
  have cv := implvalidNames_any a l cap w hr hl
  have cw := fun wx (h : Below w.heap.size w wx) => wholeOf_any a l cap wx (hr.below h) hl
  by_cases hv : VNm l = true
  · rw [hv] at cv
    by_cases h1 : 1 ≤ m
    · by_cases h4 : m ≤ 4
      · have hR : BKs l m = spl l m.toNat 6 0 0 := if_pos ⟨hv, h1, h4⟩
        obtain ⟨q, rfl⟩ : ∃ q : Nat, m = q := ⟨m.toNat, by omega⟩
        rw [Int.toNat_natCast] at hR
        have cb := fun (u : Value) base wx ho hb => buckets_any l q (by omega) hv 6 0 0 rfl (by simp) u base wx ho hb
        rw [tfl_zero] at cb
        rw [hR]
        obtain ⟨S, hS⟩ : ∃ S, S = spl l q 6 0 0 := ⟨_, rfl⟩
        rw [← hS] at cb ⊢
        have g1 : ¬ (q : Int) < 1 := by omega
        have g2 : ¬ (q : Int) > 4 := by omega
        obtain ⟨M, hM⟩ : ∃ M, M = l.length := ⟨_, rfl⟩
        rw [← hM] at cv cw ⊢
        have CV := Lib.hid cv
        have CW := Lib.hid cw
        have CB := Lib.hid cb
        clear cv cw cb hR hS hv h1 h4 hM hr _hi hl hcap _hm
        go_enter Try.func12, Try.ntmps12
        go_wp2_with fail
        refine CV.out.mono ?_
        rintro en w1 ⟨rfl, b1⟩
        go_wp2_with fail
        refine (CW.out _ b1).mono ?_
        rintro en w2 ⟨v, rfl, o2, b2, hb2⟩
        have hz1 := b1.size
        have hz2 := b2.size
        have B2 := b1.trans (b2.mono b1.size)
        go_wp2_with fail
        refine (CB.out v (w1.heap.size + 1) _ o2 hb2).mono ?_
        rintro en w3 ⟨g, C, cs, rfl, rw3, pb3, b3⟩
        have B3 := B2.trans (b3.mono B2.size)
        have R3 := rw3.mono (base' := w.heap.size) (by omega)
        have P3 := pb3.lower (lo' := w.heap.size) (by omega) (by omega)
        have D3 := Lib.hid (P3.ownD R3)
        have BB := Lib.hid B3
        clear B3 R3 P3 rw3 pb3
        go_wp2
        go_ret
        exact ⟨.inr ⟨g, C, cs, rfl, D3.out⟩, BB.out⟩
      · rw [bks_none (fun h => h4 h.2.2)]
        have CV := Lib.hid cv
        have g2 : m > 4 := by omega
        clear cv cw
        go_enter Try.func12, Try.ntmps12
        go_wp2_with fail
        refine CV.out.mono ?_
        rintro en w1 ⟨rfl, b1⟩
        go_wp2
        go_ret
        exact ⟨.inl ⟨rfl, _, _, rfl, rfl, rfl⟩, b1⟩
    · rw [bks_none (fun h => h1 h.2.1)]
      have CV := Lib.hid cv
      have g2 : m < 1 := by omega
      clear cv cw
      go_enter Try.func12, Try.ntmps12
      go_wp2_with fail
      refine CV.out.mono ?_
      rintro en w1 ⟨rfl, b1⟩
      go_wp2
      go_ret
      exact ⟨.inl ⟨rfl, _, _, rfl, rfl, rfl⟩, b1⟩
  · rw [bks_none (fun h => hv h.1)]
    rw [Bool.not_eq_true] at hv
    rw [hv] at cv
    have CV := Lib.hid cv
    clear cv cw hv
    go_enter Try.func12, Try.ntmps12
    go_wp2_with fail
    refine CV.out.mono ?_
    rintro en w1 ⟨rfl, b1⟩
    go_wp2
    go_ret
    exact ⟨.inl ⟨rfl, _, _, rfl, rfl, rfl⟩, b1⟩
theorem buckets_give : BucketsGive := fun a l cap m w hr hi hm hl hcap =>
  (implBucketsOf_d a l cap m w hr hi hm hl hcap).mono (by
    rintro e w' ⟨h, b⟩
    rcases h with ⟨e0, a', c', rfl, rfl, rfl⟩ | ⟨g, C, cs, rfl, h⟩
    · exact ⟨_, rfl, by rw [e0]; exact OwnB.nil _ _, b⟩
    · exact ⟨_, rfl, h.own, b⟩)
theorem lawFnBucketsOf (a : Option Addr) (n cap : Nat) (w : World) (hB : Bytes w w.heap.size a n) (hn : n ≤ 9223372036854775807) (hc : n ≤ cap) :
    Calls Try.prog 3 #[.slice a n cap] w fun e w' => e = .returned (.bool true) ∧ Below w.heap.size w w' := lawFnBucketsOf_of buckets_give a n cap w hB hn hc
end Go.Proofs.Ytoaiaindcmihjaa
