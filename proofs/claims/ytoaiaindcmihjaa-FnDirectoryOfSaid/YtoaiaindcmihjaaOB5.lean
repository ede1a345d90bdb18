/-
  impl.part.buckets.
-/
import Derived.Test.YtoaiaindcmihjaaOB3
import Derived.Test.YtoaiaindcmihjaaOB4
namespace Go.Proofs.Ytoaiaindcmihjaa
open Go.RowKit

/-- The buckets of a part: their row is the call's own from lo on; each one's names lie in a block from base on, which is the part's own (uo) or from lo on. -/
structure PBk (w : World) (base lo : Nat) (uo : Option Nat) (cs : List Bc) (bs : List Bk) : Prop where
  len : cs.length = bs.length
  each : ∀ r, r < bs.length → ∃ u, cs[r]? = some (((bkt bs r).1 : Int), ((bkt bs r).2.1 : Int), u) ∧ Own w base u (bkt bs r).2.2 ∧ ∀ k, u.ownBlock = some k → uo = some k ∨ lo ≤ k
  apart : ∀ (r r' : Nat) (c c' : Bc), cs[r]? = some c → cs[r']? = some c' → r ≠ r' → c.2.2.ownBlock = none ∨ c.2.2.ownBlock ≠ c'.2.2.ownBlock
section
variable {w w' : World} {base lo : Nat} {uo : Option Nat} {cs : List Bc} {bs : List Bk}
theorem PBk.below (hb : Below w.heap.size w w') (h : PBk w base lo uo cs bs) : PBk w' base lo uo cs bs :=
  ⟨h.len, fun r hr => by obtain ⟨u, h1, h2, h3⟩ := h.each r hr; exact ⟨u, h1, h2.below hb, h3⟩, h.apart⟩
theorem PBk.slb (h : PBk w base lo uo cs bs) : SlB cs := by
  intro c hc
  obtain ⟨r, hr, rfl⟩ := List.getElem_of_mem hc
  obtain ⟨u, h1, h2, _⟩ := h.each r (by rw [← h.len]; exact hr)
  obtain ⟨a, cap, e, _⟩ := h2.form
  rw [List.getElem?_eq_getElem hr] at h1
  injection h1 with h1
  rw [h1, e]; exact ⟨_, _, _, rfl⟩
theorem PBk.one {u : Value} {L : List Int} {d e : Nat} (h : Own w base u L) : PBk w base lo u.ownBlock [((d : Int), (e : Int), u)] [(d, e, L)] :=
  ⟨rfl, fun r hr => by
    obtain rfl : r = 0 := by simpa using hr
    exact ⟨u, rfl, h, fun k hk => .inl hk⟩, fun r r' c c' h1 h2 hne => by
    have i1 := (List.getElem?_eq_some_iff.1 h1).1
    have i2 := (List.getElem?_eq_some_iff.1 h2).1
    simp at i1 i2; omega⟩
theorem bkt_app_lt {bs bs2 : List Bk} {r : Nat} (h : r < bs.length) : bkt (bs ++ bs2) r = bkt bs r := by simp [bkt, List.getD, List.getElem?_append_left h]
theorem bkt_app_ge {bs bs2 : List Bk} {r : Nat} (h : bs.length ≤ r) : bkt (bs ++ bs2) r = bkt bs2 (r - bs.length) := by simp [bkt, List.getD, List.getElem?_append_right h]
/-- Two parts' buckets together: the first one's blocks lie in z's block or in [lo1, hi1), the second one's in o's block or from hi1 on. -/
theorem PBk.app {lo1 lo2 hi1 : Nat} {zo oo uo' : Option Nat} {cs2 : List Bc} {bs2 : List Bk} (h1 : PBk w base lo1 zo cs bs) (h2 : PBk w base lo2 oo cs2 bs2)
    (hhi : ∀ (r : Nat) (u : Value) (d e : Int), cs[r]? = some (d, e, u) → ∀ k, u.ownBlock = some k → zo = some k ∨ k < hi1) (hl2 : hi1 ≤ lo2) (hlo : lo ≤ lo1) (hz : ∀ k, zo = some k → lo ≤ k ∧ k < lo1) (ho : ∀ k, oo = some k → lo ≤ k ∧ k < lo1) (hzo : zo = none ∨ zo ≠ oo) (hl1 : lo1 ≤ hi1) : PBk w base lo uo' (cs ++ cs2) (bs ++ bs2) := by
  have e1 := h1.len
  refine ⟨by rw [List.length_append, List.length_append, h1.len, h2.len], fun r hr => ?_, fun r r' c c' g1 g2 hne => ?_⟩
  · by_cases g : r < bs.length
    · obtain ⟨u, i1, i2, i3⟩ := h1.each r g
      refine ⟨u, by rw [List.getElem?_append_left (by omega), bkt_app_lt g]; exact i1, by rw [bkt_app_lt g]; exact i2, fun k hk => .inr ?_⟩
      rcases i3 k hk with j | j
      · exact (hz k j).1
      · omega
    · have hr2 : r - bs.length < bs2.length := by rw [List.length_append] at hr; omega
      obtain ⟨u, i1, i2, i3⟩ := h2.each _ hr2
      refine ⟨u, by rw [List.getElem?_append_right (by omega), bkt_app_ge (by omega), e1]; exact i1, by rw [bkt_app_ge (by omega)]; exact i2, fun k hk => .inr ?_⟩
      rcases i3 k hk with j | j
      · exact (ho k j).1
      · omega
  · have loc : ∀ (r : Nat) (c : Bc), (cs ++ cs2)[r]? = some c → ∀ k, c.2.2.ownBlock = some k → (r < cs.length ∧ cs[r]? = some c ∧ (zo = some k ∨ (lo1 ≤ k ∧ k < hi1))) ∨ (cs.length ≤ r ∧ cs2[r - cs.length]? = some c ∧ (oo = some k ∨ hi1 ≤ k)) := by
      intro r c g k hk
      by_cases q : r < cs.length
      · rw [List.getElem?_append_left q] at g
        obtain ⟨u, i1, i2, i3⟩ := h1.each r (by omega)
        rw [g] at i1
        injection i1 with i1
        subst i1
        refine .inl ⟨q, g, ?_⟩
        rcases i3 k hk with j | j
        · exact .inl j
        · rcases hhi r _ _ _ g k hk with j2 | j2
          · exact .inl j2
          · exact .inr ⟨j, j2⟩
      · rw [List.getElem?_append_right (by omega)] at g
        have q2 := (List.getElem?_eq_some_iff.1 g).1
        obtain ⟨u, i1, i2, i3⟩ := h2.each (r - cs.length) (by rw [← h2.len]; exact q2)
        rw [g] at i1
        injection i1 with i1
        subst i1
        refine .inr ⟨by omega, g, ?_⟩
        rcases i3 k hk with j | j
        · exact .inl j
        · exact .inr (by omega)
    cases hk : c.2.2.ownBlock with
    | none => exact .inl rfl
    | some k =>
      refine .inr fun e => ?_
      have l1 := loc r c g1 k hk
      have l2 := loc r' c' g2 k e.symm
      rcases l1 with ⟨q1, a1, b1⟩ | ⟨q1, a1, b1⟩ <;> rcases l2 with ⟨q2, a2, b2⟩ | ⟨q2, a2, b2⟩
      · rcases h1.apart r r' c c' a1 a2 hne with j | j
        · rw [j] at hk; cases hk
        · exact j (by rw [hk, e])
      · rcases b1 with b1 | b1 <;> rcases b2 with b2 | b2
        · rcases hzo with j | j
          · rw [j] at b1; cases b1
          · exact j (by rw [b1, b2])
        · have := hz k b1; omega
        · have := ho k b2; omega
        · omega
      · rcases b1 with b1 | b1 <;> rcases b2 with b2 | b2
        · rcases hzo with j | j
          · rw [j] at b2; cases b2
          · exact j (by rw [b1, b2])
        · have := ho k b1; omega
        · have := hz k b2; omega
        · omega
      · rcases h2.apart (r - cs.length) (r' - cs.length) c c' a1 a2 (by omega) with j | j
        · rw [j] at hk; cases hk
        · exact j (by rw [hk, e])
end
end Go.Proofs.Ytoaiaindcmihjaa
