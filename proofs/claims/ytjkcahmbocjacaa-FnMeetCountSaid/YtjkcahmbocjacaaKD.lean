/-
  impl.ordersOf.
-/
import Derived.Test.YtjkcahmbocjacaaKA
import Derived.Test.YtjkcahmbocjacaaKB
import Derived.Test.YtjkcahmbocjacaaKC
import Derived.Test.YtjkcahmbocjacaaRw
namespace Go.Proofs.Ytjkcahmbocjacaa
open Go.RowKit Go.Maps

theorem grownBy_belowK {a b c : World} {row : Option Nat} (h : a.grownBy b row) (k : Below b.heap.size b c) : a.grownBy c row :=
  ⟨k.os.trans h.os, k.tape.trans h.tape, k.output.trans h.output, Nat.le_trans h.size k.size, fun i hi hne => (k.block i (Nat.lt_of_lt_of_le hi h.size)).trans (h.block i hi hne)⟩

/-- A tally of each of a list once. -/
def ofl (L : List Int) : Int → Nat := fun x => if x ∈ L then 1 else 0
theorem ofl_erase {L : List Int} (hn : L.Nodup) (x y : Int) : ofl (L.erase x) y = upd (ofl L) x 0 y := by
  unfold ofl upd
  by_cases e : y = x
  · rw [if_pos e, if_neg (by rw [e, hn.mem_erase_iff]; exact fun h => h.1 rfl)]
  · rw [if_neg e]
    show (if y ∈ L.erase x then 1 else 0) = if y ∈ L then 1 else 0
    by_cases h : y ∈ L
    · rw [if_pos h, if_pos (hn.mem_erase_iff.2 ⟨e, h⟩)]
    · rw [if_neg h, if_neg (fun h2 => h (hn.mem_erase_iff.1 h2).2)]
theorem ofl_back {L : List Int} (hn : L.Nodup) {x : Int} (hx : x ∈ L) (y : Int) : ofl L y = upd (ofl (L.erase x)) x (ofl (L.erase x) x + 1) y := by
  unfold upd
  by_cases e : y = x
  · rw [if_pos e, e, ofl_erase hn]; unfold upd; rw [if_pos rfl]; unfold ofl; rw [if_pos hx]
  · rw [if_neg e, ofl_erase hn]; unfold upd; rw [if_neg e]
/-- The orders that begin with one of the first k. -/
def orp (f : Nat) (L : List Int) (k : Nat) : List (List Int) := (L.take k).flatMap fun x => (ors f (L.erase x)).map (x :: ·)
theorem orp_succ {f : Nat} {L : List Int} {k : Nat} (h : k < L.length) : orp f L (k + 1) = orp f L k ++ (ors f (L.erase (L.getD k 0))).map (L.getD k 0 :: ·) := by
  unfold orp
  rw [take_snocD h, List.flatMap_append]
  simp
theorem orp_full (f : Nat) (L : List Int) : orp f L L.length = ors (f + 1) L := by
  unfold orp
  rw [List.take_length, ors_succ]
theorem orp_len {f : Nat} {L : List Int} (hL : L.length = f + 1) (hf : f ≤ 5) : ∀ k, k ≤ L.length → (orp f L k).length ≤ k * 3125 := by
  intro k
  induction k with
  | zero => intro _; simp [orp]
  | succ k ih =>
    intro hk
    have h1 := ih (by omega)
    have hm : L.getD k 0 ∈ L := by simp [List.getD, List.getElem?_eq_getElem (show k < L.length by omega)]
    have h2 := ors_len f (L.erase (L.getD k 0)) (by rw [List.length_erase_of_mem hm]; omega)
    have h3 := pow5_le (n := f) (f := f) hf hf
    rw [orp_succ (by omega), List.length_append, List.length_map]
    have h4 : (k + 1) * 3125 = k * 3125 + 3125 := Nat.succ_mul _ _
    omega
theorem ordersNone (b : Nat) (w : World) (hT : Tal w b (ofl []) 0) : Calls Try.prog 93 #[.map (some b)] w fun e w' => ∃ v, e = .returned v ∧ OwnR w' w.heap.size v (ors 0 []) ∧ Tal w' b (ofl []) 0 ∧ w.grownBy w' (some b) := by
  have hlt := hT.lt
  have hT2 := hT
  obtain ⟨D, h0, h1, _, _⟩ := hT
  have ho : OwnR (w.alloc (.cells #[.slice none 0 0] 36)) w.heap.size (.slice (some ⟨w.heap.size, 0, none⟩) 1 1) [[]] := by
    refine ⟨[.slice none 0 0], ?_, fun r hr => ?_⟩
    · exact World.ownsRow_lit w #[.slice none 0 0] 1 (Nat.le_refl _) (by unfold maxLen; omega) rfl
    · obtain rfl : r = 0 := by simpa using hr
      exact ⟨_, rfl, Own.nil _ _⟩
  have hg := World.grownBy_alloc w (.cells #[.slice none 0 0] 36) (some b)
  have hT3 : Tal (w.alloc (.cells #[.slice none 0 0] 36)) b (ofl []) 0 := hT2.kept (World.grownBy_alloc w _ none) (by simp)
  clear hT2
  go_enter Try.func93, Try.ntmps93
  go_wp2_with (first
    | (at_len; refine wpList_len_own _ rfl _ 74 rfl 3 3 Try.underlying74 _ _ _ D rfl h0 ?_; rw [h1])
    | go_in)
  go_ret
  exact ⟨_, rfl, ho, hT3, hg⟩
theorem OwnR.keptPush {w w' : World} {base base2 : Nat} {v v2 : Value} {ts ts2 : List (List Int)} (h : OwnR w base v ts) (ho : OwnR w base2 v2 ts2) (hg : w.grownBy w' v2.ownBlock) (hne : v.ownBlock = none ∨ v.ownBlock ≠ v2.ownBlock) : OwnR w' base v ts := by
  obtain ⟨vs, h1, h2⟩ := h
  refine ⟨vs, World.ownsRow.kept h1 hg hne, fun r hr => ?_⟩
  obtain ⟨u, h3, h4⟩ := h2 r hr
  exact ⟨u, h3, h4.kept hg (ho.ne_own h4)⟩
set_option maxRecDepth 100000 in
set_option maxHeartbeats 8000000 in
theorem ordersOf_any : ∀ (f : Nat) (L : List Int) (b : Nat) (w : World), L.length = f → f ≤ 5 → L.Pairwise (· ≤ ·) → L.Nodup → (∀ x ∈ L, 0 ≤ x ∧ x ≤ 4) → Tal w b (ofl L) f →
    Calls Try.prog 93 #[.map (some b)] w fun e w' => ∃ v, e = .returned v ∧ OwnR w' w.heap.size v (ors f L) ∧ Tal w' b (ofl L) f ∧ w.grownBy w' (some b) := by
  intro f
  induction f with
  | zero =>
    intro L b w hL _ _ _ _ hT
    obtain rfl := List.eq_nil_of_length_eq_zero hL
    exact ordersNone b w hT
  | succ f ih =>
    intro L b w hL hf hs hn hb4 hT
    have hbl := hT.lt
    have cS := sortedTal_any b (f + 1) (ofl L) w hT (by omega) L hs hn (fun x => by unfold ofl; by_cases h : x ∈ L <;> simp [h])
    have hT2 := hT
    obtain ⟨D, h0, h1, _, _⟩ := hT
    rw [← orp_full]
    have CS := Lib.hid cS
    have IH := Lib.hid ih
    have HB4 := Lib.hid hb4
    have HS := Lib.hid hs
    have HN := Lib.hid hn
    have hf0 : (((f + 1 : Nat) : Int) == 0) = false := by rw [beq_eq_false_iff_ne]; omega
    clear cS ih hb4 hs hn
    go_enter Try.func93, Try.ntmps93
    go_wp2_with (at_len; refine wpList_len_own _ rfl _ 74 rfl 3 3 Try.underlying74 _ _ _ D rfl h0 ?_; rw [h1])
    refine (Try.keys_any (some b) w).mono ?_
    rintro e w1 ⟨rfl, rfl⟩
    go_wp2_with fail
    refine CS.out.mono ?_
    rintro e w2 ⟨vL, rfl, hoL, bL⟩
    have gL : w.grownBy w2 (some b) := grownBy_belowK (World.grownBy_alloc w _ (some b)) (by rw [World.size_alloc]; exact bL)
    have hTL : Tal w2 b (ofl L) (f + 1) := hT2.kept ⟨gL.os, gL.tape, gL.output, gL.size, fun i hi hne => (bL.block i (by omega)).trans (Below.heap_alloc _ _ i hi)⟩ (row := none) (by simp)
    obtain ⟨aL, cL, rfl, _, _, _, _⟩ := hoL.form
    clear CS bL hT2 h0 h1
    go_wp2_with fail
    go_loopw [3, 16] (fun ov iv wr => ∃ k, k ≤ L.length ∧ iv = .int .i64 ((k : Nat) : Int) ∧ OwnR wr w.heap.size ov (orp f L k) ∧ Own wr (w.heap.size + 1) (.slice aL L.length cL) L ∧ Tal wr b (ofl L) (f + 1) ∧ w.grownBy wr (some b)) (fun _ iv _ => L.length - (intOf iv).toNat)
    case atStart => exact ⟨0, by omega, rfl, OwnR.nil _ _, hoL, hTL, gL⟩
    case round =>
      clear hoL hTL gL
      rename World => wo
      obtain ⟨k, hk, rfl, ho, hl, hT, hg⟩ := hrel
      by_cases hlt : k < L.length
      · have hk1 : (k : Int) < (L.length : Int) := by omega
        have hor := orp_succ (f := f) hlt
        have hym : L.getD k 0 ∈ L := by simp [List.getD, List.getElem?_eq_getElem hlt]
        obtain ⟨b', off, y, rfl, hbb, hcell, hy⟩ := hl.reads.get hlt
        rw [hy.out] at hor hym
        have hy4 := HB4.out y hym
        have hle : (L.erase y).length = f := by rw [List.length_erase_of_mem hym]; omega
        have CT := Lib.hid (take_some b (ofl L) (f + 1) y wo hT (by unfold In64; omega) (by unfold ofl; rw [if_pos hym]) (by omega))
        have hrec := fun wx (h : Tal wx b (ofl (L.erase y)) f) => IH.out (L.erase y) b wx hle (by omega) (HS.out.sublist List.erase_sublist) (HN.out.erase y) (fun x hx => HB4.out x (List.mem_of_mem_erase hx)) h
        have hbo := hg.size
        have hom := ors_mem f (L.erase y) hle (HN.out.erase y)
        obtain ⟨os, hos⟩ : ∃ os, os = ors f (L.erase y) := ⟨_, rfl⟩
        rw [← hos] at hrec hor hom
        have HOS := Lib.hid hos
        have HOR := Lib.hid hor
        have HR := Lib.hid hrec
        have HE := Lib.hid (ofl_erase HN.out y)
        have HBK := Lib.hid (ofl_back HN.out hym)
        have HOM := Lib.hid hom
        have hosl : os.length ≤ 3125 := by rw [hos]; exact Nat.le_trans (ors_len f _ hle) (pow5_le (by omega) (by omega))
        clear hT hy hor hrec hos hom hym
        go_wp2_with fail
        refine CT.out.mono ?_
        rintro e w3 ⟨rfl, hT3, g3⟩
        have hT3' : Tal w3 b (ofl (L.erase y)) f := by
          have := hT3.congr (fun x => HE.out x)
          rwa [Nat.add_sub_cancel] at this
        have ho3 := ho.kept g3 (fun j hj => by cases hj; exact hbl)
        have hl3 := hl.kept g3 (hl.ne_g (by omega))
        have hg3 := grownBy_trans hg g3
        clear hT3 g3 ho hl hg CT hcell hbb
        go_wp2_with fail
        refine (HR.out w3 hT3').mono ?_
        rintro e w4 ⟨vo, rfl, hoo, hT4, g4⟩
        have ho4 := ho3.kept g4 (fun j hj => by cases hj; exact hbl)
        have hl4 := hl3.kept g4 (hl3.ne_g (by omega))
        have hg4 := grownBy_trans hg3 g4
        have hvlt := ho3.lt
        have hz3 := hg3.size
        have hz4 := g4.size
        obtain ⟨ao, co, rfl, _, _, _⟩ := hoo.form
        have holt := hoo.lt
        clear hT3' g4 ho3 hl3 hg3
        go_wp2_with fail
        obtain ⟨OB, hOB⟩ : ∃ OB, OB = u3.ownBlock := ⟨_, rfl⟩
        rw [← hOB] at hvlt
        go_loopw [3, 26] (fun ov iv wr => ∃ j, j ≤ os.length ∧ iv = .int .i64 ((j : Nat) : Int) ∧ OwnR wr w.heap.size ov (orp f L k ++ (os.take j).map (y :: ·)) ∧ (ov.ownBlock = OB ∨ ∀ q, ov.ownBlock = some q → w4.heap.size ≤ q) ∧ OwnR wr w3.heap.size (.slice ao os.length co) os ∧ Own wr (w.heap.size + 1) (.slice (some ⟨b', off, none⟩) L.length cL) L ∧ Tal wr b (ofl (L.erase y)) f ∧ w.grownBy wr (some b) ∧ w4.heap.size ≤ wr.heap.size) (fun _ iv _ => os.length - (intOf iv).toNat)
        case atStart => exact ⟨0, by omega, rfl, by simpa using ho4, .inl hOB.symm, hoo, hl4, hT4, hg4, Nat.le_refl _⟩
        case round =>
          clear ho4 hoo hl4 hT4 hg4 hOB
          rename World => wi
          obtain ⟨j, hj, rfl, ho, hwh, hoo, hl, hT, hg, hz⟩ := hrel
          by_cases hjt : j < os.length
          · have hj1 : (j : Int) < (os.length : Int) := by omega
            obtain ⟨aq, cq, eq1, _, _, hrs⟩ := hoo.form
            cases eq1
            obtain ⟨bo, oo, A, C, rfl, hbo2, hco, hrow, hle2⟩ := hrs.get hjt
            have hrl := (HOM.out (tr os j) (by rw [tr_eq hjt]; exact List.getElem_mem _)).1
            have hos2 : (os.take (j + 1)).map (y :: ·) = (os.take j).map (y :: ·) ++ [y :: tr os j] := by
              rw [List.take_succ_eq_append_getElem hjt, List.map_append, ← tr_eq hjt]; rfl
            have HOS2 := Lib.hid hos2
            obtain ⟨t, ht⟩ : ∃ t, t = tr os j := ⟨_, rfl⟩
            rw [← ht] at hrow hrl hco hle2 HOS2
            have htl : t.length ≤ 1000 := by omega
            clear hrl
            have hlens : (orp f L k ++ (os.take j).map (y :: ·)).length < 1000000000 := by
              have h1 := orp_len hL (by omega) k hk
              have h2 : k * 3125 ≤ 6 * 3125 := Nat.mul_le_mul_right _ (by omega)
              rw [List.length_append, List.length_map, List.length_take]
              omega
            obtain ⟨acc, hacc⟩ : ∃ acc, acc = orp f L k ++ (os.take j).map (y :: ·) := ⟨_, rfl⟩
            have HACC := Lib.hid hacc
            rw [← hacc] at ho hlens
            clear hos2 ht hacc
            have bA := ((Below.refl wi.heap.size wi).alloc (Nat.le_refl _) (.cells #[.int .i64 y] 3)).alloc (by simp) (.cells #[.slice (some ⟨wi.heap.size, 0, none⟩) 1 1, .slice A t.length C] 36)
            have q0 : ((wi.alloc (.cells #[.int .i64 y] 3)).alloc (.cells #[.slice (some ⟨wi.heap.size, 0, none⟩) 1 1, .slice A t.length C] 36)).cell? ⟨wi.heap.size + 1, 0, none⟩ = some (.slice (some ⟨wi.heap.size, 0, none⟩) 1 1) := by
              have e : wi.heap.size + 1 = (wi.alloc (.cells #[.int .i64 y] 3)).heap.size := (World.size_alloc _ _).symm
              rw [e]; simp
            have q1 : ((wi.alloc (.cells #[.int .i64 y] 3)).alloc (.cells #[.slice (some ⟨wi.heap.size, 0, none⟩) 1 1, .slice A t.length C] 36)).cell? ⟨wi.heap.size + 1, 1, none⟩ = some (.slice A t.length C) := by
              have e : wi.heap.size + 1 = (wi.alloc (.cells #[.int .i64 y] 3)).heap.size := (World.size_alloc _ _).symm
              rw [e]; simp
            have q2 : ((wi.alloc (.cells #[.int .i64 y] 3)).alloc (.cells #[.slice (some ⟨wi.heap.size, 0, none⟩) 1 1, .slice A t.length C] 36)).cell? ⟨wi.heap.size, 0, none⟩ = some (.int .i64 y) := by
              rw [World.cell?_alloc_lt _ _ _ (by simp)]; simp
            have hsA : wi.heap.size + 2 = ((wi.alloc (.cells #[.int .i64 y] 3)).alloc (.cells #[.slice (some ⟨wi.heap.size, 0, none⟩) 1 1, .slice A t.length C] 36)).heap.size := by rw [World.size_alloc, World.size_alloc]
            obtain ⟨wA, hwA⟩ : ∃ wA, wA = (wi.alloc (.cells #[.int .i64 y] 3)).alloc (.cells #[.slice (some ⟨wi.heap.size, 0, none⟩) 1 1, .slice A t.length C] 36) := ⟨_, rfl⟩
            rw [← hwA] at bA q0 q1 q2 hsA
            have hry : Reads wA (some ⟨wi.heap.size, 0, none⟩) [y] := .inr ⟨_, 0, rfl, by omega, fun i hi => by
              simp at hi; subst hi; exact q2⟩
            have HWA := Lib.hid hwA
            have CC := Lib.hid (concat2_any (wi.heap.size + 1) (some ⟨wi.heap.size, 0, none⟩) [y] 1 A t C wA hry (hrow.below bA) (by simp) (by simp) htl q0 q1)
            clear hwA q0 q1 q2 hry hrow
            go_wp2_with fail
            rw [← HWA.out]
            refine CC.out.mono ?_
            rintro e w5 ⟨v5, rfl, h5, b5⟩
            have b15 := bA.trans (b5.mono (by omega))
            have ho5 := ho.below b15
            have hoo5 := hoo.below b15
            have hl5 := hl.below b15
            have hT5 := hT.belowAll b15
            have hg5 := grownBy_belowK hg b15
            have h5' : Own w5 w.heap.size v5 (y :: t) := h5.mono (by have := hg.size; omega)
            obtain ⟨a5, c5, rfl, _, _, _, _⟩ := h5.form
            have hz5 := b15.size
            clear CC b5 bA ho hoo hl hT hg b15 h5
            have hneo : (Value.slice (some ⟨bo, oo, none⟩) os.length co).ownBlock = none ∨ (Value.slice (some ⟨bo, oo, none⟩) os.length co).ownBlock ≠ u3.ownBlock := by
              cases hq : (Value.slice (some ⟨bo, oo, none⟩) os.length co).ownBlock with
              | none => exact .inl rfl
              | some q =>
                refine .inr fun e => ?_
                have h1 := holt q hq
                rcases hwh with h2 | h2
                · have := hvlt q (by rw [← h2, ← e]); omega
                · have := h2 q e.symm; omega
            go_wp2_with (at_builtin; refine push_rowR rfl (.tmp 30) (.tmp 36) rfl w.heap.size u3 acc (y :: t) rfl ho5 _ h5' w5.heap.size rfl rfl hlens (by have := hg5.size; omega) ?_)
            intro v6 w6 o6 g6 loc6
            have hoo6 := hoo5.keptPush ho5 g6 hneo
            have hl6 := hl5.kept g6 (ho5.ne_own hl5)
            have hT6 := hT5.kept g6 (fun e => by have := (ho5.lt b e.symm).1; omega)
            have hg6 := grownBy_ownR hg5 ho5 (Nat.le_refl _) g6
            have hz6 : w4.heap.size ≤ w6.heap.size := by have := g6.size; omega
            have hwh6 : v6.ownBlock = OB ∨ ∀ q, v6.ownBlock = some q → w4.heap.size ≤ q := by
              rcases loc6 with h | h
              · rw [h]; exact hwh
              · refine .inr fun q hq => ?_
                rw [h] at hq
                injection hq with hq
                omega
            have o7 : OwnR w6 w.heap.size v6 (orp f L k ++ (os.take (j + 1)).map (y :: ·)) := by
              rw [HOS2.out, ← List.append_assoc, ← HACC.out]; exact o6
            clear ho5 hoo5 hl5 hT5 hg5 o6 g6 loc6 hwh
            go_wp2
            go_roundw
            case rel => exact ⟨j + 1, by omega, by go_num, o7, hwh6, hoo6, hl6, hT6, hg6, hz6⟩
            case measure => simp [intOf]; omega
          · obtain rfl : j = os.length := by omega
            have ho' : OwnR wi w.heap.size u3 (orp f L (k + 1)) := by
              rw [HOR.out]; rwa [List.take_length] at ho
            have CA := Lib.hid (add_any b (ofl (L.erase y)) f y wi hT (by unfold In64; omega) (by unfold ofl; split <;> omega) (by omega))
            have hofl0 : ofl (L.erase y) y = 0 := by unfold ofl; rw [if_neg (fun h => (HN.out.mem_erase_iff.1 h).1 rfl)]
            clear ho hoo hT
            go_wp2_with fail
            refine CA.out.mono ?_
            rintro e w8 ⟨⟨v8, rfl⟩, hT8, g8⟩
            rw [hofl0, if_neg (by omega)] at hT8
            have hT9 : Tal w8 b (ofl L) (f + 1) := hT8.congr (fun x => by have := HBK.out x; rw [hofl0] at this; exact this)
            have ho9 := ho'.kept g8 (fun j hj => by cases hj; exact hbl)
            have hl9 := hl.kept g8 (hl.ne_g (by omega))
            have hg9 := grownBy_trans hg g8
            clear hT8 g8 ho' hl hg CA
            go_wp2
            go_roundw
            case rel => exact ⟨k + 1, by omega, by go_num, ho9, hl9, hT9, hg9⟩
            case measure => simp [intOf]; omega
      · obtain rfl : k = L.length := by omega
        go_wp2
        go_ret
        exact ⟨_, rfl, ho, hT, hg⟩
end Go.Proofs.Ytjkcahmbocjacaa
