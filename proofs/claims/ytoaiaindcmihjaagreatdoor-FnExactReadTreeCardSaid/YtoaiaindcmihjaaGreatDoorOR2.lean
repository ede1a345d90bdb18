/-
  impl.readNumbers.
-/
import Derived.Test.YtoaiaindcmihjaaGreatDoorOR1
namespace Go.Proofs.YtoaiaindcmihjaaGreatDoor
open Go.RowKit

theorem rds_take {fs : List (List UInt8)} {i : Nat} (h : i < fs.length) : fs.take (i + 1) = fs.take i ++ [fs.getD i []] := by
  rw [List.take_succ_eq_append_getElem h]; simp [List.getD, h]
theorem rds_all {fs : List (List UInt8)} {i : Nat} (h : rds (fs.take i) = none) : rds fs = none := by
  rw [← List.take_append_drop i fs]; exact rds_none h
theorem rds_in64 : ∀ {fs : List (List UInt8)} {N : List Int}, rds fs = some N → ∀ x ∈ N, In64 x := by
  intro fs
  induction fs with
  | nil => intro N h; rw [rds] at h; injection h with h; rw [← h]; simp
  | cons p fs ih =>
    intro N h
    rw [rds] at h
    split at h
    · rename_i v r h1 h2
      injection h with h
      subst h
      intro x hx
      rcases List.mem_cons.1 hx with rfl | hx
      · exact atoi_in64 (rnb_some h1).1
      · exact ih h2 x hx
    · cases h
set_option maxHeartbeats 8000000 in
set_option maxRecDepth 100000 in
theorem readNumbers_any (a : Option Addr) (fs : List (List UInt8)) (cap : Nat) (w : World) (hr : ReadsX w a fs) (hl : fs.length ≤ 1048600) (hs : ∀ p ∈ fs, p.length ≤ 100000000) (hG : GN w) :
    Calls Tryz.prog 62 #[.slice a fs.length cap] w fun e w' => ∃ v, e = .returned (.tuple #[v, .bool (rds fs).isSome]) ∧ Own w' w.heap.size v ((rds fs).getD []) ∧ Below w.heap.size w w' := by
  obtain ⟨M, hM⟩ : ∃ M, M = fs.length := ⟨_, rfl⟩
  have HM := Lib.hid hM
  have HS := Lib.hid hs
  obtain ⟨R, hR⟩ : ∃ R, R = rds fs := ⟨_, rfl⟩
  have HR := Lib.hid hR
  rw [← hM] at hl ⊢
  rw [← hR]
  have HG := Lib.hid hG
  have b0 := Below.refl w.heap.size w
  clear hM hs hR hG
  go_enter Tryz.func62, Tryz.ntmps62
  go_wp2
  go_loopw [4, 11] (fun sv iv wr => ∃ (i : Nat) (N : List Int), i ≤ M ∧ iv = .int .i64 (i : Int) ∧ Hid (rds (fs.take i) = some N) ∧ Own wr w.heap.size sv N ∧ Below w.heap.size w wr) (fun _ iv _ => M - (intOf iv).toNat)
  case atStart => exact ⟨0, [], by omega, rfl, rfl, Own.nil _ _, b0⟩
  case round =>
    clear b0
    rename World => wo
    obtain ⟨i, N, hi, rfl, hN, ho, hB⟩ := hrel
    have hNl : N.length ≤ i := by have := rds_len hN.out; rw [List.length_take] at this; omega
    by_cases hlt : i < M
    · have hi1 : (i : Int) < (M : Int) := by omega
      obtain ⟨b, off, rfl, hb, hc0⟩ := hr.get (k := i) (by have := HM.out; omega)
      have hcell := (hB.cell (p := ⟨b, off + i, none⟩) hb).trans hc0
      have htk := rds_take (fs := fs) (i := i) (by have := HM.out; omega)
      have hps := HS.out (fs.getD i []) (by
        have hlt' : i < fs.length := by have := HM.out; omega
        simp only [List.getD, List.getElem?_eq_getElem hlt', Option.getD_some]
        exact List.getElem_mem hlt')
      obtain ⟨p, hp⟩ : ∃ p, p = fs.getD i [] := ⟨_, rfl⟩
      rw [← hp] at hcell htk hps
      have hz1 := hB.size
      have hGo : GN wo := HG.out.below hB
      have ca := atoiAll_any p wo hps hGo
      have hpl := B8_list p
      obtain ⟨S, hS⟩ : ∃ S, S = B8 p := ⟨_, rfl⟩
      rw [← hS] at hcell ca hpl
      have CA := Lib.hid ca
      have HTK := Lib.hid htk
      have GO := Lib.hid hGo
      obtain ⟨sa, sc, rfl, _, _, _, _⟩ := ho.form
      clear hc0 hp hS ca htk hGo hps
      go_wp2_with fail
      refine CA.out.mono ?_
      rintro en w2 ⟨⟨v, er, rfl, hcase⟩, b2⟩
      have B2 := hB.trans (b2.mono hB.size)
      have G2 := GN.below GO.out b2
      have o2 := ho.below b2
      have hz2 := B2.size
      clear hB ho CA
      rcases hcase with ⟨hA, rfl⟩ | ⟨hA, t, q, rfl⟩
      · have hv := atoi_in64 hA
        have ci := itoaAll_any v w2 hv G2
        obtain ⟨T, hT⟩ : ∃ T, T = Go.Lib.itoa v := ⟨_, rfl⟩
        rw [← hT] at ci
        have hTl := B8_list T
        obtain ⟨ST, hST⟩ : ∃ ST, ST = B8 T := ⟨_, rfl⟩
        rw [← hST] at ci hTl
        have CI := Lib.hid ci
        have HT := Lib.hid hT
        have HA := Lib.hid hA
        clear ci hT hST hA
        by_cases hTp : T = p
        · have hrn : rnb p = some v := by
            unfold rnb; rw [HA.out]; simp only; rw [if_pos (by rw [← HT.out]; exact hTp)]
          have hnx : rds (fs.take (i + 1)) = some (N ++ [v]) := by rw [HTK.out, rds_snoc, hN.out, hrn]
          have HNX := Lib.hid hnx
          have hb : (T == p) = true := by rw [hTp]; simp
          have hb2 : (T != p) = false := by rw [hTp]; simp
          clear hTp hrn hnx
          go_wp2_with fail
          refine CI.out.mono ?_
          rintro en w3 ⟨rfl, b3⟩
          have B3 := B2.trans (b3.mono B2.size)
          have o3 := o2.below b3
          have hz3 := B3.size
          clear B2 o2 CI
          go_wp2_with (at_builtin; refine push_int rfl (.tmp 28) (.tmp 30) rfl w.heap.size _ N v rfl o3 rfl (by omega) hz3 ?_)
          intro v' wf of _ gf
          have hBf := B3.grown gf B3.size (fun k hk => (o3.lt k hk).1)
          clear gf o3 B3
          go_wp2
          go_roundw
          case rel => exact ⟨i + 1, N ++ [v], by omega, by go_num, HNX.out, of, hBf⟩
          case measure => simp [intOf]; omega
        · have hrn : rnb p = none := by
            unfold rnb; rw [HA.out]; simp only; rw [if_neg (by rw [← HT.out]; exact hTp)]
          have hnx : R = none := by rw [HR.out]; exact rds_all (i := i + 1) (by rw [HTK.out, rds_snoc, hN.out, hrn])
          subst hnx
          have hb : (T == p) = false := by simpa using hTp
          have hb2 : (T != p) = true := by simpa using hTp
          clear hTp hrn
          go_wp2_with fail
          refine CI.out.mono ?_
          rintro en w3 ⟨rfl, b3⟩
          have B3 := B2.trans (b3.mono B2.size)
          clear B2 o2 CI
          go_wp2
          go_ret2
          exact ⟨_, rfl, Own.nil _ _, B3⟩
      · have hrn : rnb p = none := by
          unfold rnb
          cases hx : Go.Lib.atoiAll p with
          | ok x => exact absurd hx (hA x)
          | _ => rfl
        have hnx : R = none := by rw [HR.out]; exact rds_all (i := i + 1) (by rw [HTK.out, rds_snoc, hN.out, hrn])
        subst hnx
        clear hrn hA
        go_wp2
        go_ret2
        exact ⟨_, rfl, Own.nil _ _, B2⟩
    · obtain rfl : i = M := by omega
      have hRN : R = some N := by rw [HR.out, ← hN.out, HM.out, List.take_length]
      subst hRN
      obtain ⟨sa, sc, rfl, _, _, _, _⟩ := ho.form
      go_wp2
      go_ret2
      exact ⟨_, rfl, ho, hB⟩
end Go.Proofs.YtoaiaindcmihjaaGreatDoor
