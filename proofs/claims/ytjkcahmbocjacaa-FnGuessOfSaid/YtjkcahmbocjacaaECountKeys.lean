/-
  laws.FnExactCountKeys: the walk.
-/
import Derived.Test.YtjkcahmbocjacaaT3
import Derived.Test.YtjkcahmbocjacaaTm
namespace Go.Proofs.Ytjkcahmbocjacaa
open Go.RowKit

theorem crow_bulk (B W : Nat) (l : List Int) (hB : B ≤ 16) (hW : W ≤ 4) : bulk (crows B l W) ≤ 100 := by
  unfold bulk crows
  have : ∀ k, ((List.range k).map (fun i => crow B i l)).map List.length = List.replicate k B := fun k => by
    rw [List.map_map]
    apply List.ext_getElem
    · simp
    · intro i h1 h2; simp [crow_len]
  rw [this]
  simp
  have := Nat.mul_le_mul hW hB
  omega
theorem CKs_bulk (ways bits : Int) (l : List Int) : bulk (CKs ways bits l) ≤ 100 := by
  by_cases h : VCK ways bits l = true
  · have h' := VCK_iff.1 h
    have := crow_bulk bits.toNat ways.toNat l (by omega) (by omega)
    unfold CKs; rw [if_pos h]; exact this
  · rw [CKs_false h]; simp [bulk]
/-- What the model hands back reads as the rows. -/
theorem RowsT.reads {w w' : World} {e : Ending} {ts : List (List Int)} (h : RowsT w w' e ts) : ∃ a cap, e = .returned (.slice a ts.length cap) ∧ ReadsS w' a ts := by
  rcases h with ⟨rfl, rfl⟩ | ⟨_, v, rfl, ho⟩
  · exact ⟨none, 0, rfl, .inl rfl⟩
  · obtain ⟨a, cap, rfl, _, _, hr⟩ := ho.form
    exact ⟨a, cap, rfl, hr⟩
theorem RowsOf.reads {w w' : World} {e : Ending} {ts : List (List Int)} (h : RowsOf w w' e ts) : ∃ a cap, e = .returned (.slice a ts.length cap) ∧ ReadsS w' a ts := by
  rcases h with ⟨rfl, rfl⟩ | ⟨_, G, rfl, ho⟩
  · exact ⟨none, 0, rfl, .inl rfl⟩
  · exact ⟨_, _, rfl, ho.reads⟩
theorem OwnS.kept {w w' : World} {lo hi g : Nat} {G : Nat → Nat} {ts : List (List Int)} (h : OwnS w lo hi g G ts) {row : Option Nat} (hg : w.grownBy w' row) (hr : ∀ k, row = some k → k < lo ∨ hi ≤ k) : OwnS w' lo hi g G ts := by
  have h1 := h.low
  have h2 := h.hig
  have h3 := h.hsz
  refine ⟨h1, h2, Nat.le_trans h3 hg.size, h.rows, fun r hr' => ?_, fun r hr' => ?_⟩
  · exact (World.cell?_of_block (hg.block g (by omega) (fun e => by have := hr g e.symm; omega))).trans (h.top r hr')
  · have h4 := h.rows r hr'
    exact World.ownsRow.kept (h.each r hr') hg (.inr (fun e => by have := hr (G r) (by rw [← e]; rfl); omega))
set_option maxHeartbeats 4000000 in
set_option maxRecDepth 100000 in
theorem lawExactCountKeys (ways : Int) (bits : Int) (al : Option Addr) (l : List Int) (capl : Nat) (w : World) (_hw : In64 ways) (_hb : In64 bits) (rl : Reads w al l) (il : ∀ n ∈ l, In64 n) (_sl : l.length ≤ 9223372036854775807) :
    Calls Try.prog 17 #[.int .i64 ways, .int .i64 bits, .slice al l.length capl] w fun e w' => e = .returned (.bool true) ∧ Below w.heap.size w w' := by
  by_cases bigl : 1048576 < l.length
  · go_enter Try.func17, Try.ntmps17
    go_wp2
    go_ret
    exact ⟨rfl, Below.refl _ _⟩
  have ll : l.length ≤ 1048586 := by omega
  obtain ⟨ts, hts⟩ : ∃ ts, ts = CKs ways bits l := ⟨_, rfl⟩
  have bk : bulk ts ≤ 1048586 := by rw [hts]; have := CKs_bulk ways bits l; omega
  have bkk := bulkK_le (Nat.le_refl ts.length)
  have CS := Lib.hid (fun a c wx (h : Reads wx a l) => specCountKeys_any ways bits a l c wx h ll)
  have CI := Lib.hid (fun a c wx (h : Reads wx a l) => implCountKeys_any ways bits a l c wx h ll)
  rw [← hts] at CS
  rw [← hts] at CI
  have el := eqL_self l
  have Bw := Below.refl w.heap.size w
  obtain ⟨K, hK⟩ : ∃ K, K = bulkK ts ts.length := ⟨_, rfl⟩
  have cM := fun g G lo hi wx (h : OwnS wx lo hi g G ts) => markIntSS2 g G ts lo hi wx h bk
  have cH := fun a cap wx (h : ReadsS wx a (mkst ts)) => heldIntSS_any a ts cap wx h bk
  rw [← hK] at cM
  rw [← hK] at cH bkk
  have CM := Lib.hid cM
  have CH := Lib.hid cH
  have eK : ((1 + (K : Int)) != (1 + (K : Int))) = false := by simp
  have gK : ¬ 1 + (K : Int) < 0 := by omega
  clear hts hK cM cH il
  go_enter Try.func17, Try.ntmps17
  go_wp2_with fail
  refine (toIntS_any _ _ _ _ rl ll).mono ?_
  rintro e w1 ⟨rfl, O1, b1, s1⟩
  have B1 := Bw.trans (b1.mono Bw.size)
  go_wp2_with fail
  refine (CS.out _ _ _ O1.reads).mono ?_
  rintro e w2 ⟨hp, b2⟩
  obtain ⟨ap, cp, rfl, rp⟩ := hp.reads
  have B2 := B1.trans (b2.mono B1.size)
  have z2 := B2.size
  clear O1 b1 b2 s1 B1 hp
  go_wp2_with fail
  refine (toIntS_any _ _ _ _ (rl.below B2) ll).mono ?_
  rintro e w3 ⟨rfl, Ox3, D3, s3⟩
  have z3 := D3.size
  clear s3
  go_wp2_with fail
  refine (CI.out _ _ _ Ox3.reads).mono ?_
  rintro e w4 ⟨hg, b4⟩
  have D4 := D3.trans (b4.mono D3.size)
  have z4 := b4.size
  have KX := Lib.hid Ox3.lt
  have Ox4 := Ox3.below b4
  clear b4 D3 Ox3
  rcases hg with ⟨rfl, rfl⟩ | ⟨hne, G, rfl, Og4⟩
  · go_wp2_with fail
    refine (eqIntSS_self _ _ [] _ _ _ (.inl rfl) (rp.below D4) bk).mono ?_
    rintro e w5 ⟨rfl, b5⟩
    have D5 := D4.trans (b5.mono D4.size)
    have z5 := b5.size
    have Ox5 := Ox4.below b5
    clear b5 D4 Ox4
    go_wp2_with fail
    refine (toIntS_any _ _ _ _ (rl.below (B2.trans (D5.mono z2))) ll).mono ?_
    rintro e w6 ⟨rfl, Od, b6, s6⟩
    clear s6
    have D6 := D5.trans (b6.mono D5.size)
    have z6 := b6.size
    have Ox6 := Ox5.below b6
    clear b6 D5 Ox5
    go_wp2_with fail
    refine (eqIntS_any _ _ _ _ _ _ _ Ox6.reads Od.reads ll ll).mono ?_
    rintro e w7x ⟨rfl, n7, rfl⟩
    have b7 := below_drewN (Below.refl w6.heap.size w6) n7
    obtain ⟨w7, q7⟩ : ∃ x, x = w6.drewN n7 := ⟨_, rfl⟩
    rw [← q7] at b7 ⊢
    clear q7 Od
    have D7 := D6.trans (b7.mono D6.size)
    have z7 := b7.size
    have Ox7 := Ox6.below b7
    clear b7 D6 Ox6
    go_wp2_with fail
    refine (markIntS_any _ _ _ _ _ Ox7 ll (by omega) (by omega)).mono ?_
    rintro e w8 ⟨rfl, _, g8⟩
    have D8 := Below.grownB D7 Ox7 g8 D7.size (Nat.le_refl _)
    have z8 := g8.size
    clear g8 Ox7 D7
    go_wp2_with fail
    refine (eqIntSS_self _ _ [] _ _ _ (.inl rfl) (rp.below D8) bk).mono ?_
    rintro e w9 ⟨rfl, b9⟩
    have D9 := D8.trans (b9.mono D8.size)
    have z9 := b9.size
    clear b9 D8
    go_wp2_with fail
    refine (markIntSS_nil _).mono ?_
    rintro e w' ⟨rfl, rfl⟩
    go_wp2_with fail
    refine (heldIntSS_any none [] 0 _ (.inl rfl) bk).mono ?_
    rintro e w' ⟨rfl, rfl⟩
    go_wp2_with fail
    refine (toIntS_any _ _ _ _ (rl.below (B2.trans (D9.mono z2))) ll).mono ?_
    rintro e w11 ⟨rfl, Oy, b11, s11⟩
    clear s11
    have D11 := D9.trans (b11.mono D9.size)
    have z11 := b11.size
    clear b11 D9
    go_wp2_with fail
    refine (CI.out _ _ _ Oy.reads).mono ?_
    rintro e w12 ⟨hh, b12⟩
    obtain ⟨ah, chh, rfl, rh⟩ := hh.reads
    clear Oy hh
    have D12 := D11.trans (b12.mono D11.size)
    have z12 := b12.size
    clear b12 D11
    go_wp2_with fail
    refine (eqIntSS_self _ _ [] _ _ _ rh (rp.below D12) bk).mono ?_
    rintro e w13 ⟨rfl, b13⟩
    have D13 := D12.trans (b13.mono D12.size)
    have z13 := b13.size
    clear b13 D12
    go_wp2_with fail
    refine (heldIntSS_any none [] 0 _ (.inl rfl) bk).mono ?_
    rintro e w' ⟨rfl, rfl⟩
    go_wp2
    go_ret
    exact ⟨rfl, B2.trans (D13.mono z2)⟩
  · go_wp2_with fail
    refine (eqIntSS_self _ _ ts _ _ _ Og4.reads (rp.below D4) bk).mono ?_
    rintro e w5 ⟨rfl, b5⟩
    have D5 := D4.trans (b5.mono D4.size)
    have z5 := b5.size
    have Ox5 := Ox4.below b5
    have Og5 := Og4.below b5
    clear b5 D4 Ox4 Og4
    go_wp2_with fail
    refine (toIntS_any _ _ _ _ (rl.below (B2.trans (D5.mono z2))) ll).mono ?_
    rintro e w6 ⟨rfl, Od, b6, s6⟩
    clear s6
    have D6 := D5.trans (b6.mono D5.size)
    have z6 := b6.size
    have Ox6 := Ox5.below b6
    have Og6 := Og5.below b6
    clear b6 D5 Ox5 Og5
    go_wp2_with fail
    refine (eqIntS_any _ _ _ _ _ _ _ Ox6.reads Od.reads ll ll).mono ?_
    rintro e w7x ⟨rfl, n7, rfl⟩
    have b7 := below_drewN (Below.refl w6.heap.size w6) n7
    obtain ⟨w7, q7⟩ : ∃ x, x = w6.drewN n7 := ⟨_, rfl⟩
    rw [← q7] at b7 ⊢
    clear q7 Od
    have D7 := D6.trans (b7.mono D6.size)
    have z7 := b7.size
    have Ox7 := Ox6.below b7
    have Og7 := Og6.below b7
    clear b7 D6 Ox6 Og6
    go_wp2_with fail
    refine (markIntS_any _ _ _ _ _ Ox7 ll (by omega) (by omega)).mono ?_
    rintro e w8 ⟨rfl, _, g8⟩
    have D8 := Below.grownB D7 Ox7 g8 D7.size (Nat.le_refl _)
    have z8 := g8.size
    have Og8 := Og7.kept g8 (fun k hk => by have := KX.out k hk; omega)
    clear g8 Ox7 D7 Og7
    go_wp2_with fail
    refine (eqIntSS_self _ _ ts _ _ _ Og8.reads (rp.below D8) bk).mono ?_
    rintro e w9 ⟨rfl, b9⟩
    have D9 := D8.trans (b9.mono D8.size)
    have z9 := b9.size
    have Og9 := Og8.below b9
    clear b9 D8 Og8
    go_wp2_with fail
    refine (CM.out _ _ _ _ _ Og9).mono ?_
    rintro e w10 ⟨rfl, o10, Om10⟩
    have D10 := Below.out D9 o10 D9.size z3
    have z10 := o10.2.2.2.1
    clear o10 Og9 D9
    go_wp2_with fail
    refine (CH.out _ _ _ Om10.reads).mono ?_
    rintro e w' ⟨rfl, rfl⟩
    go_wp2_with fail
    refine (toIntS_any _ _ _ _ (rl.below (B2.trans (D10.mono z2))) ll).mono ?_
    rintro e w11 ⟨rfl, Oy, b11, s11⟩
    clear s11
    have D11 := D10.trans (b11.mono D10.size)
    have z11 := b11.size
    have Om11 := Om10.below b11
    clear b11 D10 Om10
    go_wp2_with fail
    refine (CI.out _ _ _ Oy.reads).mono ?_
    rintro e w12 ⟨hh, b12⟩
    obtain ⟨ah, chh, rfl, rh⟩ := hh.reads
    clear Oy hh
    have D12 := D11.trans (b12.mono D11.size)
    have z12 := b12.size
    have Om12 := Om11.below b12
    clear b12 D11 Om11
    go_wp2_with fail
    refine (eqIntSS_self _ _ ts _ _ _ rh (rp.below D12) bk).mono ?_
    rintro e w13 ⟨rfl, b13⟩
    have D13 := D12.trans (b13.mono D12.size)
    have z13 := b13.size
    have Om13 := Om12.below b13
    clear b13 D12 Om12
    go_wp2_with fail
    refine (CH.out _ _ _ Om13.reads).mono ?_
    rintro e w' ⟨rfl, rfl⟩
    go_wp2
    go_ret
    exact ⟨rfl, B2.trans (D13.mono z2)⟩
end Go.Proofs.Ytjkcahmbocjacaa
