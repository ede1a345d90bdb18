/-
  The plain mathematics of chapter 2: keys with three homes that are taken away, and the filter.
-/
namespace Go.Proofs.Ytoaiaindcmihjaa

/-- The three homes of key k. -/
def tr (ts : List (List Int)) (k : Nat) : List Int := ts.getD k []
theorem tr_eq {ts : List (List Int)} {k : Nat} (h : k < ts.length) : tr ts k = ts[k] := by simp [tr, List.getD, h]
/-- Three different numbers in range. -/
def three (m : Int) (t : List Int) : Bool :=
  decide (t.length = 3) && t.all (fun x => decide (0 ≤ x) && decide (x < m)) && !(t.getD 0 0 == t.getD 1 0) && !(t.getD 0 0 == t.getD 2 0) && !(t.getD 1 0 == t.getD 2 0)
theorem three_iff {m : Int} {t : List Int} : three m t = true ↔ t.length = 3 ∧ (∀ x ∈ t, 0 ≤ x ∧ x < m) ∧ t.getD 0 0 ≠ t.getD 1 0 ∧ t.getD 0 0 ≠ t.getD 2 0 ∧ t.getD 1 0 ≠ t.getD 2 0 := by
  simp [three, and_assoc]
def TV (m : Int) (ts : List (List Int)) : Bool := decide (1 ≤ m) && decide (m ≤ 10) && decide (ts.length ≤ 8) && ts.all (three m)
/-- The first k keys have three homes. -/
def FitT (m : Int) (ts : List (List Int)) (k : Nat) : Prop := ∀ i, i < k → three m (tr ts i) = true
theorem TV_iff {m : Int} {ts : List (List Int)} : TV m ts = true ↔ 1 ≤ m ∧ m ≤ 10 ∧ ts.length ≤ 8 ∧ FitT m ts ts.length := by
  have e : (∀ t ∈ ts, three m t = true) ↔ FitT m ts ts.length := by
    constructor
    · intro h i hi; rw [tr_eq hi]; exact h _ (List.getElem_mem hi)
    · intro h t ht
      obtain ⟨i, hi, rfl⟩ := List.getElem_of_mem ht
      have := h i hi
      rwa [tr_eq hi] at this
  simp only [TV, Bool.and_eq_true, decide_eq_true_eq, List.all_eq_true, and_assoc] at e ⊢
  rw [e]
theorem TV_false {m : Int} {ts : List (List Int)} (h : ¬ (1 ≤ m ∧ m ≤ 10 ∧ ts.length ≤ 8 ∧ FitT m ts ts.length)) : TV m ts = false := by
  rw [← TV_iff] at h; simpa using h
theorem FitT.zero (m : Int) (ts : List (List Int)) : FitT m ts 0 := fun i hi => by omega
theorem FitT.succ {m : Int} {ts : List (List Int)} {k : Nat} (h : FitT m ts k) (h1 : three m (tr ts k) = true) : FitT m ts (k + 1) := by
  intro i hi
  by_cases e : i = k
  · subst e; exact h1
  · exact h i (by omega)
theorem notFitT {m : Int} {ts : List (List Int)} {k : Nat} (hk : k < ts.length) (h : three m (tr ts k) = false) : TV m ts = false :=
  TV_false fun hh => by rw [hh.2.2.2 k hk] at h; cases h

structure Trp (M : Nat) (ts : List (List Int)) : Prop where
  pos : 1 ≤ M
  le : M ≤ 10
  len : ts.length ≤ 8
  fit : FitT M ts ts.length
theorem Trp.of_TV {m : Int} {ts : List (List Int)} (h : TV m ts = true) : ∃ M : Nat, m = M ∧ Trp M ts := by
  have hh := TV_iff.1 h
  refine ⟨m.toNat, by omega, ?_, ?_, hh.2.2.1, ?_⟩
  · omega
  · omega
  · have : ((m.toNat : Nat) : Int) = m := by omega
    rw [this]; exact hh.2.2.2
theorem Trp.TV {M : Nat} {ts : List (List Int)} (h : Trp M ts) : TV M ts = true := TV_iff.2 ⟨by have := h.pos; omega, by have := h.le; omega, h.len, h.fit⟩
theorem Trp.three {M : Nat} {ts : List (List Int)} (h : Trp M ts) {k : Nat} (hk : k < ts.length) : (tr ts k).length = 3 ∧ ∀ j, j < 3 → 0 ≤ (tr ts k).getD j 0 ∧ (tr ts k).getD j 0 < M := by
  obtain ⟨h1, h2, _⟩ := three_iff.1 (h.fit k hk)
  refine ⟨h1, fun j hj => ?_⟩
  have : (tr ts k).getD j 0 ∈ tr ts k := by
    rw [List.getD_eq_getElem?_getD, List.getElem?_eq_getElem (by omega)]; exact List.getElem_mem _
  exact h2 _ this

/-- Key k is left and has slot s as a home. -/
def at_ (ts : List (List Int)) (ks : List Nat) (s k : Nat) : Bool := !ks.contains k && (tr ts k).contains (s : Int)
/-- The keys of the first n that are left and have slot s as a home. -/
def lf (ts : List (List Int)) (ks : List Nat) (s n : Nat) : List Nat := (List.range n).filter (at_ ts ks s)
theorem lf_zero (ts : List (List Int)) (ks : List Nat) (s : Nat) : lf ts ks s 0 = [] := rfl
theorem lf_yes {ts : List (List Int)} {ks : List Nat} {s n : Nat} (h : at_ ts ks s n = true) : lf ts ks s (n + 1) = lf ts ks s n ++ [n] := by
  simp [lf, List.range_succ, List.filter_append, h]
theorem lf_no {ts : List (List Int)} {ks : List Nat} {s n : Nat} (h : at_ ts ks s n = false) : lf ts ks s (n + 1) = lf ts ks s n := by
  simp [lf, List.range_succ, List.filter_append, h]
theorem lf_len (ts : List (List Int)) (ks : List Nat) (s n : Nat) : (lf ts ks s n).length ≤ n := by
  have := List.length_filter_le (at_ ts ks s) (List.range n)
  simpa [lf] using this
/-- The key that is alone in slot s. -/
def alone (ts : List (List Int)) (ks : List Nat) (s : Nat) : Option Nat := if (lf ts ks s ts.length).length = 1 then some ((lf ts ks s ts.length).getLastD 0) else none
/-- The first slot from s on with one key, among n slots. -/
def nxt (ts : List (List Int)) (ks : List Nat) : Nat → Nat → Option (Nat × Nat)
  | 0, _ => none
  | n + 1, s => match alone ts ks s with
    | some k => some (k, s)
    | none => nxt ts ks n (s + 1)
theorem nxt_yes {ts : List (List Int)} {ks : List Nat} {n s k : Nat} (h : alone ts ks s = some k) : nxt ts ks (n + 1) s = some (k, s) := by simp [nxt, h]
theorem nxt_no {ts : List (List Int)} {ks : List Nat} {n s : Nat} (h : alone ts ks s = none) : nxt ts ks (n + 1) s = nxt ts ks n (s + 1) := by simp [nxt, h]
theorem alone_some {ts : List (List Int)} {ks : List Nat} {s k : Nat} (h : alone ts ks s = some k) : k < ts.length ∧ at_ ts ks s k = true ∧ lf ts ks s ts.length = [k] := by
  unfold alone at h
  split at h
  · rename_i h1
    obtain ⟨x, hx⟩ := List.length_eq_one_iff.1 h1
    rw [hx] at h
    simp at h
    subst h
    have hm : x ∈ lf ts ks s ts.length := by rw [hx]; simp
    unfold lf at hm
    rw [List.mem_filter] at hm
    exact ⟨by simpa using hm.1, hm.2, hx⟩
  · cases h
theorem nxt_some {ts : List (List Int)} {ks : List Nat} : ∀ n s k u, nxt ts ks n s = some (k, u) → alone ts ks u = some k ∧ s ≤ u ∧ u < s + n ∧ ∀ v, s ≤ v → v < u → alone ts ks v = none := by
  intro n
  induction n with
  | zero => intro s k u h; cases h
  | succ n ih =>
    intro s k u h
    cases e : alone ts ks s with
    | some q =>
      rw [nxt_yes e] at h
      simp at h
      obtain ⟨rfl, rfl⟩ := h
      exact ⟨e, Nat.le_refl _, by omega, fun v h1 h2 => by omega⟩
    | none =>
      rw [nxt_no e] at h
      obtain ⟨a, b, c, d⟩ := ih _ _ _ h
      refine ⟨a, by omega, by omega, fun v h1 h2 => ?_⟩
      by_cases hv : v = s
      · subst hv; exact e
      · exact d v (by omega) h2
theorem nxt_none {ts : List (List Int)} {ks : List Nat} : ∀ n s, nxt ts ks n s = none → ∀ v, s ≤ v → v < s + n → alone ts ks v = none := by
  intro n
  induction n with
  | zero => intro s _ v h1 h2; omega
  | succ n ih =>
    intro s h v h1 h2
    cases e : alone ts ks s with
    | some q => rw [nxt_yes e] at h; cases h
    | none =>
      rw [nxt_no e] at h
      by_cases hv : v = s
      · subst hv; exact e
      · exact ih _ h v (by omega) (by omega)

/-- How many keys are left. -/
def more (ts : List (List Int)) (ks : List Nat) : Nat := (List.range ts.length).countP fun k => !ks.contains k
theorem countP_lt {α : Type} {p q : α → Bool} {l : List α} (h : ∀ x ∈ l, p x = true → q x = true) {x : α} (hx : x ∈ l) (h1 : q x = true) (h2 : p x = false) : l.countP p < l.countP q := by
  induction l with
  | nil => cases hx
  | cons y l ih =>
    simp only [List.countP_cons]
    rcases List.mem_cons.1 hx with rfl | hx
    · have := List.countP_mono_left (l := l) (p := p) (q := q) fun z hz => h z (by simp [hz])
      rw [h1, h2]; simp; omega
    · have := ih (fun z hz => h z (by simp [hz])) hx
      have h3 := h y (by simp)
      by_cases e : p y = true
      · simp [e, h3 e]; omega
      · simp [e]
        split <;> omega
theorem more_lt {ts : List (List Int)} {ks : List Nat} {s k : Nat} (hk : k < ts.length) (h : at_ ts ks s k = true) : more ts (ks ++ [k]) < more ts ks := by
  unfold more
  simp only [at_, Bool.and_eq_true] at h
  refine countP_lt (fun x _ hx => ?_) (x := k) (by simpa using hk) h.1 (by simp)
  simp at hx ⊢
  exact hx.1
theorem more_le (ts : List (List Int)) (ks : List Nat) : more ts ks ≤ ts.length := by
  have := List.countP_le_length (p := fun k => !ks.contains k) (l := List.range ts.length)
  simpa [more] using this

/-- The keys and slots that are taken, behind those of ks and ss. -/
def pel (M : Nat) (ts : List (List Int)) : Nat → List Nat → List Nat → List Nat × List Nat
  | 0, ks, ss => (ks, ss)
  | f + 1, ks, ss => match nxt ts ks M 0 with
    | some (k, s) => pel M ts f (ks ++ [k]) (ss ++ [s])
    | none => (ks, ss)
/-- On the way: what is left to take. -/
def PelAt (M : Nat) (ts : List (List Int)) (R : List Nat × List Nat) (ks ss : List Nat) : Prop := ∃ f, more ts ks < f ∧ R = pel M ts f ks ss
theorem PelAt.start (M : Nat) (ts : List (List Int)) : PelAt M ts (pel M ts (ts.length + 1) [] []) [] [] := ⟨_, by have := more_le ts []; omega, rfl⟩
theorem PelAt.step {M : Nat} {ts : List (List Int)} {R : List Nat × List Nat} {ks ss : List Nat} {k s : Nat} (h : PelAt M ts R ks ss) (hn : nxt ts ks M 0 = some (k, s)) : PelAt M ts R (ks ++ [k]) (ss ++ [s]) := by
  obtain ⟨f, hf, rfl⟩ := h
  obtain ⟨a, _⟩ := nxt_some _ _ _ _ hn
  obtain ⟨a1, a2, _⟩ := alone_some a
  have := more_lt a1 a2
  cases f with
  | zero => omega
  | succ f => exact ⟨f, by omega, by simp [pel, hn]⟩
theorem PelAt.done {M : Nat} {ts : List (List Int)} {R : List Nat × List Nat} {ks ss : List Nat} (h : PelAt M ts R ks ss) (hn : nxt ts ks M 0 = none) : R = (ks, ss) := by
  obtain ⟨f, hf, rfl⟩ := h
  cases f with
  | zero => omega
  | succ f => simp [pel, hn]

/-- What the taken keys and slots are like. -/
structure Taken (M : Nat) (ts : List (List Int)) (ks ss : List Nat) : Prop where
  len : ks.length = ss.length
  key : ∀ k ∈ ks, k < ts.length
  slot : ∀ s ∈ ss, s < M
  nod : ks.Nodup
  count : more ts ks + ks.length ≤ ts.length
theorem Taken.start (M : Nat) (ts : List (List Int)) : Taken M ts [] [] := ⟨rfl, fun _ h => by simp at h, fun _ h => by simp at h, by simp, by have := more_le ts []; simpa using this⟩
theorem Taken.step {M : Nat} {ts : List (List Int)} {ks ss : List Nat} {k s : Nat} (h : Taken M ts ks ss) (hn : nxt ts ks M 0 = some (k, s)) : Taken M ts (ks ++ [k]) (ss ++ [s]) := by
  obtain ⟨a, _, b, _⟩ := nxt_some _ _ _ _ hn
  obtain ⟨a1, a2, _⟩ := alone_some a
  have hm := more_lt a1 a2
  have hc := h.count
  refine ⟨by simp [h.len], fun x hx => ?_, fun x hx => ?_, ?_, by simp; omega⟩
  · rcases List.mem_append.1 hx with hx | hx
    · exact h.key x hx
    · simp at hx; omega
  · rcases List.mem_append.1 hx with hx | hx
    · exact h.slot x hx
    · simp at hx; omega
  · rw [List.nodup_append]
    refine ⟨h.nod, by simp, fun x hx y hy => ?_⟩
    simp at hy
    subst hy
    rintro rfl
    simp [at_] at a2
    exact a2.1 hx
/-- PeelKeys of valid keys. -/
def plk (M : Nat) (ts : List (List Int)) : List Nat × List Nat := pel M ts (ts.length + 1) [] []
theorem pel_taken {M : Nat} {ts : List (List Int)} : ∀ f ks ss, Taken M ts ks ss → Taken M ts (pel M ts f ks ss).1 (pel M ts f ks ss).2 := by
  intro f
  induction f with
  | zero => intro ks ss h; exact h
  | succ f ih =>
    intro ks ss h
    cases e : nxt ts ks M 0 with
    | none => simp only [pel, e]; exact h
    | some q => obtain ⟨k, s⟩ := q; simp only [pel, e]; exact ih _ _ (h.step e)
theorem plk_taken (M : Nat) (ts : List (List Int)) : Taken M ts (plk M ts).1 (plk M ts).2 := pel_taken _ _ _ (Taken.start M ts)

/-- Numbers as ints. -/
def ints (l : List Nat) : List Int := l.map fun x : Nat => (x : Int)
theorem ints_len (l : List Nat) : (ints l).length = l.length := by simp [ints]
theorem ints_push (l : List Nat) (x : Nat) : ints l ++ [(x : Int)] = ints (l ++ [x]) := by simp [ints]
theorem ints_get {l : List Nat} {i : Nat} (h : i < l.length) : (ints l).getD i 0 = ((l.getD i 0 : Nat) : Int) := by simp [ints, List.getD, h]
/-- PeelKeys, as a function of Lean. -/
def PK (m : Int) (ts : List (List Int)) : List Int × List Int := if TV m ts = true then (ints (plk m.toNat ts).1, ints (plk m.toNat ts).2) else ([], [])
theorem PK_len (m : Int) (ts : List (List Int)) : (PK m ts).1.length ≤ 8 ∧ (PK m ts).2.length ≤ 8 := by
  unfold PK
  split
  · rename_i h
    have h1 := (TV_iff.1 h).2.2.1
    have t := plk_taken m.toNat ts
    have h2 := t.count
    have h3 := t.len
    simp only [ints_len]
    omega
  · simp
end Go.Proofs.Ytoaiaindcmihjaa
