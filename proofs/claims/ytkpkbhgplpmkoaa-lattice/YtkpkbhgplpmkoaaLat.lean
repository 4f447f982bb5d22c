/- Plain mathematics: labels as a lattice; the normal form says what the label says. -/
import Derived.Test.YtkpkbhgplpmkoaaLo
namespace Go.Proofs.Ytkpkbhgplpmkoaa
open Go.RowKit

theorem bitI_nat (s k : Nat) (hs : s < 64) : bitI (s : Int) k = s.testBit k := by
  unfold bitI
  rw [bit_i64 s k hs]
  cases h : s.testBit k <;> simp
theorem letsTo_iff (M : Nat → Nat → Bool) (o : Nat) (r : Int) (who : Nat) : ∀ n, letsTo M o r who n = true ↔ M who o = true ∨ ∃ k, k < n ∧ bitI r k = true ∧ M who k = true := by
  intro n
  induction n with
  | zero => simp [letsTo]
  | succ n ih =>
    simp only [letsTo, Bool.or_eq_true, Bool.and_eq_true, ih]
    constructor
    · rintro ((h | ⟨k, hk, h1, h2⟩) | ⟨h1, h2⟩)
      · exact Or.inl h
      · exact Or.inr ⟨k, by omega, h1, h2⟩
      · exact Or.inr ⟨n, by omega, h1, h2⟩
    · rintro (h | ⟨k, hk, h1, h2⟩)
      · exact Or.inl (Or.inl h)
      · by_cases e : k = n
        · subst e; exact Or.inr ⟨h1, h2⟩
        · exact Or.inl (Or.inr ⟨k, by omega, h1, h2⟩)
theorem outP_iff (N : Nat) (M : Nat → Nat → Bool) (X Y : Nat → Int) (k who : Nat) : ∀ m, outP N M X Y m k who = true ↔ ∃ i, i < m ∧ polB N M (X i) (Y i) k who = true := by
  intro m
  induction m with
  | zero => simp [outP]
  | succ m ih =>
    simp only [outP, Bool.or_eq_true, ih]
    constructor
    · rintro (⟨i, hi, h⟩ | h)
      · exact ⟨i, by omega, h⟩
      · exact ⟨m, by omega, h⟩
    · rintro ⟨i, hi, h⟩
      by_cases e : i = m
      · subst e; exact Or.inr h
      · exact Or.inl ⟨i, by omega, h⟩
theorem polB_iff {N : Nat} {M : Nat → Nat → Bool} {o r : Int} {k who : Nat} : polB N M o r k who = true ↔ k < N ∧ who < N ∧ ∃ q : Nat, o = (q : Int) ∧ q < N ∧ M q k = true ∧ letsTo M q r who N = false := by
  simp only [polB, Bool.and_eq_true, decide_eq_true_eq, inB, Bool.not_eq_true']
  constructor
  · rintro ⟨⟨h1, h2⟩, ⟨h3, h4⟩, h5, h6⟩
    exact ⟨h1, h2, o.toNat, by omega, by omega, h5, h6⟩
  · rintro ⟨h1, h2, q, rfl, h3, h4, h5⟩
    rw [Int.toNat_natCast]
    exact ⟨⟨h1, h2⟩, ⟨by omega, by omega⟩, h4, h5⟩
/-- An order: everybody for itself, and on. -/
structure Od (N : Nat) (M : Nat → Nat → Bool) : Prop where
  wi : Wi N M
  re : ∀ a, a < N → M a a = true
  tr : Tr M
/-- What a label made of policies is like. -/
structure Good (N : Nat) (M O : Nat → Nat → Bool) : Prop where
  wi : LW N O
  up : ∀ k k' who, O k who = true → M k k' = true → O k' who = true
  dn : ∀ k who who', O k who = true → M who who' = true → O k who' = true
  src : ∀ k who, O k who = true → ∃ o, M o k = true ∧ O o who = true ∧ M who o = false
theorem good_pol {N : Nat} {M : Nat → Nat → Bool} (hM : Od N M) (o r : Int) : Good N M (polB N M o r) := by
  refine ⟨polB_wi N M o r, ?_, ?_, ?_⟩
  · intro k k' who h1 h2
    rw [polB_iff] at h1 ⊢
    obtain ⟨hk, hw, q, hq, hqN, h3, h4⟩ := h1
    exact ⟨(hM.wi _ _ h2).2, hw, q, hq, hqN, hM.tr _ _ _ h3 h2, h4⟩
  · intro k who who' h1 h2
    rw [polB_iff] at h1 ⊢
    obtain ⟨hk, hw, q, hq, hqN, h3, h4⟩ := h1
    refine ⟨hk, (hM.wi _ _ h2).2, q, hq, hqN, h3, ?_⟩
    cases h5 : letsTo M q r who' N with
    | false => rfl
    | true =>
      exfalso
      have : letsTo M q r who N = true := by
        rw [letsTo_iff] at h5 ⊢
        rcases h5 with h5 | ⟨j, hj, h6, h7⟩
        · exact Or.inl (hM.tr _ _ _ h2 h5)
        · exact Or.inr ⟨j, hj, h6, hM.tr _ _ _ h2 h7⟩
      rw [h4] at this; simp at this
  · intro k who h1
    rw [polB_iff] at h1
    obtain ⟨hk, hw, q, hq, hqN, h3, h4⟩ := h1
    refine ⟨q, h3, ?_, ?_⟩
    · rw [polB_iff]
      exact ⟨hqN, hw, q, hq, hqN, hM.re q hqN, h4⟩
    · cases h5 : M who q with
      | false => rfl
      | true =>
        exfalso
        have : letsTo M q r who N = true := by rw [letsTo_iff]; exact Or.inl h5
        rw [h4] at this; simp at this
theorem good_or {N : Nat} {M O P : Nat → Nat → Bool} (h : Good N M O) (g : Good N M P) : Good N M (fun k who => O k who || P k who) := by
  refine ⟨?_, ?_, ?_, ?_⟩
  · intro k who hk
    simp only [Bool.or_eq_true] at hk
    rcases hk with x | x
    · exact h.wi k who x
    · exact g.wi k who x
  · intro k k' who hk hm
    simp only [Bool.or_eq_true] at hk ⊢
    rcases hk with x | x
    · exact Or.inl (h.up k k' who x hm)
    · exact Or.inr (g.up k k' who x hm)
  · intro k who who' hk hm
    simp only [Bool.or_eq_true] at hk ⊢
    rcases hk with x | x
    · exact Or.inl (h.dn k who who' x hm)
    · exact Or.inr (g.dn k who who' x hm)
  · intro k who hk
    simp only [Bool.or_eq_true] at hk ⊢
    rcases hk with x | x
    · obtain ⟨o, h1, h2, h3⟩ := h.src k who x; exact ⟨o, h1, Or.inl h2, h3⟩
    · obtain ⟨o, h1, h2, h3⟩ := g.src k who x; exact ⟨o, h1, Or.inr h2, h3⟩
theorem good_none (N : Nat) (M : Nat → Nat → Bool) : Good N M (fun _ _ => false) :=
  ⟨fun _ _ h => by simp at h, fun _ _ _ h => by simp at h, fun _ _ _ h => by simp at h, fun _ _ h => by simp at h⟩
theorem good_out {N : Nat} {M : Nat → Nat → Bool} (hM : Od N M) (X Y : Nat → Int) (m : Nat) : Good N M (outP N M X Y m) := by
  induction m with
  | zero => exact good_none N M
  | succ m ih => exact good_or ih (good_pol hM _ _)
theorem faTo_iff (M O : Nat → Nat → Bool) (k who : Nat) : ∀ j, faTo M O k who j = true ↔ ∃ i, i < j ∧ M i k = true ∧ M k i = false ∧ O i who = true := by
  intro j
  induction j with
  | zero => simp [faTo]
  | succ j ih =>
    simp only [faTo, Bool.or_eq_true, Bool.and_eq_true, Bool.not_eq_true', ih]
    constructor
    · rintro (⟨i, hi, h1, h2, h3⟩ | ⟨⟨h1, h2⟩, h3⟩)
      · exact ⟨i, by omega, h1, h2, h3⟩
      · exact ⟨j, by omega, h1, h2, h3⟩
    · rintro ⟨i, hi, h1, h2, h3⟩
      by_cases e : i = j
      · subst e; exact Or.inr ⟨⟨h1, h2⟩, h3⟩
      · exact Or.inl ⟨i, by omega, h1, h2, h3⟩
theorem mem_norm (N : Nat) (M O : Nat → Nat → Bool) (q : Nat × Nat) : ∀ k, q ∈ normTo N M O k ↔ q.1 < k ∧ q.2 = rdN N O q.1 ∧ firstB M q.1 = true ∧ rdN N O q.1 ≠ restN N M O q.1 N := by
  intro k
  induction k with
  | zero => simp [normTo]
  | succ k ih =>
    simp only [normTo, List.mem_append, ih]
    constructor
    · rintro (⟨h1, h2⟩ | h)
      · exact ⟨by omega, h2⟩
      · split at h
        · rename_i hc
          simp only [List.mem_singleton] at h
          subst h
          simp only [Bool.and_eq_true, bne_iff_ne] at hc
          exact ⟨by simp, rfl, hc.1, hc.2⟩
        · simp at h
    · rintro ⟨h1, h2, h3, h4⟩
      by_cases e : q.1 = k
      · right
        have hc : (firstB M k && (rdN N O k != restN N M O k N)) = true := by
          rw [← e, h3]
          simp only [Bool.true_and, bne_iff_ne]
          exact h4
        rw [if_pos hc, List.mem_singleton, ← e, ← h2]
      · exact Or.inl ⟨by omega, h2, h3, h4⟩
/-- Of those alike there is a first one. -/
theorem first_of {N : Nat} {M : Nat → Nat → Bool} (hM : Od N M) : ∀ o, o < N → ∃ f, f ≤ o ∧ M f o = true ∧ M o f = true ∧ firstB M f = true := by
  intro o
  induction o using Nat.strongRecOn with
  | _ o ih =>
    intro ho
    cases hf : firstB M o with
    | true => exact ⟨o, Nat.le_refl _, hM.re o ho, hM.re o ho, hf⟩
    | false =>
      have : ∃ j, j < o ∧ (M j o && M o j) = true := by
        apply Classical.byContradiction
        intro hn
        have : firstB M o = true := first_yes (fun j hj => by
          cases hx : (M j o && M o j) with
          | false => rfl
          | true => exact absurd ⟨j, hj, hx⟩ hn)
        rw [hf] at this; simp at this
      obtain ⟨j, hj, hx⟩ := this
      simp only [Bool.and_eq_true] at hx
      obtain ⟨f, h1, h2, h3, h4⟩ := ih j hj (by omega)
      exact ⟨f, by omega, hM.tr _ _ _ h2 hx.1, hM.tr _ _ _ hx.2 h3, h4⟩
/-- How many act for one. -/
def upCnt (N : Nat) (M : Nat → Nat → Bool) (o : Nat) : Nat := ((List.range N).filter fun x => M x o).length
theorem upCnt_lt {N : Nat} {M : Nat → Nat → Bool} (hM : Od N M) {o o' : Nat} (h1 : M o' o = true) (h2 : M o o' = false) : upCnt N M o' < upCnt N M o := by
  unfold upCnt
  have ho := (hM.wi _ _ h1).2
  exact filter_len_lt _ _ _ (fun x hx => hM.tr _ _ _ hx h1) o (List.mem_range.2 ho) h2 (hM.re o ho)
/-- The normal form keeps from reading those whom the label keeps. -/
theorem norm_src {N : Nat} {M O : Nat → Nat → Bool} (hM : Od N M) (hO : Good N M O) : ∀ c o who, upCnt N M o ≤ c → o < N → O o who = true → M who o = false → ∃ k0, M k0 o = true ∧ O k0 who = true ∧ M who k0 = false ∧ (k0, rdN N O k0) ∈ normTo N M O N := by
  intro c
  induction c with
  | zero =>
    intro o who hc ho _ _
    exfalso
    have : 0 < upCnt N M o := by
      unfold upCnt
      exact List.length_pos_of_mem (List.mem_filter.2 ⟨List.mem_range.2 ho, hM.re o ho⟩)
    omega
  | succ c ih =>
    intro o who hc ho h1 h2
    obtain ⟨f, hf1, hf2, hf3, hf4⟩ := first_of hM o ho
    have hfN : f < N := by omega
    have hOf : O f who = true := hO.up _ _ _ h1 hf3
    have hMf : M who f = false := by
      cases h : M who f with
      | false => rfl
      | true => rw [hM.tr _ _ _ h hf2] at h2; simp at h2
    by_cases hne : rdN N O f = restN N M O f N
    · -- those above say it
      have hw := (hO.wi _ _ h1).2
      have := numOf_inj hne who hw
      have hfa : faTo M O f who N = true := by
        rw [hOf] at this
        cases h : faTo M O f who N with
        | true => rfl
        | false => rw [h] at this; simp at this
      obtain ⟨i, hi, g1, g2, g3⟩ := (faTo_iff M O f who N).1 hfa
      obtain ⟨o', s1, s2, s3⟩ := hO.src i who g3
      have ho' := (hM.wi _ _ s1).1
      have t1 : M o' o = true := hM.tr _ _ _ (hM.tr _ _ _ s1 g1) hf2
      have t2 : M o o' = false := by
        cases h : M o o' with
        | false => rfl
        | true =>
          have : M f i = true := hM.tr _ _ _ (hM.tr _ _ _ hf2 h) s1
          rw [this] at g2; simp at g2
      have hlt := upCnt_lt hM t1 t2
      obtain ⟨k0, u1, u2, u3, u4⟩ := ih o' who (by omega) ho' s2 s3
      exact ⟨k0, hM.tr _ _ _ u1 t1, u2, u3, u4⟩
    · exact ⟨f, hf2, hOf, hMf, (mem_norm N M O (f, rdN N O f) N).2 ⟨hfN, rfl, hf4, hne⟩⟩
/-- The normal form's policies say what the label says. -/
theorem norm_out {N : Nat} (hN : N ≤ 6) {M O : Nat → Nat → Bool} (hM : Od N M) (hO : Good N M O) : outP N M (XX (normTo N M O N)) (YY (normTo N M O N)) (normTo N M O N).length = O := by
  funext k who
  have key : ∀ q, q ∈ normTo N M O N → (polB N M (q.1 : Int) (q.2 : Int) k who = true ↔ k < N ∧ who < N ∧ M q.1 k = true ∧ M who q.1 = false ∧ O q.1 who = true) := by
    intro q hq
    obtain ⟨h1, h2, h3, h4⟩ := (mem_norm N M O q N).1 hq
    rw [polB_iff, h2]
    have hl : who < N → (letsTo M q.1 (rdN N O q.1 : Int) who N = true ↔ (M who q.1 = true ∨ O q.1 who = false)) := by
      intro hw
      rw [letsTo_iff]
      constructor
      · rintro (h | ⟨j, hj, hb, hm⟩)
        · exact Or.inl h
        · right
          rw [bitI_nat _ _ (rdN_lt hN), rd_bit] at hb
          simp only [Bool.and_eq_true, Bool.not_eq_true'] at hb
          cases ho : O q.1 who with
          | false => rfl
          | true => rw [hO.dn _ _ _ ho hm] at hb; simp at hb
      · rintro (h | h)
        · exact Or.inl h
        · right
          refine ⟨who, hw, ?_, hM.re who hw⟩
          rw [bitI_nat _ _ (rdN_lt hN), rd_bit, h]
          simp [hw]
    constructor
    · rintro ⟨g1, g2, x, g3, g4, g5, g6⟩
      have e : q.1 = x := by omega
      subst e
      refine ⟨g1, g2, g5, ?_, ?_⟩
      · cases h : M who q.1 with
        | false => rfl
        | true => rw [(hl g2).2 (Or.inl h)] at g6; simp at g6
      · cases h : O q.1 who with
        | true => rfl
        | false => rw [(hl g2).2 (Or.inr h)] at g6; simp at g6
    · rintro ⟨g1, g2, g3, g4, g5⟩
      refine ⟨g1, g2, q.1, rfl, h1, g3, ?_⟩
      cases h : letsTo M q.1 (rdN N O q.1 : Int) who N with
      | false => rfl
      | true =>
        rcases (hl g2).1 h with x | x
        · rw [g4] at x; simp at x
        · rw [g5] at x; simp at x
  generalize hl : normTo N M O N = l at *
  have fwd : outP N M (XX l) (YY l) l.length k who = true → O k who = true := by
    intro h
    obtain ⟨i, hi, hp⟩ := (outP_iff _ _ _ _ _ _ _).1 h
    have e : l.getD i (0, 0) = l[i] := by simp [List.getD_eq_getElem?_getD, hi]
    simp only [XX, YY, e] at hp
    obtain ⟨_, _, g3, _, g5⟩ := (key l[i] (List.getElem_mem hi)).1 hp
    exact hO.up _ _ _ g5 g3
  have bwd : O k who = true → outP N M (XX l) (YY l) l.length k who = true := by
    intro h
    obtain ⟨o, s1, s2, s3⟩ := hO.src k who h
    obtain ⟨k0, u1, u2, u3, u4⟩ := norm_src hM hO _ o who (Nat.le_refl _) (hM.wi _ _ s1).1 s2 s3
    rw [hl] at u4
    obtain ⟨i, hi, he⟩ := List.getElem_of_mem u4
    rw [outP_iff]
    refine ⟨i, hi, ?_⟩
    have e : l.getD i (0, 0) = l[i] := by simp [List.getD_eq_getElem?_getD, hi]
    simp only [XX, YY, e, he]
    rw [key _ u4]
    exact ⟨(hO.wi _ _ h).1, (hO.wi _ _ h).2, hM.tr _ _ _ u1 s1, u3, u2⟩
  cases h1 : outP N M (XX l) (YY l) l.length k who with
  | true => rw [fwd h1]
  | false =>
    cases h2 : O k who with
    | false => rfl
    | true => rw [bwd h2] at h1; simp at h1

/-- Within six. -/
theorem flB_in {N : Nat} (hN : N ≤ 6) {O P : Nat → Nat → Bool} (hO : LW N O) : flB O P = true ↔ ∀ k who, O k who = true → P k who = true := by
  rw [flB_iff]
  constructor
  · intro h k who ho
    have := hO k who ho
    exact h k (by omega) who (by omega) ho
  · intro h k _ who _ ho
    exact h k who ho
theorem flB_refl (O : Nat → Nat → Bool) : flB O O = true := (flB_iff O O).2 (fun _ _ _ _ h => h)
theorem flB_none (P : Nat → Nat → Bool) : flB (fun _ _ => false) P = true := (flB_iff _ P).2 (fun _ _ _ _ h => by simp at h)
theorem flB_trans {N : Nat} (hN : N ≤ 6) {O P Q : Nat → Nat → Bool} (hO : LW N O) (hP : LW N P) (h1 : flB O P = true) (h2 : flB P Q = true) : flB O Q = true :=
  (flB_in hN hO).2 (fun k who h => (flB_in hN hP).1 h2 k who ((flB_in hN hO).1 h1 k who h))
theorem flB_anti {N : Nat} (hN : N ≤ 6) {O P : Nat → Nat → Bool} (hO : LW N O) (hP : LW N P) (h1 : flB O P = true) (h2 : flB P O = true) : O = P := by
  funext k who
  have a := (flB_in hN hO).1 h1 k who
  have b := (flB_in hN hP).1 h2 k who
  cases h : O k who <;> cases g : P k who <;> simp_all
theorem flB_left (O P : Nat → Nat → Bool) : flB O (fun k who => O k who || P k who) = true := (flB_iff _ _).2 (fun k _ who _ h => by simp [h])
theorem flB_right (O P : Nat → Nat → Bool) : flB P (fun k who => O k who || P k who) = true := (flB_iff _ _).2 (fun k _ who _ h => by simp [h])
theorem flB_or (O P Q : Nat → Nat → Bool) : flB (fun k who => O k who || P k who) Q = (flB O Q && flB P Q) := by
  rw [Bool.eq_iff_iff, Bool.and_eq_true, flB_iff, flB_iff, flB_iff]
  constructor
  · intro h
    exact ⟨fun k hk who hw ho => h k hk who hw (by simp [ho]), fun k hk who hw ho => h k hk who hw (by simp [ho])⟩
  · rintro ⟨h1, h2⟩ k hk who hw ho
    simp only [Bool.or_eq_true] at ho
    rcases ho with x | x
    · exact h1 k hk who hw x
    · exact h2 k hk who hw x
theorem rdAll_iff (O : Nat → Nat → Bool) (x : Nat) : ((List.range 6).all fun k => !O k x) = true ↔ ∀ k, k < 6 → O k x = false := by
  rw [List.all_eq_true]
  constructor
  · intro h k hk
    have := h k (List.mem_range.2 hk)
    simpa using this
  · intro h k hk
    rw [h k (List.mem_range.1 hk)]; rfl
theorem rdB_or {N : Nat} (O P : Nat → Nat → Bool) (x : Int) : rdB N (fun k who => O k who || P k who) x = (rdB N O x && rdB N P x) := by
  unfold rdB
  cases inB N x with
  | false => rfl
  | true =>
    simp only [Bool.true_and]
    rw [Bool.eq_iff_iff, Bool.and_eq_true, rdAll_iff O, rdAll_iff P]
    have e := rdAll_iff (fun k w => O k w || P k w) x.toNat
    refine Iff.trans e ?_
    constructor
    · intro h
      refine ⟨fun k hk => ?_, fun k hk => ?_⟩
      · have := h k hk; simp only [Bool.or_eq_false_iff] at this; exact this.1
      · have := h k hk; simp only [Bool.or_eq_false_iff] at this; exact this.2
    · rintro ⟨h1, h2⟩ k hk
      rw [h1 k hk, h2 k hk]; rfl
theorem rdB_none {N : Nat} {x : Int} (h : inB N x = true) : rdB N (fun _ _ => false) x = true := by
  unfold rdB; rw [h]
  rw [(rdAll_iff (fun _ _ => false) x.toNat).2 (fun _ _ => rfl)]; rfl
theorem rdB_le {N : Nat} (hN : N ≤ 6) {O P : Nat → Nat → Bool} (hO : LW N O) {x : Int} (h : flB O P = true) (h2 : rdB N P x = true) : rdB N O x = true := by
  unfold rdB at h2 ⊢
  simp only [Bool.and_eq_true] at h2 ⊢
  refine ⟨h2.1, ?_⟩
  rw [rdAll_iff] at *
  intro k hk
  cases ho : O k x.toNat with
  | false => rfl
  | true =>
    have := h2.2 k hk
    rw [(flB_in hN hO).1 h k _ ho] at this; simp at this
/-- Equal lists, equal labels. -/
theorem norm_eq {N : Nat} (hN : N ≤ 6) {M O P : Nat → Nat → Bool} (hM : Od N M) (hO : Good N M O) (hP : Good N M P) : normTo N M O N = normTo N M P N ↔ (flB O P && flB P O) = true := by
  rw [Bool.and_eq_true]
  constructor
  · intro h
    have e : O = P := by rw [← norm_out hN hM hO, ← norm_out hN hM hP, h]
    subst e
    exact ⟨flB_refl _, flB_refl _⟩
  · rintro ⟨h1, h2⟩
    rw [flB_anti hN hO.wi hP.wi h1 h2]
/-- A policy of one that lets nobody else read. -/
theorem own_out {N : Nat} {M : Nat → Nat → Bool} {a : Nat} (ha : a < N) (k who : Nat) : polB N M (a : Int) 0 k who = true ↔ k < N ∧ who < N ∧ M a k = true ∧ M who a = false := by
  rw [polB_iff]
  have hb : ∀ j, bitI 0 j = false := fun j => by
    have := bitI_nat 0 j (by omega)
    rw [Nat.zero_testBit] at this
    exact this
  have hl : letsTo M a 0 who N = M who a := by
    cases h : M who a with
    | true => rw [letsTo_iff]; exact Or.inl h
    | false =>
      cases g : letsTo M a 0 who N with
      | false => rfl
      | true =>
        rw [letsTo_iff] at g
        rcases g with x | ⟨j, _, x, _⟩
        · rw [h] at x; simp at x
        · rw [hb j] at x; simp at x
  constructor
  · rintro ⟨h1, h2, q, h3, h4, h5, h6⟩
    have e : a = q := by omega
    subst e
    rw [hl] at h6
    exact ⟨h1, h2, h5, h6⟩
  · rintro ⟨h1, h2, h3, h4⟩
    exact ⟨h1, h2, a, rfl, ha, h3, by rw [hl]; exact h4⟩
theorem alone_reads {N : Nat} (hN : N ≤ 6) {M : Nat → Nat → Bool} (hM : Od N M) {a b : Nat} (ha : a < N) (hb : b < N) : rdB N (polB N M (a : Int) 0) (b : Int) = M b a := by
  have hin : inB N (b : Int) = true := by simp [inB]; omega
  unfold rdB
  rw [hin, Bool.true_and, Int.toNat_natCast]
  cases h : M b a with
  | true =>
    rw [rdAll_iff]
    intro k _
    cases g : polB N M (a : Int) 0 k b with
    | false => rfl
    | true => have := ((own_out ha k b).1 g).2.2.2; rw [h] at this; simp at this
  | false => exact rd_no (k := a) (by omega) ((own_out ha a b).2 ⟨ha, hb, hM.re a ha, h⟩)
theorem alone_flows {N : Nat} (hN : N ≤ 6) {M : Nat → Nat → Bool} (hM : Od N M) {a b : Nat} (ha : a < N) (hb : b < N) : flB (polB N M (a : Int) 0) (polB N M (b : Int) 0) = M b a := by
  cases h : M b a with
  | true =>
    rw [flB_in hN (polB_wi N M _ _)]
    intro k who g
    obtain ⟨h1, h2, h3, h4⟩ := (own_out ha k who).1 g
    refine (own_out hb k who).2 ⟨h1, h2, hM.tr _ _ _ h h3, ?_⟩
    cases x : M who b with
    | false => rfl
    | true => rw [hM.tr _ _ _ x h] at h4; simp at h4
  | false =>
    cases g : flB (polB N M (a : Int) 0) (polB N M (b : Int) 0) with
    | false => rfl
    | true =>
      have := (flB_in hN (polB_wi N M _ _)).1 g a b ((own_out ha a b).2 ⟨ha, hb, hM.re a ha, h⟩)
      have := ((own_out hb a b).1 this).2.2.1
      rw [h] at this; simp at this
end Go.Proofs.Ytkpkbhgplpmkoaa
