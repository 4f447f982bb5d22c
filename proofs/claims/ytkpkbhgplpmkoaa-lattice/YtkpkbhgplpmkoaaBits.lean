/- Plain mathematics: sets as bits; relations and their closures. Nothing of the program. -/
import Derived.WalkKit
namespace Go.Proofs.Ytkpkbhgplpmkoaa
open Go.RowKit

theorem hide {p : Prop} (h : p) : Hid p := h
theorem unhide {p : Prop} (h : Hid p) : p := h

theorem nat_and_one (x : Nat) : (x &&& 1 == 1) = x.testBit 0 := by
  rw [Nat.testBit_zero, Nat.and_one_is_mod]
  rcases Nat.mod_two_eq_zero_or_one x with h | h <;> simp [h]

theorem has_bit (s k : Nat) (hs : s < 256) : (bits BinOp.and IntKind.u8 ((s : Int) / 2 ^ k) 1 == 1) = s.testBit k := by
  have h1 : ((s : Int) / 2 ^ k) = ((s / 2 ^ k : Nat) : Int) := by
    rw [Int.natCast_ediv]; simp
  have h2 : s / 2 ^ k < 2 ^ 8 := Nat.lt_of_le_of_lt (Nat.div_le_self _ _) (by simpa using hs)
  have h3 := (bits_nat .u8 8 (by decide) wraps_u8 (s / 2 ^ k) 1 h2 (by decide)).1
  rw [h1]
  have h3' : bits BinOp.and IntKind.u8 ((s / 2 ^ k : Nat) : Int) 1 = ((s / 2 ^ k &&& 1 : Nat) : Int) := h3
  rw [h3', Nat.testBit_eq_decide_div_mod_eq, Nat.and_one_is_mod]
  rcases Nat.mod_two_eq_zero_or_one (s / 2 ^ k) with h | h <;> simp [h]

theorem or_u8 (a b : Nat) (ha : a < 256) (hb : b < 256) : bits BinOp.or IntKind.u8 (a : Int) (b : Int) = ((a ||| b : Nat) : Int) :=
  (bits_nat .u8 8 (by decide) wraps_u8 a b (by simpa using ha) (by simpa using hb)).2

/-- A relation that goes on: what acts for one that acts for a third acts for that. -/
def Tr (M : Nat → Nat → Bool) : Prop := ∀ a b c, M a b = true → M b c = true → M a c = true
/-- One relation within another. -/
def In (M N : Nat → Nat → Bool) : Prop := ∀ a b, M a b = true → N a b = true
/-- The closure of R: it holds R, goes on, and lies within each that does. -/
structure Clo (R M : Nat → Nat → Bool) : Prop where
  has : In R M
  tr : Tr M
  least : ∀ T, In R T → Tr T → In M T

theorem Clo.one {R M N : Nat → Nat → Bool} (h : Clo R M) (k : Clo R N) : M = N := by
  funext a b
  have h1 := h.least N k.has k.tr a b
  have h2 := k.least M h.has h.tr a b
  cases hm : M a b <;> cases hn : N a b <;> simp_all

/-- Within n. -/
def Wi (n : Nat) (M : Nat → Nat → Bool) : Prop := ∀ a b, M a b = true → a < n ∧ b < n

/-- At the start everybody acts for itself. -/
def m0 (n : Nat) : Nat → Nat → Bool := fun a b => decide (a < n ∧ a = b)
/-- A pair of actors is laid beside. -/
def addP (n : Nat) (M : Nat → Nat → Bool) (x y : Int) : Nat → Nat → Bool := fun a b => M a b || decide (0 ≤ x ∧ x < n ∧ 0 ≤ y ∧ y < n ∧ (a : Int) = x ∧ (b : Int) = y)
/-- The first k pairs. -/
def prs (n : Nat) (L : List Int) : Nat → Nat → Nat → Bool
  | 0 => m0 n
  | k + 1 => addP n (prs n L k) (L.getD (2 * k) 0) (L.getD (2 * k + 1) 0)

theorem prs_wi (n : Nat) (L : List Int) (k : Nat) : Wi n (prs n L k) := by
  induction k with
  | zero => intro a b h; simp [prs, m0] at h; omega
  | succ k ih =>
    intro a b h
    simp only [prs, addP, Bool.or_eq_true, decide_eq_true_eq] at h
    rcases h with h | h
    · exact ih a b h
    · omega

/-- One step of the inner loop: column k takes what column i has, if i is in it. -/
def stepW (i k : Nat) (M : Nat → Nat → Bool) : Nat → Nat → Bool := fun a b => if b = k then (M a b || (M i b && M a i)) else M a b
/-- Columns below k have been done. -/
def inW (i : Nat) (M : Nat → Nat → Bool) : Nat → Nat → Nat → Bool
  | 0 => M
  | k + 1 => stepW i k (inW i M k)
/-- The ones between, below i, have been done. -/
def outW (M : Nat → Nat → Bool) : Nat → Nat → Nat → Bool
  | 0 => M
  | i + 1 => inW i (outW M i) 6

theorem inW_eq (i : Nat) (M : Nat → Nat → Bool) (k : Nat) : ∀ a b, inW i M k a b = if b < k then (M a b || (M i b && M a i)) else M a b := by
  induction k with
  | zero => intro a b; simp [inW]
  | succ k ih =>
    intro a b
    simp only [inW, stepW, ih]
    by_cases hb : b = k
    · subst hb
      simp only [if_true, Nat.lt_irrefl, if_false, Nat.lt_succ_self]
      by_cases hi : i < b
      · simp only [hi, if_true]
        cases M a b <;> cases M i b <;> cases M a i <;> simp
      · simp [hi]
    · have : (b < k + 1) = (b < k) := by
        apply propext; omega
      simp [hb, this]

theorem outW_wi {n : Nat} (_hn : n ≤ 6) {M : Nat → Nat → Bool} (h : Wi n M) (i : Nat) : Wi n (outW M i) := by
  induction i with
  | zero => exact h
  | succ i ih =>
    intro a b hab
    simp only [outW, inW_eq] at hab
    have ha := ih a b
    have hb := ih i b
    have hc := ih a i
    by_cases h6 : b < 6
    · simp only [h6, if_true, Bool.or_eq_true, Bool.and_eq_true] at hab
      rcases hab with h1 | ⟨h1, h2⟩
      · exact ha h1
      · exact ⟨(hc h2).1, (hb h1).2⟩
    · simp only [h6, if_false] at hab
      exact ha hab

theorem outW_inv {n : Nat} (hn : n ≤ 6) {M : Nat → Nat → Bool} (h : Wi n M) (i : Nat) :
    In M (outW M i) ∧ (∀ j, j < i → ∀ a k, outW M i a j = true → outW M i j k = true → outW M i a k = true) ∧ (∀ T, In M T → Tr T → In (outW M i) T) := by
  induction i with
  | zero => exact ⟨fun _ _ h => h, fun j hj => absurd hj (Nat.not_lt_zero _), fun T h _ => h⟩
  | succ i ih =>
    obtain ⟨h1, h2, h3⟩ := ih
    have hw := outW_wi hn h i
    have key : ∀ a b, outW M (i + 1) a b = (outW M i a b || (outW M i i b && outW M i a i)) := by
      intro a b
      simp only [outW, inW_eq]
      by_cases h6 : b < 6
      · simp [h6]
      · have hx : outW M i i b = false := by
          cases hh : outW M i i b with
          | false => rfl
          | true => have := (hw i b hh).2; omega
        simp [h6, hx]
    generalize outW M i = N at *
    refine ⟨fun a b hab => by rw [key, h1 a b hab]; rfl, ?_, ?_⟩
    · intro j hj a k haj hjk
      rw [key] at haj hjk ⊢
      simp only [Bool.or_eq_true, Bool.and_eq_true] at haj hjk ⊢
      by_cases hji : j = i
      · subst hji
        have ea : N a j = true := by rcases haj with h | h <;> simp_all
        have ek : N j k = true := by rcases hjk with h | h <;> simp_all
        exact Or.inr ⟨ek, ea⟩
      · have hlt : j < i := by omega
        have f := h2 j hlt
        rcases haj with p | ⟨p, q⟩ <;> rcases hjk with r | ⟨r, s⟩
        · exact Or.inl (f a k p r)
        · exact Or.inr ⟨r, f a i p s⟩
        · exact Or.inr ⟨f i k p r, q⟩
        · exact Or.inr ⟨r, q⟩
    · intro T hT hTr a b hab
      rw [key] at hab
      simp only [Bool.or_eq_true, Bool.and_eq_true] at hab
      rcases hab with p | ⟨p, q⟩
      · exact h3 T hT hTr a b p
      · exact hTr a i b (h3 T hT hTr a i q) (h3 T hT hTr i b p)

/-- Six rounds close it. -/
theorem outW_clo {n : Nat} (hn : n ≤ 6) {M : Nat → Nat → Bool} (h : Wi n M) : Clo M (outW M 6) := by
  obtain ⟨h1, h2, h3⟩ := outW_inv hn h 6
  refine ⟨h1, ?_, h3⟩
  intro a b c hab hbc
  exact h2 b (by have := (outW_wi hn h 6 a b hab).2; omega) a c hab hbc

/-- An entry is set. -/
def setM (M : Nat → Nat → Bool) (x y : Nat) : Nat → Nat → Bool := fun a b => M a b || (decide (a = x) && decide (b = y))
/-- Between R and its closure. -/
structure Mid (n : Nat) (R M : Nat → Nat → Bool) : Prop where
  wi : Wi n M
  has : In R M
  least : ∀ T, In R T → Tr T → In M T

theorem Mid.refl {n : Nat} {R : Nat → Nat → Bool} (h : Wi n R) : Mid n R R := ⟨h, fun _ _ h => h, fun _ h _ => h⟩
theorem Mid.set {n : Nat} {R M : Nat → Nat → Bool} (h : Mid n R M) {a b c : Nat} (h1 : M a b = true) (h2 : M b c = true) : Mid n R (setM M a c) := by
  refine ⟨?_, ?_, ?_⟩
  · intro x y hxy
    simp only [setM, Bool.or_eq_true, Bool.and_eq_true, decide_eq_true_eq] at hxy
    rcases hxy with p | ⟨p, q⟩
    · exact h.wi x y p
    · subst p; subst q; exact ⟨(h.wi _ _ h1).1, (h.wi _ _ h2).2⟩
  · intro x y hxy
    simp [setM, h.has x y hxy]
  · intro T hT hTr x y hxy
    simp only [setM, Bool.or_eq_true, Bool.and_eq_true, decide_eq_true_eq] at hxy
    rcases hxy with p | ⟨p, q⟩
    · exact h.least T hT hTr x y p
    · subst p; subst q; exact hTr _ b _ (h.least T hT hTr _ _ h1) (h.least T hT hTr _ _ h2)
theorem Mid.clo {n : Nat} {R M : Nat → Nat → Bool} (h : Mid n R M) (ht : ∀ a b c, a < n → b < n → c < n → M a b = true → M b c = true → M a c = true) : Clo R M :=
  ⟨h.has, fun a b c p q => ht a b c (h.wi a b p).1 (h.wi a b p).2 (h.wi b c q).2 p q, h.least⟩

/-- How many entries of the n rows are set. -/
def cntRow (n : Nat) (f : Nat → Bool) : Nat := ((List.range n).filter f).length
def cnt (n : Nat) (M : Nat → Nat → Bool) : Nat := ((List.range n).map fun a => cntRow n (M a)).sum

theorem filter_len_le {α : Type} (l : List α) (p q : α → Bool) (h : ∀ x, p x = true → q x = true) : (l.filter p).length ≤ (l.filter q).length := by
  induction l with
  | nil => simp
  | cons x l ih =>
    simp only [List.filter_cons]
    cases hp : p x with
    | true => simp [h x hp, ih]
    | false =>
      cases hq : q x <;> simp <;> omega
theorem filter_len_lt {α : Type} (l : List α) (p q : α → Bool) (h : ∀ x, p x = true → q x = true) (y : α) (hy : y ∈ l) (h1 : p y = false) (h2 : q y = true) : (l.filter p).length < (l.filter q).length := by
  induction l with
  | nil => simp at hy
  | cons x l ih =>
    have hle := filter_len_le l p q h
    simp only [List.filter_cons]
    rcases List.mem_cons.1 hy with rfl | hy
    · simp [h1, h2]; omega
    · have := ih hy
      cases hp : p x with
      | true => simp [h x hp, this]
      | false => cases hq : q x <;> simp <;> omega
theorem sum_map_le {α : Type} (l : List α) (f g : α → Nat) (h : ∀ x, f x ≤ g x) : (l.map f).sum ≤ (l.map g).sum := by
  induction l with
  | nil => simp
  | cons x l ih => simp only [List.map_cons, List.sum_cons]; have := h x; omega
theorem sum_map_lt {α : Type} (l : List α) (f g : α → Nat) (h : ∀ x, f x ≤ g x) (y : α) (hy : y ∈ l) (h1 : f y < g y) : (l.map f).sum < (l.map g).sum := by
  induction l with
  | nil => simp at hy
  | cons x l ih =>
    simp only [List.map_cons, List.sum_cons]
    have := h x
    have hle := sum_map_le l f g h
    rcases List.mem_cons.1 hy with rfl | hy
    · omega
    · have := ih hy; omega
theorem cnt_set {n : Nat} {M : Nat → Nat → Bool} {a c : Nat} (ha : a < n) (hc : c < n) (hf : M a c = false) : cnt n M < cnt n (setM M a c) := by
  refine sum_map_lt _ _ _ (fun x => filter_len_le _ _ _ (fun y hy => by simp [setM, hy])) a (List.mem_range.2 ha) ?_
  exact filter_len_lt _ _ _ (fun y hy => by simp [setM, hy]) c (List.mem_range.2 hc) hf (by simp [setM])
theorem cnt_le (n : Nat) (M : Nat → Nat → Bool) : cnt n M ≤ n * n := by
  unfold cnt
  have h : ∀ l : List Nat, (l.map fun a => cntRow n (M a)).sum ≤ l.length * n := by
    intro l
    induction l with
    | nil => simp
    | cons x l ih =>
      simp only [List.map_cons, List.sum_cons, List.length_cons]
      have : cntRow n (M x) ≤ n := by
        unfold cntRow
        have := List.length_filter_le (M x) (List.range n)
        simpa using this
      rw [Nat.add_mul]; omega
  have := h (List.range n)
  simpa using this

end Go.Proofs.Ytkpkbhgplpmkoaa
