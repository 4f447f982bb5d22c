/- Plain mathematics of labels: who is kept from reading, under each actor. Nothing of the program. -/
import Derived.Test.YtkpkbhgplpmkoaaWa
namespace Go.Proofs.Ytkpkbhgplpmkoaa
open Go.RowKit

/-- Bit k of a number of 64 bits, as both sides ask for it. -/
def bitI (r : Int) (k : Nat) : Bool := bits BinOp.and IntKind.i64 (r / 2 ^ k) 1 == 1
/-- Does the policy let who read: the first k readers looked at. -/
def letsTo (M : Nat → Nat → Bool) (o : Nat) (r : Int) (who : Nat) : Nat → Bool
  | 0 => M who o
  | k + 1 => letsTo M o r who k || (bitI r k && M who k)
/-- One policy keeps who from reading under k. -/
def polB (N : Nat) (M : Nat → Nat → Bool) (o r : Int) (k who : Nat) : Bool :=
  decide (k < N ∧ who < N) && (inB N o && (M o.toNat k && !letsTo M o.toNat r who N))
/-- The first i policies. -/
def outP (N : Nat) (M : Nat → Nat → Bool) (X Y : Nat → Int) : Nat → Nat → Nat → Bool
  | 0 => fun _ _ => false
  | i + 1 => fun k who => outP N M X Y i k who || polB N M (X i) (Y i) k who
/-- Within N. -/
def LW (N : Nat) (O : Nat → Nat → Bool) : Prop := ∀ k who, O k who = true → k < N ∧ who < N
theorem polB_wi (N : Nat) (M : Nat → Nat → Bool) (o r : Int) : LW N (polB N M o r) := by
  intro k who h
  simp only [polB, Bool.and_eq_true, decide_eq_true_eq] at h
  exact h.1
theorem outP_wi (N : Nat) (M : Nat → Nat → Bool) (X Y : Nat → Int) (i : Nat) : LW N (outP N M X Y i) := by
  induction i with
  | zero => intro k who h; simp [outP] at h
  | succ i ih =>
    intro k who h
    simp only [outP, Bool.or_eq_true] at h
    rcases h with h | h
    · exact ih k who h
    · exact polB_wi N M _ _ k who h

/-- The number whose bits below N are those that f has. -/
def numOf (f : Nat → Bool) : Nat → Nat
  | 0 => 0
  | n + 1 => numOf f n + if f n then 2 ^ n else 0
theorem numOf_lt (f : Nat → Bool) (n : Nat) : numOf f n < 2 ^ n := by
  induction n with
  | zero => simp [numOf]
  | succ n ih =>
    simp only [numOf]
    have : 2 ^ (n + 1) = 2 ^ n + 2 ^ n := by rw [Nat.pow_succ]; omega
    split <;> omega
theorem numOf_bit (f : Nat → Bool) (n : Nat) : ∀ k, (numOf f n).testBit k = (decide (k < n) && f k) := by
  induction n with
  | zero => intro k; simp [numOf]
  | succ n ih =>
    intro k
    simp only [numOf]
    have hl := numOf_lt f n
    cases hf : f n with
    | false =>
      simp only [Bool.false_eq_true, if_false, Nat.add_zero, ih]
      by_cases h : k = n
      · subst h; simp [hf]
      · have : decide (k < n + 1) = decide (k < n) := decide_eq_decide.2 (by omega)
        rw [this]
    | true =>
      simp only [if_true]
      have e : numOf f n + 2 ^ n = 2 ^ n * 1 ||| numOf f n := by
        rw [← Nat.two_pow_add_eq_or_of_lt hl 1]; omega
      rw [e, Nat.testBit_or, ih, Nat.mul_one, Nat.testBit_two_pow]
      by_cases h : k = n
      · subst h; simp [hf]
      · have h1 : decide (k < n + 1) = decide (k < n) := decide_eq_decide.2 (by omega)
        have h2 : decide (n = k) = false := by simp; omega
        rw [h1, h2]; simp
theorem numOf_congr {f g : Nat → Bool} {n : Nat} (h : ∀ k, k < n → f k = g k) : numOf f n = numOf g n := by
  induction n with
  | zero => rfl
  | succ n ih => simp only [numOf]; rw [ih (fun k hk => h k (by omega)), h n (by omega)]

/-- '&^' on bytes. -/
theorem andNot_bit (a b : Nat) (ha : a < 256) (hb : b < 256) : ∃ c : Nat, c ≤ a ∧ bits BinOp.andNot IntKind.u8 (a : Int) (b : Int) = (c : Int) ∧ ∀ k, c.testBit k = (a.testBit k && !b.testBit k) := by
  have e : bits BinOp.andNot IntKind.u8 (a : Int) (b : Int) = (((BitVec.ofNat 8 a) &&& ~~~ (BitVec.ofNat 8 b)).toNat : Int) := by
    have hlt := ((BitVec.ofNat 8 a) &&& ~~~ (BitVec.ofNat 8 b)).isLt
    have h1 : IntKind.u8.bits = 8 := rfl
    simp only [bits, BitVec.ofInt_natCast]
    exact wraps_u8 _ (Int.natCast_nonneg _) (by exact_mod_cast hlt)
  refine ⟨_, ?_, e, ?_⟩
  · rw [BitVec.toNat_and]
    have : (BitVec.ofNat 8 a).toNat = a := by simp; omega
    rw [this]
    exact Nat.and_le_left
  · intro k
    rw [BitVec.toNat_and, Nat.testBit_and]
    have h1 : (BitVec.ofNat 8 a).toNat = a := by simp; omega
    rw [h1]
    cases hk : a.testBit k with
    | false => rfl
    | true =>
      have hk8 : k < 8 := by
        rcases Nat.lt_or_ge k 8 with h | h
        · exact h
        · have : a.testBit k = false := Nat.testBit_lt_two_pow (Nat.lt_of_lt_of_le ha (by have := Nat.pow_le_pow_right (n := 2) (by omega) h; simpa using this))
          rw [this] at hk; simp at hk
      simp only [Bool.true_and]
      have h2 : (~~~ (BitVec.ofNat 8 b)).toNat.testBit k = !(BitVec.ofNat 8 b).toNat.testBit k := by
        have := BitVec.getLsbD_not (x := BitVec.ofNat 8 b) (i := k)
        simp only [BitVec.getLsbD, hk8, decide_true, Bool.true_and] at this
        exact this
      rw [h2]
      have h3 : (BitVec.ofNat 8 b).toNat = b := by simp; omega
      rw [h3]
/-- All below n. -/
theorem allBits (n k : Nat) : (2 ^ n - 1).testBit k = decide (k < n) := Nat.testBit_two_pow_sub_one n k
/-- A label as bytes: of each actor those that are kept from reading. -/
def Lab (L : Nat → Nat) (O : Nat → Nat → Bool) : Prop := ∀ k, k < 6 → L k < 64 ∧ ∀ who, (L k).testBit who = O k who
/-- Those that may read, as a number. -/
def rdN (N : Nat) (O : Nat → Nat → Bool) (k : Nat) : Nat := numOf (fun who => !O k who) N
theorem rdN_andNot {N : Nat} (hN : N ≤ 6) {L : Nat → Nat} {O : Nat → Nat → Bool} (h : Lab L O) {k : Nat} (hk : k < 6) : bits BinOp.andNot IntKind.u8 ((2 ^ N - 1 : Nat) : Int) (L k : Int) = (rdN N O k : Int) := by
  have hE : 2 ^ N - 1 < 256 := by
    have := Nat.pow_le_pow_right (n := 2) (by omega) hN
    omega
  obtain ⟨c, _, hc, hb⟩ := andNot_bit (2 ^ N - 1) (L k) hE (by have := (h k hk).1; omega)
  rw [hc]
  congr 1
  apply Nat.eq_of_testBit_eq
  intro j
  rw [hb, allBits, (h k hk).2, rdN, numOf_bit]
/-- Six bits: all that f has g has. -/
def sub6 (f g : Nat → Bool) : Bool := (List.range 6).all fun who => !f who || g who
theorem sub6_iff (f g : Nat → Bool) : sub6 f g = true ↔ ∀ k, k < 6 → f k = true → g k = true := by
  unfold sub6
  rw [List.all_eq_true]
  constructor
  · intro h k hk hf
    have := h k (List.mem_range.2 hk)
    rw [hf] at this; simpa using this
  · intro h k hk
    have hk := List.mem_range.1 hk
    cases hf : f k with
    | false => rfl
    | true => simp [h k hk hf]
theorem high_bit {a k : Nat} (ha : a < 64) (hk : 6 ≤ k) : a.testBit k = false :=
  Nat.testBit_lt_two_pow (Nat.lt_of_lt_of_le ha (by have := Nat.pow_le_pow_right (n := 2) (by omega) hk; simpa using this))
theorem andNot_zero (a b : Nat) (ha : a < 64) (hb : b < 64) : (bits BinOp.andNot IntKind.u8 (a : Int) (b : Int) != 0) = !sub6 a.testBit b.testBit := by
  obtain ⟨c, _, hc, hbit⟩ := andNot_bit a b (by omega) (by omega)
  rw [hc]
  cases hs : sub6 a.testBit b.testBit with
  | true =>
    have h0 : c = 0 := by
      apply Nat.eq_of_testBit_eq
      intro k
      rw [hbit, Nat.zero_testBit]
      cases hk : a.testBit k with
      | false => rfl
      | true =>
        have hk6 : k < 6 := by
          rcases Nat.lt_or_ge k 6 with h | h
          · exact h
          · rw [high_bit ha h] at hk; simp at hk
        rw [(sub6_iff _ _).1 hs k hk6 hk]; rfl
    subst h0; rfl
  | false =>
    have hne : c ≠ 0 := by
      intro h0
      have : sub6 a.testBit b.testBit = true := by
        rw [sub6_iff]
        intro k _ hk
        have := hbit k
        rw [h0, Nat.zero_testBit, hk] at this
        cases hbk : b.testBit k with
        | true => rfl
        | false => rw [hbk] at this; simp at this
      rw [hs] at this; simp at this
    have : ((c : Int) != 0) = true := by
      rw [bne_iff_ne]; omega
    rw [this]; rfl
/-- Flows. -/
def flB (O P : Nat → Nat → Bool) : Bool := (List.range 6).all fun k => sub6 (O k) (P k)
theorem flB_iff (O P : Nat → Nat → Bool) : flB O P = true ↔ ∀ k, k < 6 → ∀ who, who < 6 → O k who = true → P k who = true := by
  unfold flB
  rw [List.all_eq_true]
  constructor
  · intro h k hk
    exact (sub6_iff _ _).1 (h k (List.mem_range.2 hk))
  · intro h k hk
    exact (sub6_iff _ _).2 (h k (List.mem_range.1 hk))
theorem flB_no {O P : Nat → Nat → Bool} {k : Nat} (hk : k < 6) (h : sub6 (O k) (P k) = false) : flB O P = false := by
  cases hf : flB O P with
  | false => rfl
  | true =>
    have : sub6 (O k) (P k) = true := by
      unfold flB at hf
      rw [List.all_eq_true] at hf
      exact hf k (List.mem_range.2 hk)
    rw [this] at h; simp at h
theorem flB_yes {O P : Nat → Nat → Bool} (h : ∀ k, k < 6 → sub6 (O k) (P k) = true) : flB O P = true := by
  unfold flB
  rw [List.all_eq_true]
  exact fun k hk => h k (List.mem_range.1 hk)
/-- Reads. -/
def rdB (N : Nat) (O : Nat → Nat → Bool) (x : Int) : Bool := inB N x && (List.range 6).all fun k => !O k x.toNat
theorem rd_no {O : Nat → Nat → Bool} {k x : Nat} (hk : k < 6) (h : O k x = true) : ((List.range 6).all fun k => !O k x) = false := by
  cases hf : (List.range 6).all fun k => !O k x with
  | false => rfl
  | true =>
    rw [List.all_eq_true] at hf
    have := hf k (List.mem_range.2 hk)
    rw [h] at this; simp at this
theorem rd_yes {O : Nat → Nat → Bool} {x : Nat} (h : ∀ k, k < 6 → O k x = false) : ((List.range 6).all fun k => !O k x) = true := by
  rw [List.all_eq_true]
  intro k hk
  rw [h k (List.mem_range.1 hk)]; rfl
/-- The first of those that act for each other. -/
def firstB (M : Nat → Nat → Bool) (k : Nat) : Bool := (List.range k).all fun j => !(M j k && M k j)
theorem first_no {M : Nat → Nat → Bool} {j k : Nat} (hj : j < k) (h : (M j k && M k j) = true) : firstB M k = false := by
  cases hf : firstB M k with
  | false => rfl
  | true =>
    unfold firstB at hf
    rw [List.all_eq_true] at hf
    have := hf j (List.mem_range.2 hj)
    rw [h] at this; simp at this
theorem first_yes {M : Nat → Nat → Bool} {k : Nat} (h : ∀ j, j < k → (M j k && M k j) = false) : firstB M k = true := by
  unfold firstB
  rw [List.all_eq_true]
  intro j hj
  rw [h j (List.mem_range.1 hj)]; rfl
/-- Kept from reading by those above: the first j looked at. -/
def faTo (M O : Nat → Nat → Bool) (k who : Nat) : Nat → Bool
  | 0 => false
  | j + 1 => faTo M O k who j || ((M j k && !M k j) && O j who)
theorem faTo_wi {N : Nat} {M O : Nat → Nat → Bool} (h : LW N O) (k who : Nat) : ∀ j, faTo M O k who j = true → who < N := by
  intro j
  induction j with
  | zero => intro h; simp [faTo] at h
  | succ j ih =>
    intro h'
    simp only [faTo, Bool.or_eq_true, Bool.and_eq_true] at h'
    rcases h' with h' | h'
    · exact ih h'
    · exact (h j who h'.2).2
/-- What those above let read. -/
def restN (N : Nat) (M O : Nat → Nat → Bool) (k j : Nat) : Nat := numOf (fun who => !faTo M O k who j) N
theorem numOf_inj {f g : Nat → Bool} {n : Nat} (h : numOf f n = numOf g n) : ∀ k, k < n → f k = g k := by
  intro k hk
  have h1 := numOf_bit f n k
  have h2 := numOf_bit g n k
  rw [h, h2] at h1
  simpa [hk] using h1.symm
/-- Bytes differ just where those that may read differ. -/
theorem dif_eq {N : Nat} {O F : Nat → Bool} {a b : Nat} (hO : ∀ w, O w = true → w < N) (hF : ∀ w, F w = true → w < N) (ha : ∀ w, a.testBit w = O w) (hb : ∀ w, b.testBit w = F w) :
    ((a : Int) != (b : Int)) = (numOf (fun w => !O w) N != numOf (fun w => !F w) N) := by
  by_cases h : a = b
  · subst h
    have e : O = F := by funext w; rw [← ha, ← hb]
    subst e; simp
  · have h1 : ((a : Int) != (b : Int)) = true := by rw [bne_iff_ne]; omega
    have h2 : (numOf (fun w => !O w) N != numOf (fun w => !F w) N) = true := by
      rw [bne_iff_ne]
      intro e
      apply h
      apply Nat.eq_of_testBit_eq
      intro w
      rw [ha, hb]
      by_cases hw : w < N
      · have := numOf_inj e w hw
        cases hx : O w <;> cases hy : F w <;> simp_all
      · cases hx : O w with
        | true => exact absurd (hO w hx) hw
        | false =>
          cases hy : F w with
          | true => exact absurd (hF w hy) hw
          | false => rfl
    rw [h1, h2]
/-- The normal form: actors below k looked at. -/
def normTo (N : Nat) (M O : Nat → Nat → Bool) : Nat → List (Nat × Nat)
  | 0 => []
  | k + 1 => normTo N M O k ++ if (firstB M k && (rdN N O k != restN N M O k N)) = true then [(k, rdN N O k)] else []
theorem normTo_len (N : Nat) (M O : Nat → Nat → Bool) (k : Nat) : (normTo N M O k).length ≤ k := by
  induction k with
  | zero => simp [normTo]
  | succ k ih =>
    simp only [normTo, List.length_append]
    split <;> simp <;> omega
/-- Policies as cells. -/
def polC (l : List (Nat × Nat)) : List Value := l.flatMap fun p => [.int .i64 (p.1 : Int), .int .i64 (p.2 : Int)]
theorem polC_len (l : List (Nat × Nat)) : (polC l).length = l.length * 2 := by
  induction l with
  | nil => rfl
  | cons x l ih => simp only [polC, List.flatMap_cons, List.length_append, List.length_cons] at *; rw [ih]; simp; omega
theorem polC_snoc (l : List (Nat × Nat)) (p : Nat × Nat) : polC (l ++ [p]) = polC l ++ [.int .i64 (p.1 : Int), .int .i64 (p.2 : Int)] := by
  simp [polC]
theorem polC_get (l : List (Nat × Nat)) : ∀ i (h : i < l.length), (polC l)[i * 2]? = some (.int .i64 ((l[i]).1 : Int)) ∧ (polC l)[i * 2 + 1]? = some (.int .i64 ((l[i]).2 : Int)) := by
  induction l with
  | nil => intro i h; simp at h
  | cons x l ih =>
    intro i h
    cases i with
    | zero => simp [polC]
    | succ i =>
      have := ih i (by simpa using h)
      have e : polC (x :: l) = [.int .i64 (x.1 : Int), .int .i64 (x.2 : Int)] ++ polC l := by simp [polC]
      have e1 : (i + 1) * 2 = i * 2 + 2 := by omega
      rw [e, e1, List.getElem?_append_right (by simp), List.getElem?_append_right (by simp)]
      simpa using this
end Go.Proofs.Ytkpkbhgplpmkoaa
