import Derived.Test.YtkpkbhgplpmkoaaProg
import Derived.Test.YtkpkbhgplpmkoaaBits
import Derived.Handy
import Derived.WalkSpells
import Derived.WalkLawsBesides
namespace Go.Proofs.Ytkpkbhgplpmkoaa
open Go.RowKit
set_option maxHeartbeats 400000 in
theorem has_any (s k : Nat) (w : World) (hs : s < 256) (hk : k < 8) :
    Calls Try.prog 47 #[.int .u8 (s : Int), .int .i64 (k : Int)] w fun e w' => e = .returned (.bool (s.testBit k)) ∧ w' = w := by
  go_enter Try.func47, Try.ntmps47
  go_wp2
  go_ret
  refine ⟨?_, rfl⟩
  rw [← has_bit s k hs]; rfl

set_option maxHeartbeats 400000 in
theorem isActor_any (n : Int) (v1 v2 v3 v4 v5 v6 : Value) (k : Int) (w : World) :
    Calls Try.prog 45 #[.agg #[.int .i64 n, v1, v2, v3, v4, v5, v6], .int .i64 k] w fun e w' => e = .returned (.bool (decide (0 ≤ k ∧ k < n))) ∧ Below w.heap.size w w' := by
  by_cases h0 : 0 ≤ k
  · by_cases h1 : k < n
    · go_enter Try.func45, Try.ntmps45
      go_wp2
      go_ret
      exact ⟨by simp [h0, h1], (Below.refl _ _).alloc (Nat.le_refl _) _⟩
    · go_enter Try.func45, Try.ntmps45
      go_wp2
      go_ret
      exact ⟨by simp [h1], (Below.refl _ _).alloc (Nat.le_refl _) _⟩
  · have hd : decide (0 ≤ k ∧ k < n) = false := by simp; omega
    go_enter Try.func45, Try.ntmps45
    go_wp2
    go_ret
    exact ⟨rfl, (Below.refl _ _).alloc (Nat.le_refl _) _⟩

/-- The cells of an order. -/
abbrev ordC (n : Nat) (A : Nat → Nat) : Array Value := #[.int .i64 (n : Int), .int .u8 (A 0 : Int), .int .u8 (A 1 : Int), .int .u8 (A 2 : Int), .int .u8 (A 3 : Int), .int .u8 (A 4 : Int), .int .u8 (A 5 : Int)]
def inB (n : Nat) (a : Int) : Bool := decide (0 ≤ a ∧ a < n)
def ovB (n : Nat) (A : Nat → Nat) (a b : Int) : Bool := inB n a && (inB n b && (A b.toNat).testBit a.toNat)
theorem bcell {W w1 : World} (hb : Below W.heap.size W w1) : (∀ b o, b < W.heap.size → w1.cell? ⟨b, o, none⟩ = W.cell? ⟨b, o, none⟩) ∧ (∀ b o, b < W.heap.size → w1.frozen? ⟨b, o, none⟩ = W.frozen? ⟨b, o, none⟩) :=
  ⟨fun b o h => hb.cell (p := ⟨b, o, none⟩) h, fun b o h => hb.frozen (p := ⟨b, o, none⟩) h⟩
theorem isActor_B (n : Nat) (v1 v2 v3 v4 v5 v6 : Value) (k : Int) (w : World) (t : Bool) (ht : inB n k = t) :
    Calls Try.prog 45 #[.agg #[.int .i64 (n : Int), v1, v2, v3, v4, v5, v6], .int .i64 k] w fun e w' => e = .returned (.bool t) ∧ Below w.heap.size w w' := by
  subst ht; exact isActor_any n v1 v2 v3 v4 v5 v6 k w

set_option maxHeartbeats 400000 in
theorem over_any (n : Nat) (hn : n ≤ 6) (A : Nat → Nat) (hA : ∀ k, k < 6 → A k < 256) (a b : Int) (w : World) :
    Calls Try.prog 38 #[.agg (ordC n A), .int .i64 a, .int .i64 b] w fun e w' => e = .returned (.bool (ovB n A a b)) ∧ Below w.heap.size w w' := by
  have hc0 : ∀ k : Nat, k < 6 → (w.alloc (.cells (ordC n A) 67)).cell? ⟨w.heap.size, 1 + k, none⟩ = some (.int .u8 (A k : Int)) := by
    intro k hk
    match k, hk with
    | 0, _ => simp [ordC]
    | 1, _ => simp [ordC]
    | 2, _ => simp [ordC]
    | 3, _ => simp [ordC]
    | 4, _ => simp [ordC]
    | 5, _ => simp [ordC]
  have HC := hide hc0
  clear hc0
  cases ha : inB n a with
  | false =>
    have hov : ovB n A a b = false := by simp [ovB, ha]
    have Ha := hide ha
    clear ha
    go_enter Try.func38, Try.ntmps38
    go_wp2_with fail
    refine (isActor_B n _ _ _ _ _ _ a _ false (unhide Ha)).mono ?_
    rintro e w1 ⟨rfl, hb1⟩
    go_wp2
    go_ret
    exact ⟨by rw [hov]; rfl, ((Below.refl _ _).alloc (Nat.le_refl _) _).trans (hb1.mono (by simp))⟩
  | true =>
    cases hb : inB n b with
    | false =>
      have hov : ovB n A a b = false := by simp [ovB, hb]
      have Ha := hide ha
      have Hb := hide hb
      clear ha hb
      go_enter Try.func38, Try.ntmps38
      go_wp2_with fail
      refine (isActor_B n _ _ _ _ _ _ a _ true (unhide Ha)).mono ?_
      rintro e w1 ⟨rfl, hb1⟩
      obtain ⟨hc1, hf1⟩ := bcell hb1
      go_wp2_with fail
      refine (isActor_B n _ _ _ _ _ _ b _ false (unhide Hb)).mono ?_
      rintro e w2 ⟨rfl, hb2⟩
      go_wp2
      go_ret
      exact ⟨by rw [hov]; rfl, (((Below.refl _ _).alloc (Nat.le_refl _) _).trans (hb1.mono (by simp))).trans (hb2.mono (by have := hb1.size; simp at this; omega))⟩
    | true =>
      obtain ⟨x, rfl⟩ : ∃ x : Nat, a = x := Int.eq_ofNat_of_zero_le (by simp [inB] at ha; exact ha.1)
      obtain ⟨y, rfl⟩ : ∃ x : Nat, b = x := Int.eq_ofNat_of_zero_le (by simp [inB] at hb; exact hb.1)
      have hx : x < n := by simp [inB] at ha; omega
      have hy : y < n := by simp [inB] at hb; omega
      have hov : ovB n A x y = (A y).testBit x := by simp [ovB, ha, hb]
      have Ha := hide ha
      have Hb := hide hb
      clear ha hb
      go_enter Try.func38, Try.ntmps38
      go_wp2_with fail
      refine (isActor_B n _ _ _ _ _ _ x _ true (unhide Ha)).mono ?_
      rintro e w1 ⟨rfl, hb1⟩
      have hz1 : w.heap.size < w1.heap.size := by have := hb1.size; simp at this; omega
      obtain ⟨hc1, hf1⟩ := bcell hb1
      go_wp2_with fail
      refine (isActor_B n _ _ _ _ _ _ y _ true (unhide Hb)).mono ?_
      rintro e w2 ⟨rfl, hb2⟩
      obtain ⟨hc2, hf2⟩ := bcell hb2
      have hcy : w2.cell? ⟨w.heap.size, 1 + y, none⟩ = some (.int .u8 (A y : Int)) := by
        rw [hc2 _ _ hz1, hc1 _ _ (by simp)]; exact unhide HC y (by omega)
      clear hc1 hf1 hc2 hf2
      go_wp2_with fail
      refine (has_any (A y) x _ (hA y (by omega)) (by omega)).mono ?_
      rintro e w3 ⟨rfl, rfl⟩
      go_wp2
      go_ret
      exact ⟨by rw [hov]; rfl, (((Below.refl _ _).alloc (Nat.le_refl _) _).trans (hb1.mono (by simp))).trans (hb2.mono (by omega))⟩
end Go.Proofs.Ytkpkbhgplpmkoaa
