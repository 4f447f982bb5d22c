import Derived.Test.YtkpkbhgplpmkoaaWa
namespace Go.Proofs.Ytkpkbhgplpmkoaa
open Go.RowKit

/-- Columns as bits. -/
def Col (A : Nat → Nat) (M : Nat → Nat → Bool) : Prop := ∀ b, b < 6 → A b < 64 ∧ ∀ a, (A b).testBit a = M a b
def upd (A : Nat → Nat) (k v : Nat) : Nat → Nat := fun j => if j = k then v else A j
theorem Col.step_yes {A : Nat → Nat} {M : Nat → Nat → Bool} {i k : Nat} (h : Col A (inW i M k)) (hi : i < 6) (hk : k < 6) (ht : (A k).testBit i = true) : Col (upd A k (A k ||| A i)) (inW i M (k + 1)) := by
  intro b hb
  have h1 := h b hb
  have h2 := h i hi
  have h3 := h k hk
  simp only [upd, inW, stepW]
  by_cases hbk : b = k
  · subst hbk
    simp only [if_true]
    refine ⟨Nat.or_lt_two_pow (n := 6) h1.1 h2.1, fun a => ?_⟩
    have e := h1.2 i
    rw [Nat.testBit_or, h1.2, h2.2, ← e, ht]
    simp
  · simp only [hbk, if_false]
    exact h1
theorem Col.step_no {A : Nat → Nat} {M : Nat → Nat → Bool} {i k : Nat} (h : Col A (inW i M k)) (hk : k < 6) (ht : (A k).testBit i = false) : Col A (inW i M (k + 1)) := by
  intro b hb
  have h1 := h b hb
  have h3 := h k hk
  simp only [inW, stepW]
  by_cases hbk : b = k
  · subst hbk
    simp only [if_true]
    refine ⟨h1.1, fun a => ?_⟩
    have e := h1.2 i
    rw [h1.2, ← e, ht]; simp
  · simp only [hbk, if_false]
    exact h1

/-- Six bytes in a block, that may be written. -/
def Six (w : World) (B o : Nat) (A : Nat → Nat) : Prop := ∀ j, j < 6 → w.cell? ⟨B, o + j, none⟩ = some (.int .u8 (A j : Int)) ∧ w.frozen? ⟨B, o + j, none⟩ = false
theorem Six.drew {w : World} {B o : Nat} {A : Nat → Nat} (h : Six w B o A) : Six w.drew B o A := h
theorem Six.set {w : World} {B o : Nat} {A : Nat → Nat} (h : Six w B o A) {k v : Nat} (hk : k < 6) : Six (w.setCell ⟨B, o + k, none⟩ (.int .u8 (v : Int))) B o (upd A k v) := by
  intro j hj
  refine ⟨?_, by simpa using (h j hj).2⟩
  by_cases e : j = k
  · subst e
    rw [World.cell?_setCell_same _ _ _ (h j hj).1]; simp [upd]
  · rw [World.cell?_setCell_other _ _ _ _ (by intro e'; injection e' with _ e2 _; omega)]
    simp only [upd, e, if_false]; exact (h j hj).1
theorem grownBy_set {W w : World} {B o : Nat} {v : Value} (h : W.grownBy w (some B)) : W.grownBy (w.setCell ⟨B, o, none⟩ v) (some B) :=
  ⟨h.os, h.tape, h.output, by simpa [World.setCell] using h.size, fun k hk hne => by
    rw [Below.heap_setCell _ _ _ _ (by intro e; exact hne (by simp at e; rw [e]))]; exact h.block k hk hne⟩
theorem grownBy_drew {W w : World} {r : Option Nat} (h : W.grownBy w r) : W.grownBy w.drew r := ⟨h.os, h.tape, h.output, h.size, h.block⟩
theorem grownBy_refl (W : World) (r : Option Nat) : W.grownBy W r := ⟨rfl, rfl, rfl, Nat.le_refl _, fun _ _ _ => rfl⟩

/-- Six stores, one behind the other. -/
def put6 (w : World) (b o : Nat) (A : Nat → Nat) : World :=
  (((((w.setCell ⟨b, o, none⟩ (.int .u8 (A 0 : Int))).setCell ⟨b, o + 1, none⟩ (.int .u8 (A 1 : Int))).setCell ⟨b, o + 2, none⟩ (.int .u8 (A 2 : Int))).setCell ⟨b, o + 3, none⟩ (.int .u8 (A 3 : Int))).setCell ⟨b, o + 4, none⟩ (.int .u8 (A 4 : Int))).setCell ⟨b, o + 5, none⟩ (.int .u8 (A 5 : Int))
theorem Six.put {w : World} {b o : Nat} {C : Nat → Nat} (h : Six w b o C) (A : Nat → Nat) : Six (put6 w b o A) b o A := by
  have h5 : Six (put6 w b o A) b o (upd (upd (upd (upd (upd (upd C 0 (A 0)) 1 (A 1)) 2 (A 2)) 3 (A 3)) 4 (A 4)) 5 (A 5)) :=
    ((((((h.set (k := 0) (v := A 0) (by omega)).set (k := 1) (v := A 1) (by omega)).set (k := 2) (v := A 2) (by omega)).set (k := 3) (v := A 3) (by omega)).set (k := 4) (v := A 4) (by omega)).set (k := 5) (v := A 5) (by omega))
  intro j hj
  refine ⟨(h5 j hj).1.trans ?_, (h5 j hj).2⟩
  have e : upd (upd (upd (upd (upd (upd C 0 (A 0)) 1 (A 1)) 2 (A 2)) 3 (A 3)) 4 (A 4)) 5 (A 5) j = A j := by
    simp only [upd]
    match j, hj with
    | 0, _ => rfl
    | 1, _ => rfl
    | 2, _ => rfl
    | 3, _ => rfl
    | 4, _ => rfl
    | 5, _ => rfl
  rw [e]
theorem below_put {B b o : Nat} {a w : World} (h : Below B a w) (hb : B ≤ b) (A : Nat → Nat) : Below B a (put6 w b o A) :=
  (((((h.setCell hb _).setCell hb _).setCell hb _).setCell hb _).setCell hb _).setCell hb _

set_option maxHeartbeats 1000000 in
theorem closed_any (A : Nat → Nat) (M : Nat → Nat → Bool) (hA : Col A M) (w : World) :
    Calls Try.prog 46 #[.agg #[.int .u8 (A 0 : Int), .int .u8 (A 1 : Int), .int .u8 (A 2 : Int), .int .u8 (A 3 : Int), .int .u8 (A 4 : Int), .int .u8 (A 5 : Int)]] w fun e w' =>
      ∃ A' : Nat → Nat, e = .returned (.agg #[.int .u8 (A' 0 : Int), .int .u8 (A' 1 : Int), .int .u8 (A' 2 : Int), .int .u8 (A' 3 : Int), .int .u8 (A' 4 : Int), .int .u8 (A' 5 : Int)]) ∧ Col A' (outW M 6) ∧ Below w.heap.size w w' := by
  go_enter Try.func46, Try.ntmps46
  go_wp2
  have hW1 : Six ((w.alloc (.cells #[.int .u8 (A 0 : Int), .int .u8 (A 1 : Int), .int .u8 (A 2 : Int), .int .u8 (A 3 : Int), .int .u8 (A 4 : Int), .int .u8 (A 5 : Int)] 65)).alloc (.cells #[.int .u8 0, .int .u8 0, .int .u8 0, .int .u8 0, .int .u8 0, .int .u8 0] 65)) (w.heap.size + 1) 0 (fun _ => 0) := by
    intro j hj
    match j, hj with
    | 0, _ => simp
    | 1, _ => simp
    | 2, _ => simp
    | 3, _ => simp
    | 4, _ => simp
    | 5, _ => simp
  have hW0 : Six ((w.alloc (.cells #[.int .u8 (A 0 : Int), .int .u8 (A 1 : Int), .int .u8 (A 2 : Int), .int .u8 (A 3 : Int), .int .u8 (A 4 : Int), .int .u8 (A 5 : Int)] 65)).alloc (.cells #[.int .u8 0, .int .u8 0, .int .u8 0, .int .u8 0, .int .u8 0, .int .u8 0] 65)) w.heap.size 0 A := by
    intro j hj
    match j, hj with
    | 0, _ => simp
    | 1, _ => simp
    | 2, _ => simp
    | 3, _ => simp
    | 4, _ => simp
    | 5, _ => simp
  have hWb : Below w.heap.size w ((w.alloc (.cells #[.int .u8 (A 0 : Int), .int .u8 (A 1 : Int), .int .u8 (A 2 : Int), .int .u8 (A 3 : Int), .int .u8 (A 4 : Int), .int .u8 (A 5 : Int)] 65)).alloc (.cells #[.int .u8 0, .int .u8 0, .int .u8 0, .int .u8 0, .int .u8 0, .int .u8 0] 65)) := by go_grown
  have hWs : w.heap.size + 1 < ((w.alloc (.cells #[.int .u8 (A 0 : Int), .int .u8 (A 1 : Int), .int .u8 (A 2 : Int), .int .u8 (A 3 : Int), .int .u8 (A 4 : Int), .int .u8 (A 5 : Int)] 65)).alloc (.cells #[.int .u8 0, .int .u8 0, .int .u8 0, .int .u8 0, .int .u8 0, .int .u8 0] 65)).heap.size := by simp
  generalize ((w.alloc (.cells #[.int .u8 (A 0 : Int), .int .u8 (A 1 : Int), .int .u8 (A 2 : Int), .int .u8 (A 3 : Int), .int .u8 (A 4 : Int), .int .u8 (A 5 : Int)] 65)).alloc (.cells #[.int .u8 0, .int .u8 0, .int .u8 0, .int .u8 0, .int .u8 0, .int .u8 0] 65)) = W at *
  generalize hB : w.heap.size = B at *
  have HB := hide hB
  clear hB
  go_loopw [5] (fun t wr => ∃ (i : Nat) (A' : Nat → Nat), i ≤ 6 ∧ t = .int .i64 (i : Int) ∧ Col A' (outW M i) ∧ Six wr B 0 A' ∧ W.grownBy wr (some B)) (fun t _ => 6 - (intOf t).toNat)
  case atStart => exact ⟨0, A, by omega, rfl, hA, hW0, grownBy_refl _ _⟩
  case round =>
    obtain ⟨i, A', hi, rfl, hC, hS, hG⟩ := hrel
    by_cases hlt : i < 6
    · have b3 : (0 : Int) ≤ (i : Int) := by omega
      have b4 : (i : Int) < 6 := by omega
      go_wp2
      go_loopw [8] (fun t ws => ∃ (k : Nat) (A1 : Nat → Nat), k ≤ 6 ∧ t = .int .i64 (k : Int) ∧ Col A1 (inW i (outW M i) k) ∧ Six ws B 0 A1 ∧ W.grownBy ws (some B)) (fun t _ => 6 - (intOf t).toNat)
      case atStart => exact ⟨0, A', by omega, rfl, hC, hS, hG⟩
      case round =>
        obtain ⟨k, A1, hk, rfl, hC1, hS1, hG1⟩ := hrel
        by_cases hlk : k < 6
        · have ck : wr.cell? ⟨B, k, none⟩ = some (.int .u8 (A1 k : Int)) := by simpa using (hS1 k hlk).1
          have fk : wr.frozen? ⟨B, k, none⟩ = false := by simpa using (hS1 k hlk).2
          have ci : wr.cell? ⟨B, i, none⟩ = some (.int .u8 (A1 i : Int)) := by simpa using (hS1 i hlt).1
          have b1 : (0 : Int) ≤ (k : Int) := by omega
          have b2 : (k : Int) < 6 := by omega
          have l1 := (hC1 k hlk).1
          have l2 := (hC1 i hlt).1
          cases ht : (A1 k).testBit i with
          | true =>
            have Hor := hide (or_u8 (A1 k) (A1 i) (by omega) (by omega))
            have Ht := hide ht
            clear ht
            go_wp2_with fail
            refine (has_any (A1 k) i _ (by omega) (by omega)).mono ?_
            rintro e w1 ⟨rfl, rfl⟩
            rw [unhide Ht]
            go_wp2
            go_region
            all_goals go_wp2
            all_goals go_roundw
            case rel =>
              rw [unhide Hor]
              exact ⟨k + 1, _, by omega, by go_num, hC1.step_yes hlt hlk (unhide Ht), by simpa using (hS1.set (v := A1 k ||| A1 i) hlk).drew, grownBy_drew (grownBy_set hG1)⟩
            case measure => simp [intOf]; omega
          | false =>
            have Ht := hide ht
            clear ht
            go_wp2_with fail
            refine (has_any (A1 k) i _ (by omega) (by omega)).mono ?_
            rintro e w1 ⟨rfl, rfl⟩
            rw [unhide Ht]
            go_wp2
            go_roundw
            case rel => exact ⟨k + 1, A1, by omega, by go_num, hC1.step_no hlk (unhide Ht), hS1, hG1⟩
            case measure => simp [intOf]; omega
        · have hk6 : k = 6 := by omega
          subst hk6
          go_wp2
          go_roundw
          case rel => exact ⟨i + 1, A1, by omega, by go_num, hC1, hS1, hG1⟩
          case measure => simp [intOf]; omega
    · have hi6 : i = 6 := by omega
      subst hi6
      have g := fun j (hj : j < 6) => (hS j hj).1
      have c0 : wr.cell? ⟨B, 0, none⟩ = some (.int .u8 (A' 0 : Int)) := g 0 (by omega)
      have c1 : wr.cell? ⟨B, 1, none⟩ = some (.int .u8 (A' 1 : Int)) := g 1 (by omega)
      have c2 : wr.cell? ⟨B, 2, none⟩ = some (.int .u8 (A' 2 : Int)) := g 2 (by omega)
      have c3 : wr.cell? ⟨B, 3, none⟩ = some (.int .u8 (A' 3 : Int)) := g 3 (by omega)
      have c4 : wr.cell? ⟨B, 4, none⟩ = some (.int .u8 (A' 4 : Int)) := g 4 (by omega)
      have c5 : wr.cell? ⟨B, 5, none⟩ = some (.int .u8 (A' 5 : Int)) := g 5 (by omega)
      have q : ∀ j, j < 6 → wr.cell? ⟨B + 1, j, none⟩ = some (.int .u8 0) := fun j hj => hG.cell (by simpa using (hW1 j hj).1) (by simp)
      have r : ∀ j, j < 6 → wr.frozen? ⟨B + 1, j, none⟩ = false := fun j hj => (World.frozen?_of_block (hG.block (B + 1) hWs (by simp))).trans (by simpa using (hW1 j hj).2)
      have d0 := q 0 (by omega)
      have d1 := q 1 (by omega)
      have d2 := q 2 (by omega)
      have d3 := q 3 (by omega)
      have d4 := q 4 (by omega)
      have d5 := q 5 (by omega)
      have e0 := r 0 (by omega)
      have e1 := r 1 (by omega)
      have e2 := r 2 (by omega)
      have e3 := r 3 (by omega)
      have e4 := r 4 (by omega)
      have e5 := r 5 (by omega)
      clear q r g
      go_wp2
      have hS2 : Six (put6 wr (B + 1) 0 A') (B + 1) 0 A' := by
        refine Six.put (C := fun _ => 0) ?_ A'
        intro j hj
        match j, hj with
        | 0, _ => exact ⟨d0, e0⟩
        | 1, _ => exact ⟨d1, e1⟩
        | 2, _ => exact ⟨d2, e2⟩
        | 3, _ => exact ⟨d3, e3⟩
        | 4, _ => exact ⟨d4, e4⟩
        | 5, _ => exact ⟨d5, e5⟩
      have s0 : (put6 wr (B + 1) 0 A').cell? ⟨B + 1, 0, none⟩ = _ := (hS2 0 (by omega)).1
      have s1 : (put6 wr (B + 1) 0 A').cell? ⟨B + 1, 1, none⟩ = _ := (hS2 1 (by omega)).1
      have s2 : (put6 wr (B + 1) 0 A').cell? ⟨B + 1, 2, none⟩ = _ := (hS2 2 (by omega)).1
      have s3 : (put6 wr (B + 1) 0 A').cell? ⟨B + 1, 3, none⟩ = _ := (hS2 3 (by omega)).1
      have s4 : (put6 wr (B + 1) 0 A').cell? ⟨B + 1, 4, none⟩ = _ := (hS2 4 (by omega)).1
      have s5 : (put6 wr (B + 1) 0 A').cell? ⟨B + 1, 5, none⟩ = _ := (hS2 5 (by omega)).1
      change bodyPost Try.prog Try.f46 _ _ _ (put6 wr (B + 1) 0 A')
      refine bodyPost_ret (v := .agg #[.int .u8 (A' 0 : Int), .int .u8 (A' 1 : Int), .int .u8 (A' 2 : Int), .int .u8 (A' 3 : Int), .int .u8 (A' 4 : Int), .int .u8 (A' 5 : Int)]) (by simp [results, Try.results46, go_sem, s0, s1, s2, s3, s4, s5]) rfl ⟨A', rfl, hC, ?_⟩
      rw [unhide HB]
      exact below_put (hWb.grown hG (by omega) (by intro k e; injection e with e; omega)) (by omega) A'
end Go.Proofs.Ytkpkbhgplpmkoaa
