import Derived.Test.YtkpkbhgplpmkoaaLb
namespace Go.Proofs.Ytkpkbhgplpmkoaa
open Go.RowKit

theorem Col.lt256 {A : Nat → Nat} {M : Nat → Nat → Bool} (h : Col A M) : ∀ k, k < 6 → A k < 256 := fun k hk => by have := (h k hk).1; omega
theorem ov_M {N : Nat} (hN : N ≤ 6) {A : Nat → Nat} {M : Nat → Nat → Bool} (hA : Col A M) {a b : Nat} (ha : a < N) (hb : b < N) : ovB N A (a : Int) (b : Int) = M a b := by
  simp [ovB, inB, ha, hb, (hA b (by omega)).2]
set_option maxHeartbeats 400000 in
theorem over_M (N : Nat) (hN : N ≤ 6) (A : Nat → Nat) (M : Nat → Nat → Bool) (hA : Col A M) (a b : Nat) (ha : a < N) (hb : b < N) (t : Bool) (ht : M a b = t) (w : World) :
    Calls Try.prog 38 #[.agg (ordC N A), .int .i64 (a : Int), .int .i64 (b : Int)] w fun e w' => e = .returned (.bool t) ∧ Below w.heap.size w w' := by
  have := over_any N hN A hA.lt256 (a : Int) (b : Int) w
  rw [ov_M hN hA ha hb, ht] at this
  exact this

set_option maxHeartbeats 1000000 in
theorem fromAbove_any (N : Nat) (hN : N ≤ 6) (A : Nat → Nat) (M : Nat → Nat → Bool) (hA : Col A M) (l : Nat → Nat) (O : Nat → Nat → Bool) (hl : Lab l O) (k : Nat) (hk : k < N) (w : World) :
    Calls Try.prog 49 #[.agg (ordC N A), .agg (labC l), .int .i64 (k : Int)] w fun e w' => ∃ f : Nat, e = .returned (.int .u8 (f : Int)) ∧ f < 64 ∧ (∀ who, f.testBit who = faTo M O k who N) ∧ Below w.heap.size w w' := by
  have hB : Below w.heap.size w ((w.alloc (.cells (ordC N A) 67)).alloc (.cells (labC l) 73)) := by go_grown
  have h1 := (Ord.new w N A 67).alloc (.cells (labC l) 73)
  have h2 := Six.new' (w.alloc (.cells (ordC N A) 67)) l 73 (w.heap.size + 1) (by simp)
  go_enter Try.func49, Try.ntmps49
  go_wp2
  generalize ((w.alloc (.cells (ordC N A) 67)).alloc (.cells (labC l) 73)) = W at *
  generalize hs : w.heap.size = B at *
  have Hs := hide hs
  clear hs
  go_loopw [7, 11] (fun s t wr => ∃ (j f : Nat), j ≤ N ∧ t = .int .i64 (j : Int) ∧ s = .int .u8 (f : Int) ∧ f < 64 ∧ Hid (∀ who, f.testBit who = faTo M O k who j) ∧ Ord wr B N A ∧ Six wr (B + 1) 0 l ∧ Below B w wr) (fun _ t _ => N - (intOf t).toNat)
  case atStart => exact ⟨0, 0, by omega, rfl, rfl, by omega, fun who => by simp [faTo], h1, h2, hB⟩
  case round =>
    clear h1 h2 hB
    obtain ⟨j, f, hj, rfl, rfl, hf, Hq, h1, h2, hB⟩ := hrel
    by_cases hlt : j < N
    · have b1 : (0 : Int) ≤ (j : Int) := by omega
      have b2 : (j : Int) < (N : Int) := by omega
      have b3 : (j : Int) < 6 := by omega
      have hsz1 := h1.lt
      obtain ⟨c0, c1, c2, c3, c4, c5, c6⟩ := h1.cells
      cases ha : M j k with
      | false =>
        have Ha := hide ha
        clear ha
        go_wp2_with fail
        refine (over_M N hN A M hA j k hlt hk false (unhide Ha) _).mono ?_
        rintro e w1 ⟨rfl, hb1⟩
        have h1' := h1.later hb1
        have h2' := h2.later hb1
        have hB' := hB.trans (hb1.mono (by omega))
        clear c0 c1 c2 c3 c4 c5 c6 h1 h2 hB hb1
        go_wp2
        go_roundw
        case rel => exact ⟨j + 1, f, by omega, by go_num, rfl, hf, fun who => by simp only [faTo, unhide Ha]; rw [unhide Hq who]; simp, h1', h2', hB'⟩
        case measure => simp [intOf]; omega
      | true =>
        have Ha := hide ha
        clear ha
        cases hb : M k j with
        | true =>
          have Hb := hide hb
          clear hb
          go_wp2_with fail
          refine (over_M N hN A M hA j k hlt hk true (unhide Ha) _).mono ?_
          rintro e w1 ⟨rfl, hb1⟩
          have h1' := h1.later hb1
          have h2' := h2.later hb1
          have hB' := hB.trans (hb1.mono (by omega))
          have hs1 := hb1.size
          clear c0 c1 c2 c3 c4 c5 c6 h1 h2 hB hb1
          obtain ⟨c0, c1, c2, c3, c4, c5, c6⟩ := h1'.cells
          go_wp2_with fail
          refine (over_M N hN A M hA k j hk hlt true (unhide Hb) _).mono ?_
          rintro e w2 ⟨rfl, hb2⟩
          have h1'' := h1'.later hb2
          have h2'' := h2'.later hb2
          have hB'' := hB'.trans (hb2.mono (by omega))
          clear c0 c1 c2 c3 c4 c5 c6 h1' h2' hB' hb2
          go_wp2
          go_roundw
          case rel => exact ⟨j + 1, f, by omega, by go_num, rfl, hf, fun who => by simp only [faTo, unhide Hb]; rw [unhide Hq who]; simp, h1'', h2'', hB''⟩
          case measure => simp [intOf]; omega
        | false =>
          have Hb := hide hb
          clear hb
          go_wp2_with fail
          refine (over_M N hN A M hA j k hlt hk true (unhide Ha) _).mono ?_
          rintro e w1 ⟨rfl, hb1⟩
          have h1' := h1.later hb1
          have h2' := h2.later hb1
          have hB' := hB.trans (hb1.mono (by omega))
          have hs1 := hb1.size
          clear c0 c1 c2 c3 c4 c5 c6 h1 h2 hB hb1
          obtain ⟨c0, c1, c2, c3, c4, c5, c6⟩ := h1'.cells
          go_wp2_with fail
          refine (over_M N hN A M hA k j hk hlt false (unhide Hb) _).mono ?_
          rintro e w2 ⟨rfl, hb2⟩
          have h1'' := h1'.later hb2
          have h2'' := h2'.later hb2
          have hB'' := hB'.trans (hb2.mono (by omega))
          clear c0 c1 c2 c3 c4 c5 c6 h1' h2' hB' hb2
          have cj : w2.cell? ⟨B + 1, j, none⟩ = some (.int .u8 (l j : Int)) := by simpa using (h2'' j (by omega)).1
          have Hor := hide (or_u8 f (l j) (by omega) (by have := (hl j (by omega)).1; omega))
          go_wp2
          go_roundw
          case rel =>
            rw [unhide Hor]
            refine ⟨j + 1, f ||| l j, by omega, by go_num, rfl, Nat.or_lt_two_pow (n := 6) hf (hl j (by omega)).1, fun who => ?_, h1'', h2'', hB''⟩
            simp only [faTo, unhide Ha, unhide Hb]
            rw [Nat.testBit_or, unhide Hq who, (hl j (by omega)).2]; simp
          case measure => simp [intOf]; omega
    · have hjN : j = N := by omega
      subst hjN
      go_wp2
      go_ret
      exact ⟨f, rfl, hf, unhide Hq, by rw [unhide Hs]; exact hB⟩

set_option maxHeartbeats 1000000 in
theorem letRead_any (N : Nat) (hN : N ≤ 6) (A : Nat → Nat) (M : Nat → Nat → Bool) (hA : Col A M) (o : Nat) (ho : o < N) (r : Int) (w : World) :
    Calls Try.prog 53 #[.agg (ordC N A), .agg #[.int .i64 (o : Int), .int .i64 r]] w fun e w' => ∃ f : Nat, e = .returned (.int .u8 (f : Int)) ∧ f < 64 ∧ (∀ who, f.testBit who = letsTo M o r who N) ∧ Below w.heap.size w w' := by
  have hB : Below w.heap.size w ((w.alloc (.cells (ordC N A) 67)).alloc (.cells #[.int .i64 (o : Int), .int .i64 r] 61)) := by go_grown
  have h1 := (Ord.new w N A 67).alloc (.cells #[.int .i64 (o : Int), .int .i64 r] 61)
  have h2 : ((w.alloc (.cells (ordC N A) 67)).alloc (.cells #[.int .i64 (o : Int), .int .i64 r] 61)).cell? ⟨w.heap.size + 1, 0, none⟩ = some (.int .i64 (o : Int)) := by simp
  have h3 : ((w.alloc (.cells (ordC N A) 67)).alloc (.cells #[.int .i64 (o : Int), .int .i64 r] 61)).cell? ⟨w.heap.size + 1, 1, none⟩ = some (.int .i64 r) := by simp
  have Hall := hide (And.intro hB (And.intro h1 (And.intro h2 h3)))
  clear hB h1 h2 h3
  have b1 : (0 : Int) ≤ (o : Int) := by omega
  have b2 : (o : Int) < 6 := by omega
  go_enter Try.func53, Try.ntmps53
  go_upto_region 1 with fail
  obtain ⟨hB, h1, h2, h3⟩ := unhide Hall
  clear Hall
  generalize ((w.alloc (.cells (ordC N A) 67)).alloc (.cells #[.int .i64 (o : Int), .int .i64 r] 61)) = W at *
  generalize hs : w.heap.size = B at *
  have Hs := hide hs
  clear hs
  have c0 := h1.c0
  have co := (h1.six o (by omega)).1
  go_wp2
  clear c0 co
  go_loopw [5, 14] (fun s t wr => ∃ (j f : Nat), j ≤ N ∧ t = .int .i64 (j : Int) ∧ s = .int .u8 (f : Int) ∧ f < 64 ∧ Hid (∀ who, f.testBit who = letsTo M o r who j) ∧ W = wr) (fun _ t _ => N - (intOf t).toNat)
  case atStart => exact ⟨0, A o, by omega, rfl, rfl, (hA o (by omega)).1, fun who => (hA o (by omega)).2 who, rfl⟩
  case round =>
    obtain ⟨j, f, hj, rfl, rfl, hf, Hq, rfl⟩ := hrel
    by_cases hlt : j < N
    · have b3 : (0 : Int) ≤ (j : Int) := by omega
      have b4 : (j : Int) < (N : Int) := by omega
      have b5 : (j : Int) < 6 := by omega
      cases hb : bitI r j with
      | false =>
        have Hb := hide hb
        have hb2 : (bits BinOp.and IntKind.i64 (r / 2 ^ j) 1 == 1) = false := hb
        clear hb
        go_wp2
        go_roundw
        case rel => exact ⟨j + 1, f, by omega, by go_num, rfl, hf, fun who => by simp only [letsTo, unhide Hb]; rw [unhide Hq who]; simp, trivial⟩
        case measure => simp [intOf]; omega
      | true =>
        have Hb := hide hb
        have hb2 : (bits BinOp.and IntKind.i64 (r / 2 ^ j) 1 == 1) = true := hb
        clear hb
        have cj := (h1.six j (by omega)).1
        have Hor := hide (or_u8 f (A j) (by omega) (by have := (hA j (by omega)).1; omega))
        go_wp2
        go_roundw
        case rel =>
          rw [unhide Hor]
          refine ⟨j + 1, f ||| A j, by omega, by go_num, rfl, Nat.or_lt_two_pow (n := 6) hf (hA j (by omega)).1, fun who => ?_, trivial⟩
          simp only [letsTo, unhide Hb]
          rw [Nat.testBit_or, unhide Hq who, (hA j (by omega)).2]; simp
        case measure => simp [intOf]; omega
    · have hjN : j = N := by omega
      subst hjN
      go_wp2
      go_ret
      exact ⟨f, rfl, hf, unhide Hq, by rw [unhide Hs]; exact hB⟩
end Go.Proofs.Ytkpkbhgplpmkoaa
