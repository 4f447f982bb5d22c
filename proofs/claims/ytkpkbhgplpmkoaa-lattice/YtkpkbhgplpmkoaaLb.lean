import Derived.Test.YtkpkbhgplpmkoaaLa
namespace Go.Proofs.Ytkpkbhgplpmkoaa
open Go.RowKit

set_option maxHeartbeats 1000000 in
theorem lflows_any (l m : Nat → Nat) (O P : Nat → Nat → Bool) (hl : Lab l O) (hm : Lab m P) (w : World) :
    Calls Try.prog 42 #[.agg (labC l), .agg (labC m)] w fun e w' => e = .returned (.bool (flB O P)) ∧ Below w.heap.size w w' := by
  have h2 := (Six.new' w l 73 _ rfl).alloc (.cells (labC m) 73)
  have h3 := Six.new' (w.alloc (.cells (labC l) 73)) m 73 (w.heap.size + 1) (by simp)
  have hB : Below w.heap.size w ((w.alloc (.cells (labC l) 73)).alloc (.cells (labC m) 73)) := by go_grown
  go_enter Try.func42, Try.ntmps42
  go_wp2
  generalize ((w.alloc (.cells (labC l) 73)).alloc (.cells (labC m) 73)) = W at *
  generalize hs : w.heap.size = B at *
  have Hs := hide hs
  clear hs
  go_loopw [6] (fun t wr => ∃ (k : Nat), k ≤ 6 ∧ t = .int .i64 (k : Int) ∧ Hid (∀ j, j < k → sub6 (O j) (P j) = true) ∧ Six wr B 0 l ∧ Six wr (B + 1) 0 m ∧ Below B w wr) (fun t _ => 6 - (intOf t).toNat)
  case atStart => exact ⟨0, by omega, rfl, fun j hj => by omega, h2, h3, hB⟩
  case round =>
    clear h2 h3 hB
    obtain ⟨k, hk, rfl, Hq, h2, h3, hB⟩ := hrel
    by_cases hlt : k < 6
    · have b1 : (0 : Int) ≤ (k : Int) := by omega
      have b2 : (k : Int) < 6 := by omega
      have c1 : wr.cell? ⟨B, k, none⟩ = some (.int .u8 (l k : Int)) := by simpa using (h2 k hlt).1
      have c2 : wr.cell? ⟨B + 1, k, none⟩ = some (.int .u8 (m k : Int)) := by simpa using (h3 k hlt).1
      have e1 : sub6 (l k).testBit (m k).testBit = sub6 (O k) (P k) := by
        have h1 : (l k).testBit = O k := by funext x; exact (hl k hlt).2 x
        have h2 : (m k).testBit = P k := by funext x; exact (hm k hlt).2 x
        rw [h1, h2]
      have e2 := andNot_zero (l k) (m k) (hl k hlt).1 (hm k hlt).1
      rw [e1] at e2
      clear e1
      cases hs : sub6 (O k) (P k) with
      | true =>
        rw [hs] at e2
        have Hk := hide hs
        clear hs
        go_wp2
        go_region
        all_goals go_wp2
        all_goals go_roundw
        case rel =>
          exact ⟨k + 1, by omega, by go_num, fun j hj => by by_cases e : j = k; rw [e]; exact unhide Hk; exact unhide Hq j (by omega), h2, h3, hB.drew⟩
        case measure => simp [intOf]; omega
      | false =>
        rw [hs] at e2
        have Hk := hide hs
        clear hs
        go_wp2
        go_region
        all_goals go_wp2
        all_goals go_ret
        all_goals refine ⟨?_, by rw [unhide Hs]; exact hB.drew⟩
        all_goals rw [flB_no hlt (unhide Hk)]; rfl
    · have hk6 : k = 6 := by omega
      subst hk6
      go_wp2
      go_ret
      exact ⟨by rw [flB_yes (unhide Hq)]; rfl, by rw [unhide Hs]; exact hB⟩

theorem lab_idx0 (l : Nat → Nat) (w : World) : (Instr.index 73 (.agg (labC l)) (.int .i64 0)).run Try.prog w = .ok (.int .u8 (l 0 : Int)) w := by kernel_rfl
theorem lab_idx1 (l : Nat → Nat) (w : World) : (Instr.index 73 (.agg (labC l)) (.int .i64 1)).run Try.prog w = .ok (.int .u8 (l 1 : Int)) w := by kernel_rfl
theorem lab_idx2 (l : Nat → Nat) (w : World) : (Instr.index 73 (.agg (labC l)) (.int .i64 2)).run Try.prog w = .ok (.int .u8 (l 2 : Int)) w := by kernel_rfl
theorem lab_idx3 (l : Nat → Nat) (w : World) : (Instr.index 73 (.agg (labC l)) (.int .i64 3)).run Try.prog w = .ok (.int .u8 (l 3 : Int)) w := by kernel_rfl
theorem lab_idx4 (l : Nat → Nat) (w : World) : (Instr.index 73 (.agg (labC l)) (.int .i64 4)).run Try.prog w = .ok (.int .u8 (l 4 : Int)) w := by kernel_rfl
theorem lab_idx5 (l : Nat → Nat) (w : World) : (Instr.index 73 (.agg (labC l)) (.int .i64 5)).run Try.prog w = .ok (.int .u8 (l 5 : Int)) w := by kernel_rfl
theorem lab_idx (l : Nat → Nat) (k : Nat) (hk : k < 6) (w : World) : (Instr.index 73 (.agg (labC l)) (.int .i64 (k : Int))).run Try.prog w = .ok (.int .u8 (l k : Int)) w := by
  match k, hk with
  | 0, _ => exact lab_idx0 l w
  | 1, _ => exact lab_idx1 l w
  | 2, _ => exact lab_idx2 l w
  | 3, _ => exact lab_idx3 l w
  | 4, _ => exact lab_idx4 l w
  | 5, _ => exact lab_idx5 l w

set_option maxHeartbeats 1000000 in
theorem readsL_any (N : Nat) (hN : N ≤ 6) (A : Nat → Nat) (l : Nat → Nat) (O : Nat → Nat → Bool) (hl : Lab l O) (x : Int) (w : World) :
    Calls Try.prog 43 #[.agg (ordC N A), .int .i64 x, .agg (labC l)] w fun e w' => e = .returned (.bool (rdB N O x)) ∧ Below w.heap.size w w' := by
  have hB : Below w.heap.size w ((w.alloc (.cells (ordC N A) 67)).alloc (.cells (labC l) 73)) := by go_grown
  have h2 := Six.new' (w.alloc (.cells (ordC N A) 67)) l 73 (w.heap.size + 1) (by simp)
  have Hall := hide (And.intro hB h2)
  clear hB h2
  cases hx : inB N x with
  | false =>
    have Hx := hide hx
    clear hx
    go_enter Try.func43, Try.ntmps43
    go_wp2_with fail
    refine (isActor_B N _ _ _ _ _ _ x _ false (unhide Hx)).mono ?_
    rintro e w1 ⟨rfl, hb1⟩
    go_wp2
    go_ret
    refine ⟨?_, (unhide Hall).1.trans (hb1.mono (by simp; omega))⟩
    simp [rdB, unhide Hx]
  | true =>
    obtain ⟨y, rfl⟩ : ∃ y : Nat, x = y := Int.eq_ofNat_of_zero_le (by simp [inB] at hx; exact hx.1)
    have hy : y < N := by simp [inB] at hx; omega
    have Hx := hide hx
    clear hx
    go_enter Try.func43, Try.ntmps43
    go_wp2_with fail
    refine (isActor_B N _ _ _ _ _ _ y _ true (unhide Hx)).mono ?_
    rintro e w1 ⟨rfl, hb1⟩
    obtain ⟨hB, h2⟩ := unhide Hall
    have hB1 := hB.trans (hb1.mono (by simp; omega))
    obtain ⟨c0, c1, c2, c3, c4, c5⟩ := (h2.later hb1).cells
    clear Hall hB h2 hb1
    go_wp2
    clear c0 c1 c2 c3 c4 c5
    go_loop [14] (fun t => ∃ (k : Nat), k ≤ 6 ∧ t = .int .i64 (k : Int) ∧ Hid (∀ j, j < k → O j y = false)) (fun t => 6 - (intOf t).toNat)
    case atStart => exact ⟨0, by omega, rfl, fun j hj => by omega⟩
    case round =>
      obtain ⟨k, hk, rfl, Hq⟩ := hrel
      by_cases hlt : k < 6
      · have b1 : (0 : Int) ≤ (k : Int) := by omega
        have b2 : (k : Int) < 6 := by omega
        have hi := lab_idx l k hlt
        cases hs : O k y with
        | true =>
          have Hk := hide hs
          clear hs
          go_wp2_with fail
          refine (has_any (l k) y _ (by have := (hl k hlt).1; omega) (by omega)).mono ?_
          rintro e w2 ⟨rfl, rfl⟩
          rw [(hl k hlt).2, unhide Hk]
          go_wp2
          go_ret
          refine ⟨?_, hB1⟩
          have e1 : rdB N O (y : Int) = false := by
            simp only [rdB, Int.toNat_natCast, rd_no hlt (unhide Hk), Bool.and_false]
          rw [e1]; rfl
        | false =>
          have Hk := hide hs
          clear hs
          go_wp2_with fail
          refine (has_any (l k) y _ (by have := (hl k hlt).1; omega) (by omega)).mono ?_
          rintro e w2 ⟨rfl, rfl⟩
          rw [(hl k hlt).2, unhide Hk]
          go_wp2
          go_round
          case rel => exact ⟨k + 1, by omega, by go_num, fun j hj => by by_cases e : j = k; rw [e]; exact unhide Hk; exact unhide Hq j (by omega)⟩
          case measure => simp [intOf]; omega
      · have hk6 : k = 6 := by omega
        subst hk6
        go_wp2
        go_ret
        refine ⟨?_, hB1⟩
        have e1 : rdB N O (y : Int) = true := by
          simp only [rdB, Int.toNat_natCast, rd_yes (unhide Hq), unhide Hx, Bool.and_true]
        rw [e1]; rfl
end Go.Proofs.Ytkpkbhgplpmkoaa
