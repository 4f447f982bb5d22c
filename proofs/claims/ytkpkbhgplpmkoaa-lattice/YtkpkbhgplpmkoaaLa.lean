import Derived.Test.YtkpkbhgplpmkoaaWe
import Derived.Test.YtkpkbhgplpmkoaaLab
namespace Go.Proofs.Ytkpkbhgplpmkoaa
open Go.RowKit

theorem ev_num (N : Nat) (hN : N ≤ 6) : ((2 : Int) ^ N % 256 - 1) % 256 = ((2 ^ N - 1 : Nat) : Int) := by
  match N, hN with
  | 0, _ => rfl
  | 1, _ => rfl
  | 2, _ => rfl
  | 3, _ => rfl
  | 4, _ => rfl
  | 5, _ => rfl
  | 6, _ => rfl
theorem ret_u8 {a b : Int} (h : a = b) : Ending.returned (.int .u8 a) = .returned (.int .u8 b) := by rw [h]
set_option maxHeartbeats 400000 in
theorem everybody_any (N : Nat) (hN : N ≤ 6) (A : Nat → Nat) (w : World) :
    Calls Try.prog 50 #[.agg (ordC N A)] w fun e w' => e = .returned (.int .u8 ((2 ^ N - 1 : Nat) : Int)) ∧ Below w.heap.size w w' := by
  have b1 : (0 : Int) ≤ (N : Int) := by omega
  have b2 : (N : Int) ≤ 6 := by omega
  go_enter Try.func50, Try.ntmps50
  go_wp2
  go_ret
  exact ⟨ret_u8 (ev_num N hN), by go_grown⟩

set_option maxHeartbeats 400000 in
theorem alike_any (N : Nat) (hN : N ≤ 6) (A : Nat → Nat) (M : Nat → Nat → Bool) (hA : Col A M) (a b : Nat) (ha : a < N) (hb : b < N) (w : World) :
    Calls Try.prog 52 #[.agg (ordC N A), .int .i64 (a : Int), .int .i64 (b : Int)] w fun e w' => e = .returned (.bool (M a b && M b a)) ∧ Below w.heap.size w w' := by
  have h1 : ovB N A a b = M a b := by simp [ovB, inB, ha, hb, (hA b (by omega)).2]
  have h2 : ovB N A b a = M b a := by simp [ovB, inB, ha, hb, (hA a (by omega)).2]
  have H1 := hide h1
  have H2 := hide h2
  clear h1 h2
  have hA' : ∀ k, k < 6 → A k < 256 := fun k hk => by have := (hA k hk).1; omega
  have HA := hide hA'
  clear hA'
  cases hab : M a b with
  | false =>
    have Hab := hide hab
    clear hab
    go_enter Try.func52, Try.ntmps52
    go_wp2_with fail
    refine (over_any N hN A (unhide HA) a b _).mono ?_
    rintro e w1 ⟨rfl, hb1⟩
    rw [unhide H1, unhide Hab]
    go_wp2
    go_ret
    exact ⟨rfl, ((Below.refl _ _).alloc (Nat.le_refl _) _).trans (hb1.mono (by simp))⟩
  | true =>
    have Hab := hide hab
    clear hab
    have hO := Ord.new w N A 67
    have HO := hide hO
    clear hO
    go_enter Try.func52, Try.ntmps52
    go_wp2_with fail
    refine (over_any N hN A (unhide HA) a b _).mono ?_
    rintro e w1 ⟨rfl, hb1⟩
    rw [unhide H1, unhide Hab]
    obtain ⟨c0, c1, c2, c3, c4, c5, c6⟩ := ((unhide HO).later hb1).cells
    have hz : w.heap.size + 1 ≤ w1.heap.size := by have := hb1.size; simpa using this
    go_wp2_with fail
    refine (over_any N hN A (unhide HA) b a _).mono ?_
    rintro e w2 ⟨rfl, hb2⟩
    rw [unhide H2]
    go_wp2
    go_ret
    exact ⟨rfl, (((Below.refl _ _).alloc (Nat.le_refl _) _).trans (hb1.mono (by simp))).trans (hb2.mono (by omega))⟩

set_option maxHeartbeats 1000000 in
theorem first_any (N : Nat) (hN : N ≤ 6) (A : Nat → Nat) (M : Nat → Nat → Bool) (hA : Col A M) (k : Nat) (hk : k < N) (w : World) :
    Calls Try.prog 48 #[.agg (ordC N A), .int .i64 (k : Int)] w fun e w' => e = .returned (.bool (firstB M k)) ∧ Below w.heap.size w w' := by
  have hO := Ord.new w N A 67
  have hB := (Below.refl w.heap.size w).alloc (Nat.le_refl _) (.cells (ordC N A) 67)
  go_enter Try.func48, Try.ntmps48
  go_wp2
  generalize w.alloc (.cells (ordC N A) 67) = W at *
  generalize hs : w.heap.size = B at *
  have Hs := hide hs
  clear hs
  go_loopw [7] (fun t wr => ∃ j : Nat, j ≤ k ∧ t = .int .i64 (j : Int) ∧ (∀ i, i < j → (M i k && M k i) = false) ∧ Ord wr B N A ∧ Below B w wr) (fun t _ => k - (intOf t).toNat)
  case atStart => exact ⟨0, by omega, rfl, fun i hi => by omega, hO, hB⟩
  case round =>
    clear hO hB
    obtain ⟨j, hj, rfl, hno, hO, hB⟩ := hrel
    have Hno := hide hno
    clear hno
    by_cases hlt : j < k
    · have b1 : (0 : Int) ≤ (j : Int) := by omega
      have b2 : (j : Int) < (k : Int) := by omega
      obtain ⟨c0, c1, c2, c3, c4, c5, c6⟩ := hO.cells
      cases hjk : (M j k && M k j) with
      | true =>
        have Hjk := hide hjk
        clear hjk
        go_wp2_with fail
        refine (alike_any N hN A M hA j k (by omega) hk _).mono ?_
        rintro e w1 ⟨rfl, hb1⟩
        rw [unhide Hjk]
        clear c0 c1 c2 c3 c4 c5 c6
        go_wp2
        go_ret
        refine ⟨?_, ?_⟩
        · rw [first_no hlt (unhide Hjk)]; rfl
        · rw [unhide Hs]; exact hB.trans (hb1.mono (by have := hO.lt; omega))
      | false =>
        have Hjk := hide hjk
        clear hjk
        go_wp2_with fail
        refine (alike_any N hN A M hA j k (by omega) hk _).mono ?_
        rintro e w1 ⟨rfl, hb1⟩
        rw [unhide Hjk]
        have hO1 := hO.later hb1
        have hB1 := hB.trans (hb1.mono (by have := hO.lt; omega))
        clear c0 c1 c2 c3 c4 c5 c6 hb1 hO hB
        go_wp2
        go_roundw
        case rel => exact ⟨j + 1, by omega, by go_num, fun i hi => by by_cases e : i = j; rw [e]; exact unhide Hjk; exact unhide Hno i (by omega), hO1, hB1⟩
        case measure => simp [intOf]; omega
    · have hjk : j = k := by omega
      subst hjk
      go_wp2
      go_ret
      exact ⟨by rw [first_yes (unhide Hno)]; rfl, by rw [unhide Hs]; exact hB⟩

/-- The cells of a label. -/
abbrev labC (L : Nat → Nat) : Array Value := #[.int .u8 (L 0 : Int), .int .u8 (L 1 : Int), .int .u8 (L 2 : Int), .int .u8 (L 3 : Int), .int .u8 (L 4 : Int), .int .u8 (L 5 : Int)]
theorem Six.new' (w : World) (L : Nat → Nat) (T : TypeId) (b : Nat) (hb : w.heap.size = b) : Six (w.alloc (.cells (labC L) T)) b 0 L := by
  subst hb
  intro j hj
  match j, hj with
  | 0, _ => simp [labC]
  | 1, _ => simp [labC]
  | 2, _ => simp [labC]
  | 3, _ => simp [labC]
  | 4, _ => simp [labC]
  | 5, _ => simp [labC]
theorem Six.lt {w : World} {B o : Nat} {A : Nat → Nat} (h : Six w B o A) : B < w.heap.size := World.block_lt_of_cell? w _ (h 0 (by omega)).1
theorem Six.later {w w' : World} {B o : Nat} {A : Nat → Nat} (h : Six w B o A) (hb : Below w.heap.size w w') : Six w' B o A := h.below hb h.lt
theorem Six.alloc {w : World} {B o : Nat} {A : Nat → Nat} (h : Six w B o A) (x : Obj) : Six (w.alloc x) B o A := h.later ((Below.refl _ _).alloc (Nat.le_refl _) _)
theorem Six.cells {w : World} {B : Nat} {A : Nat → Nat} (h : Six w B 0 A) : w.cell? ⟨B, 0, none⟩ = some (.int .u8 (A 0 : Int)) ∧ w.cell? ⟨B, 1, none⟩ = some (.int .u8 (A 1 : Int)) ∧ w.cell? ⟨B, 2, none⟩ = some (.int .u8 (A 2 : Int)) ∧ w.cell? ⟨B, 3, none⟩ = some (.int .u8 (A 3 : Int)) ∧ w.cell? ⟨B, 4, none⟩ = some (.int .u8 (A 4 : Int)) ∧ w.cell? ⟨B, 5, none⟩ = some (.int .u8 (A 5 : Int)) :=
  ⟨(h 0 (by omega)).1, (h 1 (by omega)).1, (h 2 (by omega)).1, (h 3 (by omega)).1, (h 4 (by omega)).1, (h 5 (by omega)).1⟩
theorem Six.froz {w : World} {B : Nat} {A : Nat → Nat} (h : Six w B 0 A) : w.frozen? ⟨B, 0, none⟩ = false ∧ w.frozen? ⟨B, 1, none⟩ = false ∧ w.frozen? ⟨B, 2, none⟩ = false ∧ w.frozen? ⟨B, 3, none⟩ = false ∧ w.frozen? ⟨B, 4, none⟩ = false ∧ w.frozen? ⟨B, 5, none⟩ = false :=
  ⟨(h 0 (by omega)).2, (h 1 (by omega)).2, (h 2 (by omega)).2, (h 3 (by omega)).2, (h 4 (by omega)).2, (h 5 (by omega)).2⟩
theorem Ord.below_six {w : World} {B N : Nat} {A : Nat → Nat} (h : Ord w B N A) : B < w.heap.size := h.lt

set_option maxHeartbeats 1000000 in
theorem ljoin_any (l m : Nat → Nat) (O P : Nat → Nat → Bool) (hl : Lab l O) (hm : Lab m P) (w : World) :
    Calls Try.prog 41 #[.agg (labC l), .agg (labC m)] w fun e w' => ∃ q : Nat → Nat, e = .returned (.agg (labC q)) ∧ Lab q (fun k who => O k who || P k who) ∧ Below w.heap.size w w' := by
  have h2 := (Six.new' w l 73 _ rfl)
  have h3 := Six.new' (w.alloc (.cells (labC l) 73)) m 73 (w.heap.size + 1) (by simp)
  have h4 := Six.new' ((w.alloc (.cells (labC l) 73)).alloc (.cells (labC m) 73)) (fun _ => 0) 73 (w.heap.size + 2) (by simp)
  have hB : Below w.heap.size w (((w.alloc (.cells (labC l) 73)).alloc (.cells (labC m) 73)).alloc (.cells (labC (fun _ => 0)) 73)) := by go_grown
  replace h2 := (h2.alloc (.cells (labC m) 73)).alloc (.cells (labC (fun _ => 0)) 73)
  replace h3 := h3.alloc (.cells (labC (fun _ => 0)) 73)
  go_enter Try.func41, Try.ntmps41
  go_wp2
  change Code.wp Try.prog _ _ _ (((w.alloc (.cells (labC l) 73)).alloc (.cells (labC m) 73)).alloc (.cells (labC (fun _ => 0)) 73))
  generalize (((w.alloc (.cells (labC l) 73)).alloc (.cells (labC m) 73)).alloc (.cells (labC (fun _ => 0)) 73)) = W at *
  generalize hs : w.heap.size = B at *
  have Hs := hide hs
  clear hs
  go_loopw [6] (fun t wr => ∃ (k : Nat) (q : Nat → Nat), k ≤ 6 ∧ t = .int .i64 (k : Int) ∧ (∀ j, j < 6 → q j < 64 ∧ q j = if j < k then l j ||| m j else l j) ∧ Six wr B 0 q ∧ Six wr (B + 1) 0 m ∧ Six wr (B + 2) 0 (fun _ => 0) ∧ Below B w wr) (fun t _ => 6 - (intOf t).toNat)
  case atStart => exact ⟨0, l, by omega, rfl, fun j hj => ⟨(hl j hj).1, by simp⟩, h2, h3, h4, hB⟩
  case round =>
    clear h2 h3 h4 hB
    obtain ⟨k, q, hk, rfl, hq, h2, h3, h4, hB⟩ := hrel
    have Hq := hide hq
    clear hq
    by_cases hlt : k < 6
    · have b1 : (0 : Int) ≤ (k : Int) := by omega
      have b2 : (k : Int) < 6 := by omega
      have c1 : wr.cell? ⟨B, k, none⟩ = some (.int .u8 (q k : Int)) := by simpa using (h2 k hlt).1
      have f1 : wr.frozen? ⟨B, k, none⟩ = false := by simpa using (h2 k hlt).2
      have c2 : wr.cell? ⟨B + 1, k, none⟩ = some (.int .u8 (m k : Int)) := by simpa using (h3 k hlt).1
      have Hor := hide (or_u8 (q k) (m k) (by have := (unhide Hq k hlt).1; omega) (by have := (hm k hlt).1; omega))
      go_wp2
      go_region
      all_goals go_wp2
      all_goals go_roundw
      case rel =>
        rw [unhide Hor]
        have hs2 := (h2.set (v := q k ||| m k) hlt).drew
        rw [Nat.zero_add] at hs2
        refine ⟨k + 1, upd q k (q k ||| m k), by omega, by go_num, ?_, hs2, (h3.setOther (by omega)).drew, (h4.setOther (by omega)).drew, (hB.setCell (by simp) _).drew⟩
        intro j hj
        have hqj := unhide Hq j hj
        by_cases e : j = k
        · subst e
          have hmj := (hm j hj).1
          simp only [upd, if_true]
          refine ⟨Nat.or_lt_two_pow (n := 6) hqj.1 hmj, ?_⟩
          rw [hqj.2]; simp
        · have e2 : (j < k + 1) = (j < k) := by apply propext; omega
          simp only [upd, e, if_false, e2]
          exact hqj
      case measure => simp [intOf]; omega
    · have hk6 : k = 6 := by omega
      subst hk6
      obtain ⟨c0, c1, c2, c3, c4, c5⟩ := h2.cells
      obtain ⟨d0, d1, d2, d3, d4, d5⟩ := h4.cells
      obtain ⟨f0, f1, f2, f3, f4, f5⟩ := h4.froz
      go_wp2
      clear c0 c1 c2 c3 c4 c5 d0 d1 d2 d3 d4 d5 f0 f1 f2 f3 f4 f5
      change bodyPost Try.prog Try.f41 _ _ _ (put6 wr (B + 2) 0 q)
      have hV := (h4.put q).cells
      have hVb : Below B w (put6 wr (B + 2) 0 q) := below_put hB (by omega) q
      generalize put6 wr (B + 2) 0 q = w3 at *
      obtain ⟨c0, c1, c2, c3, c4, c5⟩ := hV
      refine bodyPost_ret (v := .agg (labC q)) (by simp [results, Try.results41, go_sem, c0, c1, c2, c3, c4, c5]) rfl ⟨q, rfl, ?_, by rw [unhide Hs]; exact hVb⟩
      intro k hk
      have hqk := unhide Hq k hk
      refine ⟨hqk.1, fun who => ?_⟩
      rw [hqk.2, if_pos hk, Nat.testBit_or, (hl k hk).2, (hm k hk).2]
end Go.Proofs.Ytkpkbhgplpmkoaa
