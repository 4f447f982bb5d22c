import Derived.Test.YtkpkbhgplpmkoaaWd
namespace Go.Proofs.Ytkpkbhgplpmkoaa
open Go.RowKit

/-- The order that package plain hands out, in memory. -/
def PO (w : World) (p N : Nat) (A : Nat → Nat) : Prop := ∃ b, w.cell? ⟨p, 0, none⟩ = some (.pointer (some ⟨b, 0, none⟩)) ∧ Ord w b N A
theorem PO.later {w w' : World} {p N : Nat} {A : Nat → Nat} (h : PO w p N A) (hb : Below w.heap.size w w') : PO w' p N A := by
  obtain ⟨b, h1, h2⟩ := h
  exact ⟨b, (hb.cell (p := ⟨p, 0, none⟩) (World.block_lt_of_cell? w _ h1)).trans h1, h2.later hb⟩

set_option maxHeartbeats 400000 in
theorem order_any (b N : Nat) (A : Nat → Nat) (w : World) (h : Ord w b N A) :
    Calls Try.prog 36 #[.pointer (some ⟨b, 0, none⟩)] w fun e w' => e = .returned (.agg (ordC N A)) ∧ Below w.heap.size w w' := by
  have hlt := h.lt
  obtain ⟨c0, c1, c2, c3, c4, c5, c6⟩ := h.cells
  clear h
  go_enter Try.func36, Try.ntmps36
  go_wp2
  go_returns
  exact ⟨rfl, by go_grown⟩

set_option maxHeartbeats 400000 in
theorem actorsL_any (N : Nat) (A : Nat → Nat) (w : World) :
    Calls Try.prog 37 #[.agg (ordC N A)] w fun e w' => e = .returned (.int .i64 (N : Int)) ∧ Below w.heap.size w w' := by
  go_enter Try.func37, Try.ntmps37
  go_wp2
  go_ret
  exact ⟨rfl, by go_grown⟩
set_option maxHeartbeats 400000 in
theorem actorsS_any (b N : Nat) (A : Nat → Nat) (w : World) (h : Ord w b N A) :
    Calls Try.prog 28 #[.pointer (some ⟨b, 0, none⟩)] w fun e w' => e = .returned (.int .i64 (N : Int)) ∧ Below w.heap.size w w' := by
  go_enter Try.func28, Try.ntmps28
  go_wp2_with fail
  refine (order_any b N A _ h).mono ?_
  rintro e w1 ⟨rfl, hb1⟩
  go_wp2_with fail
  refine (actorsL_any N A _).mono ?_
  rintro e w2 ⟨rfl, hb2⟩
  go_wp2
  go_ret
  exact ⟨rfl, hb1.trans (hb2.mono hb1.size)⟩
set_option maxHeartbeats 400000 in
theorem overS_any (b N : Nat) (hN : N ≤ 6) (A : Nat → Nat) (hA : ∀ k, k < 6 → A k < 256) (x y : Int) (w : World) (h : Ord w b N A) :
    Calls Try.prog 29 #[.pointer (some ⟨b, 0, none⟩), .int .i64 x, .int .i64 y] w fun e w' => e = .returned (.bool (ovB N A x y)) ∧ Below w.heap.size w w' := by
  have HA := hide hA
  clear hA
  go_enter Try.func29, Try.ntmps29
  go_wp2_with fail
  refine (order_any b N A _ h).mono ?_
  rintro e w1 ⟨rfl, hb1⟩
  go_wp2_with fail
  refine (over_any N hN A (unhide HA) x y _).mono ?_
  rintro e w2 ⟨rfl, hb2⟩
  go_wp2
  go_ret
  exact ⟨rfl, hb1.trans (hb2.mono hb1.size)⟩
set_option maxHeartbeats 400000 in
theorem actorsP_any (p N : Nat) (A : Nat → Nat) (w : World) (h : PO w p N A) :
    Calls Try.prog 9 #[.pointer (some ⟨p, 0, none⟩)] w fun e w' => e = .returned (.int .i64 (N : Int)) ∧ Below w.heap.size w w' := by
  obtain ⟨b, hp, hO⟩ := h
  go_enter Try.func9, Try.ntmps9
  go_wp2_with fail
  refine (actorsS_any b N A _ hO).mono ?_
  rintro e w1 ⟨rfl, hb1⟩
  go_wp2
  go_ret
  exact ⟨rfl, hb1⟩
set_option maxHeartbeats 400000 in
theorem overP_any (p N : Nat) (hN : N ≤ 6) (A : Nat → Nat) (hA : ∀ k, k < 6 → A k < 256) (x y : Int) (w : World) (h : PO w p N A) :
    Calls Try.prog 10 #[.pointer (some ⟨p, 0, none⟩), .int .i64 x, .int .i64 y] w fun e w' => e = .returned (.bool (ovB N A x y)) ∧ Below w.heap.size w w' := by
  have HA := hide hA
  clear hA
  obtain ⟨b, hp, hO⟩ := h
  go_enter Try.func10, Try.ntmps10
  go_wp2_with fail
  refine (overS_any b N hN A (unhide HA) x y _ hO).mono ?_
  rintro e w1 ⟨rfl, hb1⟩
  go_wp2
  go_ret
  exact ⟨rfl, hb1⟩
end Go.Proofs.Ytkpkbhgplpmkoaa
