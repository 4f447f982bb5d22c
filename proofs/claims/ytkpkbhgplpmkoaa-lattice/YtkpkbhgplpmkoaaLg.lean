import Derived.Test.YtkpkbhgplpmkoaaLe
import Derived.Test.YtkpkbhgplpmkoaaLf
namespace Go.Proofs.Ytkpkbhgplpmkoaa
open Go.RowKit

theorem or_wi {N : Nat} {O P : Nat → Nat → Bool} (h : LW N O) (k : LW N P) : LW N (fun a b => O a b || P a b) := by
  intro a b hab
  simp only [Bool.or_eq_true] at hab
  rcases hab with x | x
  · exact h a b x
  · exact k a b x
set_option maxRecDepth 100000 in
set_option maxHeartbeats 2000000 in
theorem normS_any (b N : Nat) (hN : N ≤ 6) (A : Nat → Nat) (M : Nat → Nat → Bool) (hA : Col A M) (ao : Option Addr) (m c : Nat) (X Y : Nat → Int) (hm : m ≤ 4194304) (w : World) (hO : Ord w b N A) (hp : Prs w ao m X Y) :
    Calls Try.prog 30 #[.pointer (some ⟨b, 0, none⟩), .slice ao m c] w fun e w' => ∃ v, e = .returned v ∧ w'.ownsRow w.heap.size 61 2 v (normTo N M (outP N M X Y m) N).length (polC (normTo N M (outP N M X Y m) N)) ∧ Below w.heap.size w w' := by
  go_enter Try.func30, Try.ntmps30
  go_wp2_with fail
  refine (order_any b N A _ hO).mono ?_
  rintro e w0 ⟨rfl, hb0⟩
  go_upto_region 2 with fail
  have hq0 := hb0.size
  have hn := Ord.new w0 N A 67
  change Code.wp Try.prog _ _ _ (w0.alloc (.cells (ordC N A) 67))
  have hsz : w0.heap.size < (w0.alloc (.cells (ordC N A) 67)).heap.size := by simp
  have hbn : Below w.heap.size w (w0.alloc (.cells (ordC N A) 67)) := hb0.alloc hq0 _
  generalize w0.alloc (.cells (ordC N A) 67) = W at *
  generalize hP : w0.heap.size = P at *
  have HP := hide hP
  clear hP
  have hqW := hbn.size
  have hp1 := hp.later hbn.drew
  obtain ⟨c0, c1, c2, c3, c4, c5, c6⟩ := hn.cells
  go_region_held3 (fun w' => w'.cell? ⟨P, 0, none⟩ = some (.int .i64 (N : Int)) ∧ w'.cell? ⟨P, 1, none⟩ = some (.int .u8 (A 0 : Int)) ∧ w'.cell? ⟨P, 2, none⟩ = some (.int .u8 (A 1 : Int)) ∧ w'.cell? ⟨P, 3, none⟩ = some (.int .u8 (A 2 : Int)) ∧ w'.cell? ⟨P, 4, none⟩ = some (.int .u8 (A 3 : Int)) ∧ w'.cell? ⟨P, 5, none⟩ = some (.int .u8 (A 4 : Int)) ∧ w'.cell? ⟨P, 6, none⟩ = some (.int .u8 (A 5 : Int)))
    (first | go_keep | (go_split_ands; refine ⟨?_, ?_, ?_, ?_, ?_, ?_, ?_⟩ <;> (rw [hb2.cell (by simp; omega)]; assumption)) | (go_split_ands; refine ⟨?_, ?_, ?_, ?_, ?_, ?_, ?_⟩ <;> (rw [hb1.cell (by simp; omega)]; assumption)))
    (first
      | (go_at_call 40; refine (of_any N hN A M hA ao m c X Y hm _ hp1).mono ?_; rintro e w1 ⟨q1, rfl, hq1, hb1⟩; have hs1 := hb1.size; rw [World.size_drew] at hs1)
      | (go_at_call 39; refine (policies_any N hN A M hA q1 _ hq1 (outP_wi N M X Y m) _).mono ?_; rintro e w2 ⟨v, rfl, hv, hb2⟩))
  all_goals go_wp2
  all_goals go_ret
  all_goals exact ⟨v, rfl, own_base hv (by omega), (hbn.drew.trans (hb1.mono (by simp; omega))).trans (hb2.mono (by omega))⟩

set_option maxRecDepth 100000 in
set_option maxHeartbeats 2000000 in
theorem readsS_any (b N : Nat) (hN : N ≤ 6) (A : Nat → Nat) (M : Nat → Nat → Bool) (hA : Col A M) (ao : Option Addr) (m c : Nat) (X Y : Nat → Int) (hm : m ≤ 4194304) (x : Int) (w : World) (hO : Ord w b N A) (hp : Prs w ao m X Y) :
    Calls Try.prog 33 #[.pointer (some ⟨b, 0, none⟩), .int .i64 x, .slice ao m c] w fun e w' => e = .returned (.bool (rdB N (outP N M X Y m) x)) ∧ Below w.heap.size w w' := by
  go_enter Try.func33, Try.ntmps33
  go_wp2_with fail
  refine (order_any b N A _ hO).mono ?_
  rintro e w0 ⟨rfl, hb0⟩
  go_upto_region 2 with fail
  have hq0 := hb0.size
  have hn := Ord.new w0 N A 67
  change Code.wp Try.prog _ _ _ (w0.alloc (.cells (ordC N A) 67))
  have hsz : w0.heap.size < (w0.alloc (.cells (ordC N A) 67)).heap.size := by simp
  have hbn : Below w.heap.size w (w0.alloc (.cells (ordC N A) 67)) := hb0.alloc hq0 _
  generalize w0.alloc (.cells (ordC N A) 67) = W at *
  generalize hP : w0.heap.size = P at *
  have HP := hide hP
  clear hP
  have hqW := hbn.size
  have hp1 := hp.later hbn.drew
  obtain ⟨c0, c1, c2, c3, c4, c5, c6⟩ := hn.cells
  go_region_held3 (fun w' => w'.cell? ⟨P, 0, none⟩ = some (.int .i64 (N : Int)) ∧ w'.cell? ⟨P, 1, none⟩ = some (.int .u8 (A 0 : Int)) ∧ w'.cell? ⟨P, 2, none⟩ = some (.int .u8 (A 1 : Int)) ∧ w'.cell? ⟨P, 3, none⟩ = some (.int .u8 (A 2 : Int)) ∧ w'.cell? ⟨P, 4, none⟩ = some (.int .u8 (A 3 : Int)) ∧ w'.cell? ⟨P, 5, none⟩ = some (.int .u8 (A 4 : Int)) ∧ w'.cell? ⟨P, 6, none⟩ = some (.int .u8 (A 5 : Int)))
    (first | go_keep | (go_split_ands; refine ⟨?_, ?_, ?_, ?_, ?_, ?_, ?_⟩ <;> (rw [hb2.cell (by simp; omega)]; assumption)) | (go_split_ands; refine ⟨?_, ?_, ?_, ?_, ?_, ?_, ?_⟩ <;> (rw [hb1.cell (by simp; omega)]; assumption)))
    (first
      | (go_at_call 40; refine (of_any N hN A M hA ao m c X Y hm _ hp1).mono ?_; rintro e w1 ⟨q1, rfl, hq1, hb1⟩; have hs1 := hb1.size; rw [World.size_drew] at hs1)
      | (go_at_call 43; refine (readsL_any N hN A q1 _ hq1 x _).mono ?_; rintro e w2 ⟨rfl, hb2⟩))
  all_goals go_wp2
  all_goals go_ret
  all_goals exact ⟨rfl, (hbn.drew.trans (hb1.mono (by simp; omega))).trans (hb2.mono (by omega))⟩

set_option maxRecDepth 100000 in
set_option maxHeartbeats 2000000 in
theorem flowsS_any (b N : Nat) (hN : N ≤ 6) (A : Nat → Nat) (M : Nat → Nat → Bool) (hA : Col A M) (ao : Option Addr) (m c : Nat) (X Y : Nat → Int) (hm : m ≤ 4194304) (bo : Option Addr) (n d : Nat) (X2 Y2 : Nat → Int) (hm2 : n ≤ 4194304) (w : World) (hO : Ord w b N A) (hp : Prs w ao m X Y) (hr : Prs w bo n X2 Y2) :
    Calls Try.prog 32 #[.pointer (some ⟨b, 0, none⟩), .slice ao m c, .slice bo n d] w fun e w' => e = .returned (.bool (flB (outP N M X Y m) (outP N M X2 Y2 n))) ∧ Below w.heap.size w w' := by
  go_enter Try.func32, Try.ntmps32
  go_wp2_with fail
  refine (order_any b N A _ hO).mono ?_
  rintro e w0 ⟨rfl, hb0⟩
  go_upto_region 2 with fail
  have hq0 := hb0.size
  have hn := Ord.new w0 N A 67
  change Code.wp Try.prog _ _ _ (w0.alloc (.cells (ordC N A) 67))
  have hsz : w0.heap.size < (w0.alloc (.cells (ordC N A) 67)).heap.size := by simp
  have hbn : Below w.heap.size w (w0.alloc (.cells (ordC N A) 67)) := hb0.alloc hq0 _
  generalize w0.alloc (.cells (ordC N A) 67) = W at *
  generalize hP : w0.heap.size = P at *
  have HP := hide hP
  clear hP
  have hqW := hbn.size
  have hp1 := hp.later hbn.drew
  have hr1 := hr.later hbn.drew
  obtain ⟨c0, c1, c2, c3, c4, c5, c6⟩ := hn.cells
  go_region_held3 (fun w' => w'.cell? ⟨P, 0, none⟩ = some (.int .i64 (N : Int)) ∧ w'.cell? ⟨P, 1, none⟩ = some (.int .u8 (A 0 : Int)) ∧ w'.cell? ⟨P, 2, none⟩ = some (.int .u8 (A 1 : Int)) ∧ w'.cell? ⟨P, 3, none⟩ = some (.int .u8 (A 2 : Int)) ∧ w'.cell? ⟨P, 4, none⟩ = some (.int .u8 (A 3 : Int)) ∧ w'.cell? ⟨P, 5, none⟩ = some (.int .u8 (A 4 : Int)) ∧ w'.cell? ⟨P, 6, none⟩ = some (.int .u8 (A 5 : Int)))
    (first | go_keep | (go_split_ands; refine ⟨?_, ?_, ?_, ?_, ?_, ?_, ?_⟩ <;> (rw [hb3.cell (by simp; omega)]; assumption)) | (go_split_ands; refine ⟨?_, ?_, ?_, ?_, ?_, ?_, ?_⟩ <;> (rw [hb2.cell (by simp; omega)]; assumption)) | (go_split_ands; refine ⟨?_, ?_, ?_, ?_, ?_, ?_, ?_⟩ <;> (rw [hb1.cell (by simp; omega)]; assumption)))
    (first
      | (go_at_call_of 40 (Value.slice ao m c); refine (of_any N hN A M hA ao m c X Y hm _ hp1).mono ?_; rintro e w1 ⟨q1, rfl, hq1, hb1⟩; have hs1 := hb1.size; rw [World.size_drew] at hs1; have hr2 := hr1.later hb1)
      | (go_at_call_of 40 (Value.slice bo n d); refine (of_any N hN A M hA bo n d X2 Y2 hm2 _ hr2).mono ?_; rintro e w2 ⟨q2, rfl, hq2, hb2⟩; have hs2 := hb2.size)
      | (go_at_call 42; refine (lflows_any q1 q2 _ _ hq1 hq2 _).mono ?_; rintro e w3 ⟨rfl, hb3⟩))
  all_goals go_wp2
  all_goals go_ret
  all_goals exact ⟨rfl, ((hbn.drew.trans (hb1.mono (by simp; omega))).trans (hb2.mono (by omega))).trans (hb3.mono (by omega))⟩

set_option maxRecDepth 100000 in
set_option maxHeartbeats 2000000 in
theorem joinS_any (b N : Nat) (hN : N ≤ 6) (A : Nat → Nat) (M : Nat → Nat → Bool) (hA : Col A M) (ao : Option Addr) (m c : Nat) (X Y : Nat → Int) (hm : m ≤ 4194304) (bo : Option Addr) (n d : Nat) (X2 Y2 : Nat → Int) (hm2 : n ≤ 4194304) (w : World) (hO : Ord w b N A) (hp : Prs w ao m X Y) (hr : Prs w bo n X2 Y2) :
    Calls Try.prog 31 #[.pointer (some ⟨b, 0, none⟩), .slice ao m c, .slice bo n d] w fun e w' => ∃ v, e = .returned v ∧ w'.ownsRow w.heap.size 61 2 v (normTo N M (fun k who => outP N M X Y m k who || outP N M X2 Y2 n k who) N).length (polC (normTo N M (fun k who => outP N M X Y m k who || outP N M X2 Y2 n k who) N)) ∧ Below w.heap.size w w' := by
  go_enter Try.func31, Try.ntmps31
  go_wp2_with fail
  refine (order_any b N A _ hO).mono ?_
  rintro e w0 ⟨rfl, hb0⟩
  go_upto_region 2 with fail
  have hq0 := hb0.size
  have hn := Ord.new w0 N A 67
  change Code.wp Try.prog _ _ _ (w0.alloc (.cells (ordC N A) 67))
  have hsz : w0.heap.size < (w0.alloc (.cells (ordC N A) 67)).heap.size := by simp
  have hbn : Below w.heap.size w (w0.alloc (.cells (ordC N A) 67)) := hb0.alloc hq0 _
  generalize w0.alloc (.cells (ordC N A) 67) = W at *
  generalize hP : w0.heap.size = P at *
  have HP := hide hP
  clear hP
  have hqW := hbn.size
  have hp1 := hp.later hbn.drew
  have hr1 := hr.later hbn.drew
  obtain ⟨c0, c1, c2, c3, c4, c5, c6⟩ := hn.cells
  go_region_held3 (fun w' => w'.cell? ⟨P, 0, none⟩ = some (.int .i64 (N : Int)) ∧ w'.cell? ⟨P, 1, none⟩ = some (.int .u8 (A 0 : Int)) ∧ w'.cell? ⟨P, 2, none⟩ = some (.int .u8 (A 1 : Int)) ∧ w'.cell? ⟨P, 3, none⟩ = some (.int .u8 (A 2 : Int)) ∧ w'.cell? ⟨P, 4, none⟩ = some (.int .u8 (A 3 : Int)) ∧ w'.cell? ⟨P, 5, none⟩ = some (.int .u8 (A 4 : Int)) ∧ w'.cell? ⟨P, 6, none⟩ = some (.int .u8 (A 5 : Int)))
    (first | go_keep | (go_split_ands; refine ⟨?_, ?_, ?_, ?_, ?_, ?_, ?_⟩ <;> (rw [hb4.cell (by simp; omega)]; assumption)) | (go_split_ands; refine ⟨?_, ?_, ?_, ?_, ?_, ?_, ?_⟩ <;> (rw [hb3.cell (by simp; omega)]; assumption)) | (go_split_ands; refine ⟨?_, ?_, ?_, ?_, ?_, ?_, ?_⟩ <;> (rw [hb2.cell (by simp; omega)]; assumption)) | (go_split_ands; refine ⟨?_, ?_, ?_, ?_, ?_, ?_, ?_⟩ <;> (rw [hb1.cell (by simp; omega)]; assumption)))
    (first
      | (go_at_call_of 40 (Value.slice ao m c); refine (of_any N hN A M hA ao m c X Y hm _ hp1).mono ?_; rintro e w1 ⟨q1, rfl, hq1, hb1⟩; have hs1 := hb1.size; rw [World.size_drew] at hs1; have hr2 := hr1.later hb1)
      | (go_at_call_of 40 (Value.slice bo n d); refine (of_any N hN A M hA bo n d X2 Y2 hm2 _ hr2).mono ?_; rintro e w2 ⟨q2, rfl, hq2, hb2⟩; have hs2 := hb2.size)
      | (go_at_call 41; refine (ljoin_any q1 q2 _ _ hq1 hq2 _).mono ?_; rintro e w3 ⟨q3, rfl, hq3, hb3⟩; have hs3 := hb3.size)
      | (go_at_call 39; refine (policies_any N hN A M hA q3 _ hq3 (or_wi (outP_wi N M X Y m) (outP_wi N M X2 Y2 n)) _).mono ?_; rintro e w4 ⟨v, rfl, hv, hb4⟩))
  all_goals go_wp2
  all_goals go_ret
  all_goals exact ⟨v, rfl, own_base hv (by omega), (((hbn.drew.trans (hb1.mono (by simp; omega))).trans (hb2.mono (by omega))).trans (hb3.mono (by omega))).trans (hb4.mono (by omega))⟩

set_option maxHeartbeats 400000 in
theorem normP_any (p N : Nat) (hN : N ≤ 6) (A : Nat → Nat) (M : Nat → Nat → Bool) (hA : Col A M) (ao : Option Addr) (m c : Nat) (X Y : Nat → Int) (hm : m ≤ 4194304) (w : World) (hO : PO w p N A) (hp : Prs w ao m X Y) :
    Calls Try.prog 13 #[.pointer (some ⟨p, 0, none⟩), .slice ao m c] w fun e w' => ∃ v, e = .returned v ∧ w'.ownsRow w.heap.size 61 2 v (normTo N M (outP N M X Y m) N).length (polC (normTo N M (outP N M X Y m) N)) ∧ Below w.heap.size w w' := by
  obtain ⟨b, hp0, hOb⟩ := hO
  go_enter Try.func13, Try.ntmps13
  go_wp2_with fail
  refine (normS_any b N hN A M hA ao m c X Y hm _ hOb hp).mono ?_
  rintro e w1 ⟨v, rfl, hv, hb1⟩
  go_wp2
  go_ret
  exact ⟨v, rfl, hv, hb1⟩

set_option maxHeartbeats 400000 in
theorem joinP_any (p N : Nat) (hN : N ≤ 6) (A : Nat → Nat) (M : Nat → Nat → Bool) (hA : Col A M) (ao : Option Addr) (m c : Nat) (X Y : Nat → Int) (hm : m ≤ 4194304) (bo : Option Addr) (n d : Nat) (X2 Y2 : Nat → Int) (hm2 : n ≤ 4194304) (w : World) (hO : PO w p N A) (hp : Prs w ao m X Y) (hr : Prs w bo n X2 Y2) :
    Calls Try.prog 14 #[.pointer (some ⟨p, 0, none⟩), .slice ao m c, .slice bo n d] w fun e w' => ∃ v, e = .returned v ∧ w'.ownsRow w.heap.size 61 2 v (normTo N M (fun k who => outP N M X Y m k who || outP N M X2 Y2 n k who) N).length (polC (normTo N M (fun k who => outP N M X Y m k who || outP N M X2 Y2 n k who) N)) ∧ Below w.heap.size w w' := by
  obtain ⟨b, hp0, hOb⟩ := hO
  go_enter Try.func14, Try.ntmps14
  go_wp2_with fail
  refine (joinS_any b N hN A M hA ao m c X Y hm bo n d X2 Y2 hm2 _ hOb hp hr).mono ?_
  rintro e w1 ⟨v, rfl, hv, hb1⟩
  go_wp2
  go_ret
  exact ⟨v, rfl, hv, hb1⟩

set_option maxHeartbeats 400000 in
theorem flowsP_any (p N : Nat) (hN : N ≤ 6) (A : Nat → Nat) (M : Nat → Nat → Bool) (hA : Col A M) (ao : Option Addr) (m c : Nat) (X Y : Nat → Int) (hm : m ≤ 4194304) (bo : Option Addr) (n d : Nat) (X2 Y2 : Nat → Int) (hm2 : n ≤ 4194304) (w : World) (hO : PO w p N A) (hp : Prs w ao m X Y) (hr : Prs w bo n X2 Y2) :
    Calls Try.prog 15 #[.pointer (some ⟨p, 0, none⟩), .slice ao m c, .slice bo n d] w fun e w' => e = .returned (.bool (flB (outP N M X Y m) (outP N M X2 Y2 n))) ∧ Below w.heap.size w w' := by
  obtain ⟨b, hp0, hOb⟩ := hO
  go_enter Try.func15, Try.ntmps15
  go_wp2_with fail
  refine (flowsS_any b N hN A M hA ao m c X Y hm bo n d X2 Y2 hm2 _ hOb hp hr).mono ?_
  rintro e w1 ⟨rfl, hb1⟩
  go_wp2
  go_ret
  exact ⟨rfl, hb1⟩

set_option maxHeartbeats 400000 in
theorem readsP_any (p N : Nat) (hN : N ≤ 6) (A : Nat → Nat) (M : Nat → Nat → Bool) (hA : Col A M) (ao : Option Addr) (m c : Nat) (X Y : Nat → Int) (hm : m ≤ 4194304) (x : Int) (w : World) (hO : PO w p N A) (hp : Prs w ao m X Y) :
    Calls Try.prog 16 #[.pointer (some ⟨p, 0, none⟩), .int .i64 x, .slice ao m c] w fun e w' => e = .returned (.bool (rdB N (outP N M X Y m) x)) ∧ Below w.heap.size w w' := by
  obtain ⟨b, hp0, hOb⟩ := hO
  go_enter Try.func16, Try.ntmps16
  go_wp2_with fail
  refine (readsS_any b N hN A M hA ao m c X Y hm x _ hOb hp).mono ?_
  rintro e w1 ⟨rfl, hb1⟩
  go_wp2
  go_ret
  exact ⟨rfl, hb1⟩

end Go.Proofs.Ytkpkbhgplpmkoaa
