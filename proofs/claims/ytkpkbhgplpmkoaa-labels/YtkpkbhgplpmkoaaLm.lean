import Derived.Test.YtkpkbhgplpmkoaaLd
import Derived.Test.YtkpkbhgplpmkoaaLe
import Derived.Test.YtkpkbhgplpmkoaaLf
import Derived.BigQuiet
namespace Go.Proofs.Ytkpkbhgplpmkoaa
open Go.RowKit

set_option maxHeartbeats 1000000 in
theorem same_any (ao : Option Addr) (n c : Nat) (bo : Option Addr) (d : Nat) (X Y : Nat → Int) (hn : n ≤ 4194304) (w : World) (hP : Prs w ao n X Y) (hR : Prs w bo n X Y) :
    Calls Try.prog 21 #[.slice ao n c, .slice bo n d] w fun e w' => e = .returned (.bool true) ∧ Below w.heap.size w w' := by
  have HP := hide hP
  have HR := hide hR
  clear hP hR
  go_enter Try.func21, Try.ntmps21
  go_wp2
  go_loopw [5] (fun t wr => ∃ (k : Nat), k ≤ n ∧ t = .int .i64 (k : Int) ∧ Below w.heap.size w wr) (fun t _ => n - (intOf t).toNat)
  case atStart => exact ⟨0, by omega, rfl, Below.refl _ _⟩
  case round =>
    obtain ⟨k, hk, rfl, hB⟩ := hrel
    by_cases hlt : k < n
    · obtain ⟨g, rfl, cx, cy⟩ := (unhide HP).later hB k hlt
      obtain ⟨g2, rfl, cx2, cy2⟩ := (unhide HR).later hB k hlt
      have b1 : (0 : Int) ≤ (k : Int) := by omega
      have b2 : (k : Int) < (n : Int) := by omega
      generalize X k = x at *
      generalize Y k = y at *
      go_upto_region 6 with fail
      go_quiet (fail)
      go_wp2
      go_roundw
      case rel => exact ⟨k + 1, by omega, by go_num, below_drewN hB nq⟩
      case measure => simp [intOf]; omega
    · have hkn : k = n := by omega
      subst hkn
      go_wp2
      go_ret
      exact ⟨rfl, hB⟩

set_option maxHeartbeats 1000000 in
theorem spoil_any (base : Nat) (v : Value) (n : Nat) (xs : List Value) (w : World) (h : w.ownsRow base 61 2 v n xs) :
    Calls Try.prog 22 #[v] w fun e w' => e = .returned (.tuple #[]) ∧ w.grownBy w' v.ownBlock := by
  rcases h.2 with ⟨rfl, rfl⟩ | ⟨g, cap, cur, rfl, hb, hg, hnc, hcm, hcs, htk⟩
  · go_enter Try.func22, Try.ntmps22
    go_wp2
    go_loop [3] (fun t => t = .int .i64 0) (fun _ => 0)
    case atStart => rfl
    case round =>
      subst hrel
      go_wp2
      go_end0
      exact ⟨rfl, grownBy_refl _ _⟩
  · unfold maxLen at hcm
    have Hg := hide hg
    clear hg h htk
    go_enter Try.func22, Try.ntmps22
    go_wp2
    go_loopw [3] (fun t wr => ∃ (k : Nat) (cur' : Array Value), k ≤ cap ∧ t = .int .i64 (k : Int) ∧ cur'.size = cap * 2 ∧ wr.heap[g]? = some (.cells cur' 61 (0, 0)) ∧ w.grownBy wr (some g)) (fun t _ => cap - (intOf t).toNat)
    case atStart => exact ⟨0, cur, by omega, rfl, hcs, unhide Hg, grownBy_refl _ _⟩
    case round =>
      clear Hg
      obtain ⟨k, cur', hk, rfl, hsz, hg, hgr⟩ := hrel
      have Hg := hide hg
      by_cases hlt : k < cap
      · have b1 : (0 : Int) ≤ (k : Int) := by omega
        have b2 : (k : Int) < (cap : Int) := by omega
        have c0 : wr.cell? ⟨g, k * 2, none⟩ = some cur'[k * 2] := by
          rw [cell_of_row wr g (k * 2) cur' 61 (0, 0) hg]; exact Array.getElem?_eq_getElem (by omega)
        have c1 : wr.cell? ⟨g, k * 2 + 1, none⟩ = some cur'[k * 2 + 1] := by
          rw [cell_of_row wr g (k * 2 + 1) cur' 61 (0, 0) hg]; exact Array.getElem?_eq_getElem (by omega)
        have f0 : wr.frozen? ⟨g, k * 2, none⟩ = false := frozen_of_row wr g (k * 2) cur' 61 hg
        have f1 : wr.frozen? ⟨g, k * 2 + 1, none⟩ = false := frozen_of_row wr g (k * 2 + 1) cur' 61 hg
        clear hg
        generalize cur'[k * 2]'(by omega) = v0 at *
        generalize cur'[k * 2 + 1]'(by omega) = v1 at *
        go_wp2
        go_roundw
        case rel =>
          have hg1 := heap_setCell_same wr g (k * 2) cur' 61 (.int .i64 (-7)) (unhide Hg)
          have hg2 := heap_setCell_same _ g (k * 2 + 1) _ 61 (.int .i64 (-7)) hg1
          exact ⟨k + 1, _, by omega, by go_num, by simpa using hsz, hg2, grownBy_set (grownBy_set hgr)⟩
        case measure => simp [intOf]; omega
      · have hkc : k = cap := by omega
        subst hkc
        clear hg
        go_wp2
        go_end0
        exact ⟨rfl, hgr⟩
end Go.Proofs.Ytkpkbhgplpmkoaa
