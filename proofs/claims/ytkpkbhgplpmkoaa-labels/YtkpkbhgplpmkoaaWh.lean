import Derived.Test.YtkpkbhgplpmkoaaWg
namespace Go.Proofs.Ytkpkbhgplpmkoaa
open Go.RowKit
def rvB (N : Nat) (M : Nat → Nat → Bool) (x y : Int) : Bool := inB N x && (inB N y && M x.toNat y.toNat)
set_option maxHeartbeats 400000 in
theorem refOver_any (p N : Nat) (M : Nat → Nat → Bool) (x y : Int) (w : World) (h : RO w p N M) :
    Calls Try.prog 11 #[.pointer (some ⟨p, 0, none⟩), .int .i64 x, .int .i64 y] w fun e w' => e = .returned (.bool (rvB N M x y)) ∧ w' = w := by
  obtain ⟨ao, cap, R, hRG⟩ := h
  have c0 := hRG.n0
  have c1 := hRG.ov
  by_cases hx0 : 0 ≤ x
  · by_cases hx1 : x < N
    · by_cases hy0 : 0 ≤ y
      · by_cases hy1 : y < N
        · obtain ⟨a, rfl⟩ : ∃ p : Nat, x = p := Int.eq_ofNat_of_zero_le hx0
          obtain ⟨b, rfl⟩ : ∃ p : Nat, y = p := Int.eq_ofNat_of_zero_le hy0
          have ha : a < N := by omega
          have hb : b < N := by omega
          obtain ⟨rb, rfl, hob, crow, hne⟩ := hRG.rows a ha
          have cc := (hRG.row a ha b hb).1
          have hr : rvB N M a b = M a b := by simp [rvB, inB, ha, hb]
          clear hne hRG
          go_enter Try.func11, Try.ntmps11
          go_wp2
          go_ret
          exact ⟨by rw [hr]; rfl, rfl⟩
        · have hr : rvB N M x y = false := by simp [rvB, inB]; omega
          clear hRG
          go_enter Try.func11, Try.ntmps11
          go_wp2
          go_ret
          exact ⟨rfl, rfl⟩
      · have hr : rvB N M x y = false := by simp [rvB, inB]; omega
        clear hRG
        go_enter Try.func11, Try.ntmps11
        go_wp2
        go_ret
        exact ⟨rfl, rfl⟩
    · have hr : rvB N M x y = false := by simp [rvB, inB]; omega
      clear hRG
      go_enter Try.func11, Try.ntmps11
      go_wp2
      go_ret
      exact ⟨rfl, rfl⟩
  · have hr : rvB N M x y = false := by simp [rvB, inB]; omega
    clear hRG
    go_enter Try.func11, Try.ntmps11
    go_wp2
    go_ret
    exact ⟨rfl, rfl⟩

set_option maxHeartbeats 400000 in
theorem small_any (s : ByteArray) (hs : s.size = 0) (ao : Option Addr) (m c : Nat) (w : World) :
    Calls Try.prog 6 #[.string s, .slice ao m c] w fun e w' => e = .returned (.bool (decide ((m : Int) ≤ 1048576))) ∧ w' = w := by
  have hs2 : ((s.size : Nat) : Int) ≤ 1048576 := by omega
  clear hs
  go_enter Try.func6, Try.ntmps6
  go_wp2
  go_ret
  exact ⟨rfl, rfl⟩
end Go.Proofs.Ytkpkbhgplpmkoaa
