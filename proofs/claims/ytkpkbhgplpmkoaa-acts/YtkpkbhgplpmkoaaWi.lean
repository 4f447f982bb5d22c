import Derived.Test.YtkpkbhgplpmkoaaWh
import Derived.OpenShut
namespace Go.Proofs.Ytkpkbhgplpmkoaa
open Go.RowKit

theorem clampN (n : Int) : ∃ N : Nat, N ≤ 6 ∧ ((n < 0 ∧ N = 0) ∨ (6 < n ∧ N = 6) ∨ n = N) := by
  by_cases h0 : n < 0
  · exact ⟨0, by omega, Or.inl ⟨h0, rfl⟩⟩
  · by_cases h6 : 6 < n
    · exact ⟨6, by omega, Or.inr (Or.inl ⟨h6, rfl⟩)⟩
    · exact ⟨n.toNat, by omega, Or.inr (Or.inr (by omega))⟩
/-- What both sides say of who acts for whom is one. -/
theorem ov_rv {N : Nat} (hN : N ≤ 6) {A : Nat → Nat} {P M : Nat → Nat → Bool} (hW : Wi N P) (hC : Col A (outW P 6)) (hM : Clo P M) (x y : Int) : ovB N A x y = rvB N M x y := by
  have e : outW P 6 = M := (outW_clo hN hW).one hM
  subst e
  unfold ovB rvB
  cases hx : inB N x with
  | false => rfl
  | true =>
    cases hy : inB N y with
    | false => rfl
    | true =>
      have : y.toNat < 6 := by simp [inB] at hy; omega
      rw [(hC y.toNat this).2]
theorem Col.lt256 {A : Nat → Nat} {M : Nat → Nat → Bool} (h : Col A M) : ∀ k, k < 6 → A k < 256 := fun k hk => by have := (h k hk).1; omega

set_option maxHeartbeats 1000000 in
theorem acts_walk (n : Int) (ao : Option Addr) (m c : Nat) (L : Nat → Int) (x y : Int) (w : World) (hL : Ints w ao m L) :
    Calls Try.prog 3 #[.int .i64 n, .slice ao m c, .int .i64 x, .int .i64 y] w fun e w' => e = .returned (.bool true) ∧ Below w.heap.size w w' := by
  by_cases hm : m ≤ 1048576
  · obtain ⟨N, hN, hn⟩ := clampN n
    have hd : decide ((m : Int) ≤ 1048576) = true := by simp; omega
    have Hd := hide hd
    have Hn := hide hn
    clear hd hn
    go_enter Try.func3, Try.ntmps3
    go_wp2_with fail
    refine (small_any _ rfl ao m c _).mono ?_
    rintro e w1 ⟨rfl, rfl⟩
    rw [unhide Hd]
    go_wp2_with fail
    refine (newOrderP_any n N hN (unhide Hn) ao m c L hm _ hL).mono ?_
    rintro e w2 ⟨A, p, b, rfl, hp, hb, hcp, hO, hC, hb2⟩
    have hPO : PO w2 p N A := ⟨b, hcp, hO⟩
    have hL2 := hL.later hb2
    clear hcp hO
    go_wp2_with fail
    refine (refNew_any n N hN (unhide Hn) ao m c L hm _ hL2).mono ?_
    rintro e w3 ⟨r, M, rfl, hr, hRO, hM, hb3⟩
    have hPO3 := hPO.later hb3
    have hB3 := hb2.trans (hb3.mono hb2.size)
    go_wp2_with fail
    refine (actorsP_any p N A _ hPO3).mono ?_
    rintro e w4 ⟨rfl, hb4⟩
    have hPO4 := hPO3.later hb4
    have hRO4 := hRO.later hb4
    have hB4 := hB3.trans (hb4.mono hB3.size)
    go_wp2_with fail
    refine (overP_any p N hN A hC.lt256 x y _ hPO4).mono ?_
    rintro e w5 ⟨rfl, hb5⟩
    have hRO5 := hRO4.later hb5
    have hB5 := hB4.trans (hb5.mono hB4.size)
    go_wp2_with fail
    refine (refOver_any r N M x y _ hRO5).mono ?_
    rintro e w6 ⟨rfl, rfl⟩
    have c0 : w6.cell? ⟨r, 0, none⟩ = some (.int .i64 (N : Int)) := by obtain ⟨_, _, _, h⟩ := hRO5; exact h.n0
    rw [ov_rv hN (prsXY_wi N _ _ _) hC hM x y]
    go_wp2
    go_ret
    exact ⟨by simp, hB5⟩
  · have hd : decide ((m : Int) ≤ 1048576) = false := by simp; omega
    have Hd := hide hd
    clear hd
    go_enter Try.func3, Try.ntmps3
    go_wp2_with fail
    refine (small_any _ rfl ao m c _).mono ?_
    rintro e w1 ⟨rfl, rfl⟩
    rw [unhide Hd]
    go_wp2
    go_ret
    exact ⟨rfl, Below.refl _ _⟩
end Go.Proofs.Ytkpkbhgplpmkoaa
