import Derived.Test.YtkpkbhgplpmkoaaWh
import Derived.Test.YtkpkbhgplpmkoaaLd
import Derived.BigQuiet
namespace Go.Proofs.Ytkpkbhgplpmkoaa
open Go.RowKit

theorem letsTo_mono {M : Nat → Nat → Bool} {o : Nat} {r : Int} {who : Nat} : ∀ k j, k ≤ j → letsTo M o r who k = true → letsTo M o r who j = true := by
  intro k j hkj h
  induction j with
  | zero => have : k = 0 := by omega
            subst this; exact h
  | succ j ih =>
    by_cases e : k = j + 1
    · subst e; exact h
    · simp only [letsTo]; rw [ih (by omega)]; rfl

set_option maxHeartbeats 1000000 in
theorem lets_any (p N : Nat) (M : Nat → Nat → Bool) (o : Nat) (ho : o < N) (hN : N ≤ 6) (r : Int) (x : Nat) (hx : x < N) (w : World) (h : RO w p N M) :
    Calls Try.prog 44 #[.pointer (some ⟨p, 0, none⟩), .agg #[.int .i64 (o : Int), .int .i64 r], .int .i64 (x : Int)] w fun e w' => e = .returned (.bool (letsTo M o r x N)) ∧ Below w.heap.size w w' := by
  have hR := h.later ((Below.refl w.heap.size w).alloc (Nat.le_refl _) (.cells #[.int .i64 (o : Int), .int .i64 r] 62))
  have h2 := Two.new' w (.int .i64 (o : Int)) (.int .i64 r) 62 _ rfl
  have hB := (Below.refl w.heap.size w).alloc (Nat.le_refl _) (.cells #[.int .i64 (o : Int), .int .i64 r] 62)
  have Hall := hide (And.intro hR (And.intro h2 hB))
  clear hR h2 hB h
  go_enter Try.func44, Try.ntmps44
  go_upto_region 1 with fail
  obtain ⟨hR, h2, hB⟩ := unhide Hall
  clear Hall
  generalize w.alloc (.cells #[.int .i64 (o : Int), .int .i64 r] 62) = W at *
  generalize hs : w.heap.size = B at *
  have Hs := hide hs
  clear hs
  obtain ⟨ao, cap, R, hRG⟩ := hR
  obtain ⟨rb, rfl, hob, crow, hne⟩ := hRG.rows x hx
  clear hne
  have cob := hRG.ov
  have cn := hRG.n0
  have c2 := h2.1
  have c3 := h2.2
  have cc := (hRG.row x hx o ho).1
  have b1 : (0 : Int) ≤ (x : Int) := by omega
  have b2 : (x : Int) < (N : Int) := by omega
  have b3 : (0 : Int) ≤ (o : Int) := by omega
  have b4 : (o : Int) < (N : Int) := by omega
  cases hM : M x o with
  | true =>
    rw [hM] at cc
    have HM := hide hM
    clear hM
    go_quiet (fail)
    go_wp2
    go_ret
    refine ⟨?_, ?_⟩
    · rw [letsTo_mono 0 N (by omega) (unhide HM)]; rfl
    · rw [unhide Hs]; exact below_drewN hB nq
  | false =>
    rw [hM] at cc
    have HM := hide hM
    clear hM
    go_quiet (fail)
    go_wp2
    clear cc crow c2
    go_loop [7] (fun t => ∃ j : Nat, j ≤ N ∧ t = .int .i64 (j : Int) ∧ Hid (letsTo M o r x j = false)) (fun t => N - (intOf t).toNat)
    case atStart => exact ⟨0, by omega, rfl, unhide HM⟩
    case round =>
      obtain ⟨j, hj, rfl, Hq⟩ := hrel
      by_cases hlt : j < N
      · have b5 : (0 : Int) ≤ (j : Int) := by omega
        have b6 : (j : Int) < (N : Int) := by omega
        have b7 : (j : Int) < 64 := by omega
        cases hb : bitI r j with
        | false =>
          have Hb := hide hb
          have hb2 : (bits BinOp.and IntKind.i64 (r / 2 ^ j) 1 == 1) = false := hb
          clear hb
          go_wp2
          go_round
          case rel => exact ⟨j + 1, by omega, by go_num, show letsTo M o r x (j + 1) = false by simp only [letsTo]; rw [unhide Hq, unhide Hb]; rfl⟩
          case measure => simp [intOf]; omega
        | true =>
          have Hb := hide hb
          have hb2 : (bits BinOp.and IntKind.i64 (r / 2 ^ j) 1 == 1) = true := hb
          clear hb
          obtain ⟨rb', he, _, crow, _⟩ := hRG.rows x hx
          injection he with he; injection he with he _ _
          subst he
          have cc := (hRG.row x hx j hlt).1
          cases hMj : M x j with
          | true =>
            rw [hMj] at cc
            have HMj := hide hMj
            clear hMj
            go_wp2
            go_ret
            refine ⟨?_, ?_⟩
            · rw [letsTo_mono (j + 1) N (by omega) (show letsTo M o r x (j + 1) = true by simp only [letsTo]; rw [unhide HMj, unhide Hb]; simp)]; rfl
            · rw [unhide Hs]; exact below_drewN hB nq
          | false =>
            rw [hMj] at cc
            have HMj := hide hMj
            clear hMj
            go_wp2
            go_round
            case rel => exact ⟨j + 1, by omega, by go_num, show letsTo M o r x (j + 1) = false by simp only [letsTo]; rw [unhide Hq, unhide HMj]; simp⟩
            case measure => simp [intOf]; omega
      · have hjN : j = N := by omega
        subst hjN
        go_wp2
        go_ret
        refine ⟨?_, ?_⟩
        · rw [unhide Hq]; rfl
        · rw [unhide Hs]; exact below_drewN hB nq
end Go.Proofs.Ytkpkbhgplpmkoaa
