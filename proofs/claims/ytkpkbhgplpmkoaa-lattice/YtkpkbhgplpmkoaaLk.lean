import Derived.Test.YtkpkbhgplpmkoaaLj
namespace Go.Proofs.Ytkpkbhgplpmkoaa
open Go.RowKit

theorem or_i64 (a b : Nat) (ha : a < 64) (hb : b < 64) : bits BinOp.or IntKind.i64 (a : Int) (b : Int) = ((a ||| b : Nat) : Int) :=
  (bits_nat .i64 6 (by decide) (fun n h0 h1 => by rw [IntKind.wrap_i64]; omega) a b (by simpa using ha) (by simpa using hb)).2
theorem bit_i64 (s k : Nat) (hs : s < 64) : bits BinOp.and IntKind.i64 ((s : Int) / 2 ^ k) 1 = if s.testBit k = true then 1 else 0 := by
  have h1 : ((s : Int) / 2 ^ k) = ((s / 2 ^ k : Nat) : Int) := by rw [Int.natCast_ediv]; simp
  have h2 : s / 2 ^ k < 64 := Nat.lt_of_le_of_lt (Nat.div_le_self _ _) hs
  rw [h1]
  have h3 : bits BinOp.and IntKind.i64 ((s / 2 ^ k : Nat) : Int) 1 = ((s / 2 ^ k &&& 1 : Nat) : Int) := and_i64 (s / 2 ^ k) 1 h2 (by omega)
  rw [h3, Nat.testBit_eq_decide_div_mod_eq, Nat.and_one_is_mod]
  rcases Nat.mod_two_eq_zero_or_one (s / 2 ^ k) with h | h <;> simp [h]
theorem rd_bit {N : Nat} {O : Nat → Nat → Bool} {k who : Nat} : (rdN N O k).testBit who = (decide (who < N) && !O k who) := by rw [rdN, numOf_bit]
theorem or_sub {N : Nat} (hN : N ≤ 6) {O P : Nat → Nat → Bool} (hO : LW N O) {k : Nat} : (bits BinOp.or IntKind.i64 (rdN N O k : Int) (rdN N P k : Int) != (rdN N O k : Int)) = !sub6 (O k) (P k) := by
  rw [or_i64 _ _ (rdN_lt hN) (rdN_lt hN), ne_cast]
  cases hs : sub6 (O k) (P k) with
  | true =>
    have : rdN N O k ||| rdN N P k = rdN N O k := by
      apply Nat.eq_of_testBit_eq
      intro j
      rw [Nat.testBit_or, rd_bit, rd_bit]
      by_cases hj : j < N
      · cases hx : O k j with
        | false => simp [hj]
        | true => rw [(sub6_iff _ _).1 hs j (by omega) hx]; simp
      · simp [hj]
    rw [this]; simp
  | false =>
    have hne : (rdN N O k ||| rdN N P k) ≠ rdN N O k := by
      intro e
      have : sub6 (O k) (P k) = true := by
        rw [sub6_iff]
        intro j _ hj
        have hjN := (hO k j hj).2
        have h1 : (rdN N O k ||| rdN N P k).testBit j = (rdN N O k).testBit j := by rw [e]
        rw [Nat.testBit_or, rd_bit, rd_bit, hj] at h1
        cases hp : P k j with
        | true => rfl
        | false => rw [hp] at h1; simp [hjN] at h1
      rw [hs] at this; simp at this
    have : ((rdN N O k ||| rdN N P k) != rdN N O k) = true := by rw [bne_iff_ne]; exact hne
    rw [this]; rfl
theorem sub6_out {N : Nat} {O P : Nat → Nat → Bool} (hO : LW N O) {k : Nat} (hk : N ≤ k) : sub6 (O k) (P k) = true := by
  rw [sub6_iff]
  intro j _ hj
  have := (hO k j hj).1; omega

set_option maxHeartbeats 1000000 in
theorem refFlows_any (p N : Nat) (hN : N ≤ 6) (M : Nat → Nat → Bool) (ao : Option Addr) (m c : Nat) (X Y : Nat → Int) (hm : m ≤ 4194304) (bo : Option Addr) (n d : Nat) (X2 Y2 : Nat → Int) (hm2 : n ≤ 4194304) (w : World) (h : RO w p N M) (hP : Prs w ao m X Y) (hR : Prs w bo n X2 Y2) :
    Calls Try.prog 19 #[.pointer (some ⟨p, 0, none⟩), .slice ao m c, .slice bo n d] w fun e w' => e = .returned (.bool (flB (outP N M X Y m) (outP N M X2 Y2 n))) ∧ Below w.heap.size w w' := by
  have Hh := hide h
  have HP := hide hP
  have HR := hide hR
  have hW1 := outP_wi N M X Y m
  clear hP hR
  go_enter Try.func19, Try.ntmps19
  go_wp2
  generalize hs : w.heap.size = B at *
  have Hs := hide hs
  clear hs
  go_loopw [7] (fun t wr => ∃ (k : Nat), k ≤ N ∧ t = .int .i64 (k : Int) ∧ Hid (∀ j, j < k → sub6 (outP N M X Y m j) (outP N M X2 Y2 n j) = true) ∧ Below B w wr ∧ B ≤ wr.heap.size) (fun t _ => N - (intOf t).toNat)
  case atStart => exact ⟨0, by omega, rfl, fun j hj => by omega, Below.refl _ _, by rw [unhide Hs]; omega⟩
  case round =>
    clear h
    obtain ⟨k, hk, rfl, Hq, hB, hsz⟩ := hrel
    have hBw : Below w.heap.size w wr := by rw [unhide Hs]; exact hB
    have hRO := (unhide Hh).later hBw
    have hPr := (unhide HP).later hBw
    have hRr := (unhide HR).later hBw
    clear hBw
    have c0 : wr.cell? ⟨p, 0, none⟩ = some (.int .i64 (N : Int)) := by obtain ⟨_, _, _, hh⟩ := hRO; exact hh.n0
    by_cases hlt : k < N
    · have b1 : (0 : Int) ≤ (k : Int) := by omega
      have b2 : (k : Int) < (N : Int) := by omega
      have hor := or_sub hN hW1 (P := outP N M X2 Y2 n) (k := k)
      go_wp2_with fail
      refine (under_any p N hN M ao m c X Y hm k hlt _ hRO hPr).mono ?_
      rintro e w1 ⟨rfl, hb1⟩
      have hRO1 := hRO.later hb1
      have hRr1 := hRr.later hb1
      have hB1 := hB.trans (hb1.mono hsz)
      have hz1 := Nat.le_trans hsz hb1.size
      clear hRO hPr hRr hB hb1 c0
      go_wp2_with fail
      refine (under_any p N hN M bo n d X2 Y2 hm2 k hlt _ hRO1 hRr1).mono ?_
      rintro e w2 ⟨rfl, hb2⟩
      have hB2 := hB1.trans (hb2.mono hz1)
      have hz2 := Nat.le_trans hz1 hb2.size
      clear hRO1 hRr1 hB1 hb2
      cases hsb : sub6 (outP N M X Y m k) (outP N M X2 Y2 n k) with
      | true =>
        rw [hsb] at hor
        have Hk := hide hsb
        clear hsb
        go_wp2
        go_roundw
        case rel => exact ⟨k + 1, by omega, by go_num, fun j hj => by by_cases e : j = k; rw [e]; exact unhide Hk; exact unhide Hq j (by omega), hB2, hz2⟩
        case measure => simp [intOf]; omega
      | false =>
        rw [hsb] at hor
        have Hk := hide hsb
        clear hsb
        go_wp2
        go_ret
        exact ⟨by rw [flB_no (by omega) (unhide Hk)]; rfl, by rw [unhide Hs]; exact hB2⟩
    · have hkN : k = N := by omega
      subst hkN
      go_wp2
      go_ret
      refine ⟨?_, by rw [unhide Hs]; exact hB⟩
      rw [flB_yes (fun j _ => by by_cases hj : j < k; exact unhide Hq j hj; exact sub6_out hW1 (by omega))]; rfl

set_option maxHeartbeats 1000000 in
theorem refReads_any (p N : Nat) (hN : N ≤ 6) (M : Nat → Nat → Bool) (ao : Option Addr) (m c : Nat) (X Y : Nat → Int) (hm : m ≤ 4194304) (x : Int) (w : World) (h : RO w p N M) (hP : Prs w ao m X Y) :
    Calls Try.prog 20 #[.pointer (some ⟨p, 0, none⟩), .int .i64 x, .slice ao m c] w fun e w' => e = .returned (.bool (rdB N (outP N M X Y m) x)) ∧ Below w.heap.size w w' := by
  have c0 : w.cell? ⟨p, 0, none⟩ = some (.int .i64 (N : Int)) := by obtain ⟨_, _, _, hh⟩ := h; exact hh.n0
  have hW1 := outP_wi N M X Y m
  by_cases hx0 : x < 0
  · have hr : rdB N (outP N M X Y m) x = false := by simp [rdB, inB]; omega
    clear h hP
    go_enter Try.func20, Try.ntmps20
    go_wp2
    go_ret
    exact ⟨by first | rfl | (rw [hr]; rfl), Below.refl _ _⟩
  · by_cases hx1 : x < N
    · obtain ⟨y, rfl⟩ : ∃ y : Nat, x = y := Int.eq_ofNat_of_zero_le (by omega)
      have hy : y < N := by omega
      have b0 : (0 : Int) ≤ (y : Int) := by omega
      have b01 : (y : Int) < 64 := by omega
      have hin : inB N (y : Int) = true := by simp [inB]; omega
      have Hin := hide hin
      have Hh := hide h
      have HP := hide hP
      clear hP hin
      go_enter Try.func20, Try.ntmps20
      go_wp2
      clear c0
      generalize hs : w.heap.size = B at *
      have Hs := hide hs
      clear hs
      go_loopw [7] (fun t wr => ∃ (k : Nat), k ≤ N ∧ t = .int .i64 (k : Int) ∧ Hid (∀ j, j < k → outP N M X Y m j y = false) ∧ Below B w wr ∧ B ≤ wr.heap.size) (fun t _ => N - (intOf t).toNat)
      case atStart => exact ⟨0, by omega, rfl, fun j hj => by omega, Below.refl _ _, by rw [unhide Hs]; omega⟩
      case round =>
        clear h
        obtain ⟨k, hk, rfl, Hq, hB, hsz⟩ := hrel
        have hBw : Below w.heap.size w wr := by rw [unhide Hs]; exact hB
        have hRO := (unhide Hh).later hBw
        have hPr := (unhide HP).later hBw
        clear hBw
        have c0 : wr.cell? ⟨p, 0, none⟩ = some (.int .i64 (N : Int)) := by obtain ⟨_, _, _, hh⟩ := hRO; exact hh.n0
        by_cases hlt : k < N
        · have b1 : (0 : Int) ≤ (k : Int) := by omega
          have b2 : (k : Int) < (N : Int) := by omega
          have hbit := bit_i64 (rdN N (outP N M X Y m) k) y (rdN_lt hN)
          rw [rd_bit] at hbit
          go_wp2_with fail
          refine (under_any p N hN M ao m c X Y hm k hlt _ hRO hPr).mono ?_
          rintro e w1 ⟨rfl, hb1⟩
          have hB1 := hB.trans (hb1.mono hsz)
          have hz1 := Nat.le_trans hsz hb1.size
          clear hRO hPr hB hb1 c0
          cases hsb : outP N M X Y m k y with
          | true =>
            rw [hsb] at hbit
            simp only [Bool.not_true, Bool.and_false, Bool.false_eq_true, if_false] at hbit
            have Hk := hide hsb
            clear hsb
            go_wp2
            go_ret
            refine ⟨?_, by rw [unhide Hs]; exact hB1⟩
            have e1 : rdB N (outP N M X Y m) (y : Int) = false := by
              simp only [rdB, Int.toNat_natCast, rd_no (k := k) (by omega) (unhide Hk), Bool.and_false]
            rw [e1]; rfl
          | false =>
            rw [hsb] at hbit
            have hdy : decide (y < N) = true := by simp; exact hy
            rw [hdy] at hbit
            simp only [Bool.not_false, Bool.and_true, if_true] at hbit
            clear hdy
            have Hk := hide hsb
            clear hsb
            go_wp2
            go_roundw
            case rel => exact ⟨k + 1, by omega, by go_num, fun j hj => by by_cases e : j = k; rw [e]; exact unhide Hk; exact unhide Hq j (by omega), hB1, hz1⟩
            case measure => simp [intOf]; omega
        · have hkN : k = N := by omega
          subst hkN
          go_wp2
          go_ret
          refine ⟨?_, by rw [unhide Hs]; exact hB⟩
          have e1 : rdB k (outP k M X Y m) (y : Int) = true := by
            simp only [rdB, Int.toNat_natCast, unhide Hin, Bool.true_and]
            apply rd_yes
            intro j _
            by_cases hj : j < k
            · exact unhide Hq j hj
            · cases hh : outP k M X Y m j y with
              | false => rfl
              | true => have := (hW1 j y hh).1; omega
          rw [e1]; rfl
    · have hr : rdB N (outP N M X Y m) x = false := by simp [rdB, inB]; omega
      clear h hP
      go_enter Try.func20, Try.ntmps20
      go_wp2
      go_ret
      exact ⟨by first | rfl | (rw [hr]; rfl), Below.refl _ _⟩
end Go.Proofs.Ytkpkbhgplpmkoaa
