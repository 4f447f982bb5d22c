import Derived.Test.YtkpkbhgplpmkoaaLg
import Derived.Test.YtkpkbhgplpmkoaaLl
import Derived.Test.YtkpkbhgplpmkoaaLm
import Derived.Test.YtkpkbhgplpmkoaaLn
namespace Go.Proofs.Ytkpkbhgplpmkoaa
open Go.RowKit

theorem clampB (n : Int) : ∃ N : Nat, N ≤ 6 ∧ ((n < 0 ∧ N = 0) ∨ (6 < n ∧ N = 6) ∨ n = N) := by
  by_cases h0 : n < 0
  · exact ⟨0, by omega, Or.inl ⟨h0, rfl⟩⟩
  · by_cases h6 : 6 < n
    · exact ⟨6, by omega, Or.inr (Or.inl ⟨h6, rfl⟩)⟩
    · exact ⟨n.toNat, by omega, Or.inr (Or.inr (by omega))⟩
def XX (l : List (Nat × Nat)) : Nat → Int := fun i => ((l.getD i (0, 0)).1 : Int)
def YY (l : List (Nat × Nat)) : Nat → Int := fun i => ((l.getD i (0, 0)).2 : Int)
theorem own_pol {w : World} {base e : Nat} {v : Value} {l : List (Nat × Nat)} (h : w.ownsRow base e 2 v l.length (polC l)) : ∃ ao c, v = .slice ao l.length c ∧ Beg ao l.length c ∧ Prs w ao l.length (XX l) (YY l) := by
  rcases h.2 with ⟨h1, h2⟩ | ⟨g, cap, cur, h1, _⟩
  · exact ⟨none, 0, by rw [h1, h2], Or.inl ⟨rfl, h2, rfl⟩, fun k hk => by omega⟩
  · subst h1
    refine ⟨_, _, rfl, Or.inr ⟨g, rfl⟩, fun k hk => ⟨g, rfl, ?_, ?_⟩⟩
    · rw [h.cellAt (k * 2) (by omega), (polC_get l k hk).1]; simp [XX, List.getD_eq_getElem?_getD, hk]
    · rw [h.cellAt (k * 2 + 1) (by omega), (polC_get l k hk).2]; simp [YY, List.getD_eq_getElem?_getD, hk]
/-- A slice of pairs out of a list of numbers. -/
theorem own_two {w : World} {base e : Nat} {v : Value} {j : Nat} {L : Nat → Int} (h : w.ownsRow base e 2 v j (prL L j)) : ∃ ao c, v = .slice ao j c ∧ Beg ao j c ∧ Prs w ao j (fun i => L (2 * i)) (fun i => L (2 * i + 1)) := by
  have e : prL L j = prL (zipL (fun i => L (2 * i)) (fun i => L (2 * i + 1))) j := by
    apply prL_congr
    intro i _
    simp only [zipL]
    rcases Nat.mod_two_eq_zero_or_one i with h0 | h0
    · rw [if_pos h0]; congr 1; omega
    · rw [if_neg (by omega)]; congr 1; omega
  rw [e] at h
  exact own_pairs h

set_option maxRecDepth 100000 in
set_option maxHeartbeats 2000000 in
theorem labels_walk (n : Int) (ao : Option Addr) (m c : Nat) (L : Nat → Int) (a1 : Option Addr) (m1 c1 : Nat) (L1 : Nat → Int) (a2 : Option Addr) (m2 c2 : Nat) (L2 : Nat → Int) (x : Int) (w : World)
    (hL : Ints w ao m L) (hL1 : Ints w a1 m1 L1) (hL2 : Ints w a2 m2 L2) :
    Calls Try.prog 4 #[.int .i64 n, .slice ao m c, .slice a1 m1 c1, .slice a2 m2 c2, .int .i64 x] w fun e w' => e = .returned (.bool true) ∧ Below w.heap.size w w' := by
  by_cases hm : m ≤ 1048576
  · have hd : decide ((m : Int) ≤ 1048576) = true := by simp; omega
    have Hd := hide hd
    clear hd
    by_cases hm1 : m1 ≤ 1048576
    · have t1 : decide ((1048576 : Int) < (m1 : Int)) = false := by simp; omega
      by_cases hm2 : m2 ≤ 1048576
      · have t2 : decide ((1048576 : Int) < (m2 : Int)) = false := by simp; omega
        obtain ⟨N, hN, hn⟩ := clampB n
        have Hn := hide hn
        clear hn
        go_enter Try.func4, Try.ntmps4
        go_wp2_with fail
        refine (small_any _ rfl ao m c _).mono ?_
        rintro e w1 ⟨rfl, rfl⟩
        rw [unhide Hd]
        go_wp2_with fail
        refine (newOrderP_any n N hN (unhide Hn) ao m c L hm _ hL).mono ?_
        rintro e w2 ⟨A, p, b, rfl, hp, hb, hcp, hO, hC, hb2⟩
        have hPO : PO w2 p N A := ⟨b, hcp, hO⟩
        have hM2 := hL.later hb2
        have hM21 := hL1.later hb2
        have hM22 := hL2.later hb2
        clear hcp hO
        go_wp2_with fail
        refine (refNew_any n N hN (unhide Hn) ao m c L hm _ hM2).mono ?_
        rintro e w3 ⟨r, M, rfl, hr, hRO, hM, hb3⟩
        have hE : outW (prsXY N (fun i => L (2 * i)) (fun i => L (2 * i + 1)) (m / 2)) 6 = M := (outW_clo hN (prsXY_wi N _ _ _)).one hM
        rw [hE] at hC
        have hPO3 := hPO.later hb3
        have hM31 := hM21.later hb3
        have hM32 := hM22.later hb3
        have hB3 := hb2.trans (hb3.mono hb2.size)
        clear hM2 hM21 hM22 hE hM hPO hb2 hb3
        go_wp2_with fail
        refine (pols_any a1 m1 c1 L1 hm1 _ hM31).mono ?_
        rintro e w4 ⟨va, vc, rfl, hva, hvc, hb4⟩
        have hPO4 := hPO3.later hb4
        have hRO4 := hRO.later hb4
        have hM42 := hM32.later hb4
        have hB4 := hB3.trans (hb4.mono hB3.size)
        clear hPO3 hRO hM31 hM32 hB3 hb4
        go_wp2_with fail
        refine (pols_any a2 m2 c2 L2 hm2 _ hM42).mono ?_
        rintro e w5 ⟨vb, vd, rfl, hvb, hvd, hb5⟩
        have hPO5 := hPO4.later hb5
        have hRO5 := hRO4.later hb5
        have hva5 := own_later hva hb5
        have hvc5 := own_later hvc hb5
        have hB5 := hB4.trans (hb5.mono hB4.size)
        clear hPO4 hRO4 hM42 hB4 hb5 hva hvc
        obtain ⟨oa, ca, rfl, ba, pa⟩ := own_two hva5
        obtain ⟨oc, cc, rfl, bc, pc⟩ := own_two hvc5
        obtain ⟨ob, cb, rfl, bb, pb⟩ := own_two hvb
        obtain ⟨od, cd, rfl, bd, pd⟩ := own_two hvd
        clear hva5 hvc5 hvb hvd
        generalize (fun i => L1 (2 * i)) = X1 at *
        generalize (fun i => L1 (2 * i + 1)) = Y1 at *
        generalize (fun i => L2 (2 * i)) = X2 at *
        generalize (fun i => L2 (2 * i + 1)) = Y2 at *
        have hk1 : m1 / 2 ≤ 1048576 := by omega
        have hk2 : m2 / 2 ≤ 1048576 := by omega
        generalize m1 / 2 = k1 at *
        generalize m2 / 2 = k2 at *
        clear hL hL1 hL2
        go_wp2
        go_loopw [18] (fun t wr => ∃ (k : Nat), k ≤ 2 ∧ t = .int .i64 (k : Int) ∧ Below w5.heap.size w5 wr) (fun t _ => 2 - (intOf t).toNat)
        case atStart => exact ⟨0, by omega, rfl, Below.refl _ _⟩
        case round =>
          obtain ⟨k, hk, rfl, hBl⟩ := hrel
          by_cases hlt : k < 2
          · have e1 := hPO5.later hBl
            have e2 := hRO5.later hBl
            have ea := pa.later hBl
            have ec := pc.later hBl
            have eb := pb.later hBl
            have ed := pd.later hBl
            have hS0 := hBl.size
            have bk1 : (0 : Int) ≤ (k : Int) := by omega
            have bk2 : (k : Int) < 2 := by omega
            go_wp2_with fail
            refine (normP_any p N hN A M hC oa k1 ca X1 Y1 (by omega) _ e1 ea).mono ?_
            rintro e u1 ⟨vp, rfl, hvp, hb1⟩
            have Hvpl := hide (fun g (e : vp.ownBlock = some g) => (hvp.lt g e).2)
            have hT1 := hBl.trans (hb1.mono hS0)
            have hS1 := hT1.size
            have f1 := hPO5.later hT1
            have fa := pa.later hT1
            have fb := pb.later hT1
            clear e1 e2 ea ec eb ed
            go_wp2_with fail
            refine (joinP_any p N hN A M hC oa k1 ca X1 Y1 (by omega) ob k2 cb X2 Y2 (by omega) _ f1 fa fb).mono ?_
            rintro e u2 ⟨vq, rfl, hvq, hb2⟩
            have hvp2 := own_later hvp hb2
            have hT2 := hT1.trans (hb2.mono hS1)
            have hS2 := hT2.size
            have f1 := hPO5.later hT2
            have fa := pa.later hT2
            have fb := pb.later hT2
            clear hvp
            go_wp2_with fail
            refine (flowsP_any p N hN A M hC oa k1 ca X1 Y1 (by omega) ob k2 cb X2 Y2 (by omega) _ f1 fa fb).mono ?_
            rintro e u3 ⟨rfl, hb3⟩
            have hvp3 := own_later hvp2 hb3
            have hvq3 := own_later hvq hb3
            have hT3 := hT2.trans (hb3.mono hS2)
            have hS3 := hT3.size
            have f1 := hPO5.later hT3
            have fa := pa.later hT3
            clear hvp2 hvq
            go_wp2_with fail
            refine (readsP_any p N hN A M hC oa k1 ca X1 Y1 (by omega) x _ f1 fa).mono ?_
            rintro e u4 ⟨rfl, hb4⟩
            have hvp4 := own_later hvp3 hb4
            have hvq4 := own_later hvq3 hb4
            have hT4 := hT3.trans (hb4.mono hS3)
            have hS4 := hT4.size
            have g1 := hRO5.later hT4
            have gc := pc.later hT4
            clear hvp3 hvq3 f1 fa fb
            go_wp2_with fail
            refine (refNorm_any r N hN M oc k1 cc X1 Y1 (by omega) _ g1 gc).mono ?_
            rintro e u5 ⟨vs, rfl, hvs, hb5⟩
            have hvp5 := own_later hvp4 hb5
            have hvq5 := own_later hvq4 hb5
            have hT5 := hT4.trans (hb5.mono hS4)
            have hS5 := hT5.size
            have g1 := hRO5.later hT5
            have gc := pc.later hT5
            have gd := pd.later hT5
            clear hvp4 hvq4
            go_wp2_with fail
            refine (refJoin_any r N hN M oc k1 cc X1 Y1 (by omega) od k2 cd X2 Y2 (by omega) bc bd _ g1 gc gd).mono ?_
            rintro e u6 ⟨vt, rfl, hvt, hb6⟩
            have hvp6 := own_later hvp5 hb6
            have hvq6 := own_later hvq5 hb6
            have hvs6 := own_later hvs hb6
            have hT6 := hT5.trans (hb6.mono hS5)
            have hS6 := hT6.size
            have g1 := hRO5.later hT6
            have gc := pc.later hT6
            have gd := pd.later hT6
            clear hvp5 hvq5 hvs
            go_wp2_with fail
            refine (refFlows_any r N hN M oc k1 cc X1 Y1 (by omega) od k2 cd X2 Y2 (by omega) _ g1 gc gd).mono ?_
            rintro e u7 ⟨rfl, hb7⟩
            have hvp7 := own_later hvp6 hb7
            have hvq7 := own_later hvq6 hb7
            have hvs7 := own_later hvs6 hb7
            have hvt7 := own_later hvt hb7
            have hT7 := hT6.trans (hb7.mono hS6)
            have hS7 := hT7.size
            have g1 := hRO5.later hT7
            have gc := pc.later hT7
            clear hvp6 hvq6 hvs6 hvt
            go_wp2_with fail
            refine (refReads_any r N hN M oc k1 cc X1 Y1 (by omega) x _ g1 gc).mono ?_
            rintro e u8 ⟨rfl, hb8⟩
            have hvp8 := own_later hvp7 hb8
            have hvq8 := own_later hvq7 hb8
            have hvs8 := own_later hvs7 hb8
            have hvt8 := own_later hvt7 hb8
            have hT8 := hT7.trans (hb8.mono hS7)
            have hS8 := hT8.size
            clear hvp7 hvq7 hvs7 hvt7 g1 gc gd
            have ll1 := normTo_len N M (outP N M X1 Y1 k1) N
            have ll2 := normTo_len N M (fun k who => outP N M X1 Y1 k1 k who || outP N M X2 Y2 k2 k who) N
            generalize flB (outP N M X1 Y1 k1) (outP N M X2 Y2 k2) = fl at *
            generalize rdB N (outP N M X1 Y1 k1) x = rd at *
            generalize normTo N M (outP N M X1 Y1 k1) N = l1 at *
            generalize normTo N M (fun k who => outP N M X1 Y1 k1 k who || outP N M X2 Y2 k2 k who) N = l2 at *
            obtain ⟨op, cp, hpe, _, pp⟩ := own_pol hvp8
            obtain ⟨os, cs, hse, _, ps⟩ := own_pol hvs8
            obtain ⟨oq, cq, hqe, _, pq⟩ := own_pol hvq8
            obtain ⟨ot, ct, hte, _, pt⟩ := own_pol hvt8
            subst hpe hse hqe hte
            go_wp2_with fail
            refine (same_any op l1.length cp os cs (XX l1) (YY l1) (by omega) _ pp ps).mono ?_
            rintro e u9 ⟨rfl, hb9⟩
            have hvp9 := own_later hvp8 hb9
            have hvq9 := own_later hvq8 hb9
            have pq9 := pq.later hb9
            have pt9 := pt.later hb9
            have hT9 := hT8.trans (hb9.mono hS8)
            have hS9 := hT9.size
            clear hvp8 hvq8 hvs8 hvt8 pp ps pq pt
            go_wp2_with fail
            refine (same_any oq l2.length cq ot ct (XX l2) (YY l2) (by omega) _ pq9 pt9).mono ?_
            rintro e u10 ⟨rfl, hb10⟩
            have hvp10 := own_later hvp9 hb10
            have hvq10 := own_later hvq9 hb10
            have hT10 := hT9.trans (hb10.mono hS9)
            have hS10 := hT10.size
            have ga := pa.later hT10
            have gc := pc.later hT10
            clear hvp9 hvq9 pq9 pt9
            go_wp2_with fail
            refine (same_any oa k1 ca oc cc X1 Y1 (by omega) _ ga gc).mono ?_
            rintro e u11 ⟨rfl, hb11⟩
            have hvp11 := own_later hvp10 hb11
            have hvq11 := own_later hvq10 hb11
            have hT11 := hT10.trans (hb11.mono hS10)
            have hS11 := hT11.size
            clear hvp10 hvq10 ga gc
            go_wp2_with fail
            refine (spoil_any _ _ _ _ _ hvp11).mono ?_
            rintro e u12 ⟨rfl, hg12⟩
            have hT12 : Below w5.heap.size w5 u12 := hT11.grown hg12 hS11 (fun q e => Nat.le_trans hS0 (hvp11.lt q e).1)
            have hS12 := hT12.size
            have hvq12 := kept_other hvq11 hg12 (fun g e1 e2 => by have h1 := unhide Hvpl g e1; have h2 := (hvq11.lt g e2).1; omega)
            clear hvp11 hvq11
            go_wp2_with fail
            refine (spoil_any _ _ _ _ _ hvq12).mono ?_
            rintro e u13 ⟨rfl, hg13⟩
            have hT13 : Below w5.heap.size w5 u13 := hT12.grown hg13 hS12 (fun q e => Nat.le_trans hS1 (hvq12.lt q e).1)
            go_wp2
            go_roundw
            case rel => exact ⟨k + 1, by omega, by go_num, hT13⟩
            case measure => simp [intOf]; omega
          · have hk2 : k = 2 := by omega
            subst hk2
            go_wp2
            go_ret
            exact ⟨rfl, hB5.trans (hBl.mono hB5.size)⟩
      · have t2 : decide ((1048576 : Int) < (m2 : Int)) = true := by simp; omega
        go_enter Try.func4, Try.ntmps4
        go_wp2_with fail
        refine (small_any _ rfl ao m c _).mono ?_
        rintro e w1 ⟨rfl, rfl⟩
        rw [unhide Hd]
        go_wp2
        go_ret
        exact ⟨rfl, Below.refl _ _⟩
    · have t1 : decide ((1048576 : Int) < (m1 : Int)) = true := by simp; omega
      go_enter Try.func4, Try.ntmps4
      go_wp2_with fail
      refine (small_any _ rfl ao m c _).mono ?_
      rintro e w1 ⟨rfl, rfl⟩
      rw [unhide Hd]
      go_wp2
      go_ret
      exact ⟨rfl, Below.refl _ _⟩
  · have hd : decide ((m : Int) ≤ 1048576) = false := by simp; omega
    have Hd := hide hd
    clear hd
    go_enter Try.func4, Try.ntmps4
    go_wp2_with fail
    refine (small_any _ rfl ao m c _).mono ?_
    rintro e w1 ⟨rfl, rfl⟩
    rw [unhide Hd]
    go_wp2
    go_ret
    exact ⟨rfl, Below.refl _ _⟩
end Go.Proofs.Ytkpkbhgplpmkoaa
