import Derived.Test.YtkpkbhgplpmkoaaWf
namespace Go.Proofs.Ytkpkbhgplpmkoaa
open Go.RowKit

theorem prsXY_wi (n : Nat) (X Y : Nat → Int) (k : Nat) : Wi n (prsXY n X Y k) := by
  induction k with
  | zero => intro a b h; simp [prsXY, m0] at h; omega
  | succ k ih =>
    intro a b h
    simp only [prsXY, addP, Bool.or_eq_true, decide_eq_true_eq] at h
    rcases h with h | h
    · exact ih a b h
    · omega
/-- The reference's order in memory. -/
def RO (w : World) (p N : Nat) (M : Nat → Nat → Bool) : Prop := ∃ ao cap R, RG w p N ao cap R M
theorem RO.later {w w' : World} {p N : Nat} {M : Nat → Nat → Bool} (h : RO w p N M) (hb : Below w.heap.size w w') : RO w' p N M := by
  obtain ⟨ao, cap, R, h⟩ := h
  exact ⟨ao, cap, R, h.later hb⟩
theorem Try.info4 : (Try.prog.info? 4).map (fun i => (i.zero, i.size, i.bytes)) = some (some (.bool false), 1, 1) := by kernel_rfl
theorem Try.info59 : (Try.prog.info? 59).map (fun i => (i.zero, i.size, i.bytes)) = some (some (.slice none 0 0), 1, 24) := by kernel_rfl

set_option maxRecDepth 100000 in
set_option maxHeartbeats 1000000 in
theorem refNew_any (n : Int) (N : Nat) (hN : N ≤ 6) (hn : (n < 0 ∧ N = 0) ∨ (6 < n ∧ N = 6) ∨ n = N) (ao : Option Addr) (m c : Nat) (L : Nat → Int) (hm : m ≤ 1048576) (w : World) (hL : Ints w ao m L) :
    Calls Try.prog 8 #[.int .i64 n, .slice ao m c] w fun e w' =>
      ∃ (p : Nat) (M : Nat → Nat → Bool), e = .returned (.pointer (some ⟨p, 0, none⟩)) ∧ w.heap.size ≤ p ∧ RO w' p N M ∧ Clo (prsXY N (fun q => L (2 * q)) (fun q => L (2 * q + 1)) (m / 2)) M ∧ Below w.heap.size w w' := by
  obtain ⟨i4, hi4, hz40, hz41, hz42⟩ := info_parts Try.info4
  obtain ⟨i59, hi59, hz590, hz591, hz592⟩ := info_parts Try.info59
  go_enter Try.func8, Try.ntmps8
  go_upto_if 16 with fail
  go_cut [0] (fun s0 wc => ∃ n1 : Int, s0 = .int .i64 n1 ∧ ((6 < n1 ∧ N = 6) ∨ n1 = N) ∧ w = wc)
  case first =>
    rcases hn with ⟨h1, h2⟩ | ⟨h1, h2⟩ | h1
    · go_wp2
      all_goals go_meet
      all_goals exact ⟨0, rfl, Or.inr (by omega), rfl⟩
    · go_wp2
      all_goals go_meet
      all_goals exact ⟨n, rfl, Or.inl ⟨h1, h2⟩, rfl⟩
    · go_wp2
      all_goals go_meet
      all_goals exact ⟨n, rfl, Or.inr h1, rfl⟩
  case rest =>
    obtain ⟨n1, rfl, hn1, rfl⟩ := hcut
    go_upto_if 18 with fail
    go_cut [0] (fun s0 wc => s0 = .int .i64 (N : Int) ∧ w = wc)
    case first =>
      rcases hn1 with ⟨h1, h2⟩ | h1
      · subst h2
        go_wp2
        all_goals go_meet
        all_goals exact ⟨rfl, rfl⟩
      · subst h1
        go_wp2
        all_goals go_meet
        all_goals exact ⟨rfl, rfl⟩
    case rest =>
      obtain ⟨rfl, rfl⟩ := hcut
      clear hn hn1
      go_wp2
      have hG0 : Grid (w.alloc (.cells #[.int .i64 (N : Int), .slice none 0 0] 32)) w.heap.size N 0 (.slice none 0 0) (fun _ => 0) (m0 N) :=
        ⟨by simp, by simp, by simp, World.ownsRow_nil _ _ _ _, fun a h => by omega, fun a h => by omega, fun a a' h => by omega, fun a h => by omega⟩
      have hB0 : Below w.heap.size w (w.alloc (.cells #[.int .i64 (N : Int), .slice none 0 0] 32)) := by go_grown
      have hS0 : w.heap.size < (w.alloc (.cells #[.int .i64 (N : Int), .slice none 0 0] 32)).heap.size := by simp
      generalize (w.alloc (.cells #[.int .i64 (N : Int), .slice none 0 0] 32)) = W at *
      generalize hB : w.heap.size = B at *
      have HB := hide hB
      clear hB
      go_loopw [6] (fun t wr => ∃ (i : Nat) (v : Value) (R : Nat → Nat), i ≤ N ∧ t = .int .i64 (i : Int) ∧ Grid wr B N i v R (m0 N) ∧ Below B w wr ∧ B < wr.heap.size) (fun t _ => N - (intOf t).toNat)
      case atStart => exact ⟨0, _, _, by omega, rfl, hG0, hB0, hS0⟩
      case round =>
        clear hG0 hB0 hS0
        obtain ⟨i, v, R, hi, rfl, hG, hBr, hsz⟩ := hrel
        by_cases hlt : i < N
        · have b1 : (0 : Int) ≤ (i : Int) := by omega
          have b2 : (i : Int) < (N : Int) := by omega
          have hown := hG.own
          have cob := hG.ov
          have hvo : ∀ q, v.ownBlock = some q → B + 1 ≤ q ∧ q < wr.heap.size := fun q e => hown.lt q e
          go_wp2_with (first
            | (at_make; refine wpList_make_full _ rfl _ _ 59 rfl (B + 1) 4 i4 (.bool false) 1 Try.underlying59 hi4 hz40 hz41 .i64 .i64 (N : Int) (N : Int) N rfl rfl rfl rfl (by rw [hz42]; omega) (by unfold maxLen; omega) (by omega) ?_; intro w1 hmk hg1; have hc1 := made_cell hmk i hlt; have hf1 := hmk.frozenAt i; have hz1 := (hmk.lt wr.heap.size rfl).2; have hcb := hg1.cell cob (by simp); have ho1 := own_after (i := i) hown hmk hg1)
            | (at_builtin; go_must (refine wpList_append_lies _ (by rfl) _ _ _ (by rfl) (B + 1) 59 i59 _ 1 24 Try.underlying30 hi59 hz590 hz591 hz592 rfl (by omega) v i _ (by rfl) (ho1.alloc _) ⟨w1.heap.size, 0, none⟩ 1 1 [.slice (some ⟨wr.heap.size, 0, none⟩) N N] (by rfl) (by rfl) (World.news_of_block (cs := #[.slice (some ⟨wr.heap.size, 0, none⟩) N N]) (t := 59) (fr := (0, 0)) (by have h := heap_alloc_new (w1.setCell ⟨wr.heap.size, i, none⟩ (.bool true)) (.cells #[.slice (some ⟨wr.heap.size, 0, none⟩) N N] 59); rw [World.size_setCell] at h; exact h)) (by simp [Value.oneCell']) (by omega) (by unfold maxLen; omega) (by omega) (by simp; omega) (w1.heap.size + 1) (by simp) ?_); intro g cap w4 hown4 hg4 hat hlt4; obtain ⟨hcb4, hfb4⟩ := ob_after hG hsz hg1 hg4)
            | fail)
          go_roundw
          case rel =>
            obtain ⟨g1, g2, g3⟩ := hG.push hsz hlt hmk hg1 hown4 hg4 hat
            exact ⟨i + 1, _, _, by omega, by go_num, g1, hBr.trans g2, g3⟩
          case measure => simp [intOf]; omega
        · have hiN : i = N := by omega
          subst hiN
          obtain ⟨rv, rcap, rfl, hRG⟩ := hG.whole
          have hRG' := hide hRG
          clear hG hRG
          go_wp2
          go_loopw [8] (fun t ws => ∃ (j k : Nat) (M : Nat → Nat → Bool), Hid (k = 2 * j) ∧ k ≤ m ∧ t = .int .i64 (k : Int) ∧ RG ws B i rv rcap R M ∧ M = prsXY i (fun q => L (2 * q)) (fun q => L (2 * q + 1)) j ∧ Below B w ws ∧ B < ws.heap.size) (fun t _ => m - (intOf t).toNat)
          case atStart => exact ⟨0, 0, _, rfl, by omega, rfl, unhide hRG', rfl, hBr, hsz⟩
          case round =>
            clear hRG' hBr hsz
            obtain ⟨j, k, M, Hk, hkm, rfl, hRG, hM, hBr, hsz⟩ := hrel
            have HM := hide hM
            clear hM
            by_cases hlt2 : k + 1 < m
            · obtain ⟨b, off, rfl, cx0⟩ := hL k (by omega)
              obtain ⟨b', off', he, cy0⟩ := hL (k + 1) (by omega)
              injection he with he; injection he with he1 he2 _
              subst he1 he2
              have hg : b < B := by have := World.block_lt_of_cell? w _ cx0; rw [unhide HB] at this; exact this
              have cx : wr.cell? ⟨b, off + k, none⟩ = some (.int .i64 (L k)) := (hBr.cell (p := ⟨b, off + k, none⟩) hg).trans cx0
              have cy : wr.cell? ⟨b, off + (k + 1), none⟩ = some (.int .i64 (L (k + 1))) := (hBr.cell (p := ⟨b, off + (k + 1), none⟩) hg).trans cy0
              clear cx0 cy0
              have hk2 : k = 2 * j := unhide Hk
              have hNx : Hid (prsXY i (fun q => L (2 * q)) (fun q => L (2 * q + 1)) (j + 1) = addP i M (L k) (L (k + 1))) := by
                show prsXY i _ _ (j + 1) = _
                rw [unhide HM, hk2]; rfl
              have hk3 : Hid (k + 2 = 2 * (j + 1)) := show k + 2 = 2 * (j + 1) by omega
              clear hk2
              generalize L k = x at *
              generalize L (k + 1) = y at *
              have b1 : (0 : Int) ≤ (k : Int) := by omega
              have b2 : (k : Int) + 1 < (m : Int) := by omega
              have b3 : (k : Int) < (m : Int) := by omega
              by_cases hx0 : 0 ≤ x
              · by_cases hx1 : x < i
                · by_cases hy0 : 0 ≤ y
                  · by_cases hy1 : y < i
                    · obtain ⟨p, rfl⟩ : ∃ p : Nat, x = p := Int.eq_ofNat_of_zero_le hx0
                      obtain ⟨q, rfl⟩ : ∃ p : Nat, y = p := Int.eq_ofNat_of_zero_le hy0
                      have hp : p < i := by omega
                      have hq : q < i := by omega
                      obtain ⟨rb, rfl, hob, crow, hne⟩ := hRG.rows p hp
                      have cob := hRG.ov
                      have ccell := (hRG.row p hp q hq).1
                      have cfz := (hRG.row p hp q hq).2
                      have Hne := hide hne
                      clear hne
                      go_wp2
                      go_roundw
                      case rel =>
                        refine ⟨j + 1, k + 2, _, hk3, by omega, by go_num, hRG.set hp hq, ?_, hBr.setCell (by have := hRG.ge p hp; simp; omega) _, by simpa using hsz⟩
                        rw [unhide hNx, addP_set hp hq]
                      case measure => simp [intOf]; omega
                    · go_wp2
                      go_roundw
                      case rel => exact ⟨j + 1, k + 2, M, hk3, by omega, by go_num, hRG, by rw [unhide hNx, addP_no (Or.inr (by simp [inB]; omega))], hBr, hsz⟩
                      case measure => simp [intOf]; omega
                  · go_wp2
                    go_roundw
                    case rel => exact ⟨j + 1, k + 2, M, hk3, by omega, by go_num, hRG, by rw [unhide hNx, addP_no (Or.inr (by simp [inB]; omega))], hBr, hsz⟩
                    case measure => simp [intOf]; omega
                · go_wp2
                  go_roundw
                  case rel => exact ⟨j + 1, k + 2, M, hk3, by omega, by go_num, hRG, by rw [unhide hNx, addP_no (Or.inl (by simp [inB]; omega))], hBr, hsz⟩
                  case measure => simp [intOf]; omega
              · go_wp2
                go_roundw
                case rel => exact ⟨j + 1, k + 2, M, hk3, by omega, by go_num, hRG, by rw [unhide hNx, addP_no (Or.inl (by simp [inB]; omega))], hBr, hsz⟩
                case measure => simp [intOf]; omega
            · clear hL
              have hj : j = m / 2 := by have := unhide Hk; omega
              have hMM : Hid (M = prsXY i (fun q => L (2 * q)) (fun q => L (2 * q + 1)) (m / 2)) := by rw [← hj]; exact HM
              clear HM Hk hj
              have hWi : Wi i M := by rw [unhide hMM]; exact prsXY_wi _ _ _ _
              have HWi := hide hWi
              clear hWi
              go_wp2
              go_loopg [11] (i * i - cnt i M + 1) (fun g s wx => ∃ (t : Bool) (M1 : Nat → Nat → Bool), s = .bool t ∧ RG wx B i rv rcap R M1 ∧ Mid i M M1 ∧ (t = false → ∀ a b c, a < i → b < i → c < i → T3 M1 a b c) ∧ g = (if t = true then i * i - cnt i M1 + 1 else 0) ∧ Below B w wx ∧ B < wx.heap.size)
              case atStart => exact ⟨true, M, rfl, hRG, Mid.refl (unhide HWi), fun h => by simp at h, by simp, hBr, hsz⟩
              case round =>
                clear hRG hBr hsz
                obtain ⟨t, M1, rfl, hRG, hMid, hTr, hgk, hBr, hsz⟩ := hrel
                have Hgk := hide hgk
                clear hgk
                cases t with
                | false =>
                  have Htr := hide (hTr rfl)
                  clear hTr
                  go_wp2
                  go_ret
                  refine ⟨B, M1, rfl, by rw [unhide HB]; omega, ⟨_, _, _, hRG⟩, ?_, by rw [unhide HB]; exact hBr⟩
                  rw [← unhide hMM]
                  exact hMid.clo (fun a b c ha hb hc => unhide Htr a b c ha hb hc)
                | true =>
                  clear hTr
                  go_wp2
                  go_loopw [11, 12] (fun s sa wx => ∃ (t : Bool) (a : Nat) (M2 : Nat → Nat → Bool), s = .bool t ∧ sa = .int .i64 (a : Int) ∧ a ≤ i ∧ RG wx B i rv rcap R M2 ∧ Mid i M M2 ∧ Ps i M1 M2 t a 0 0 ∧ Below B w wx ∧ B < wx.heap.size) (fun _ sa _ => i - (intOf sa).toNat)
                  case atStart => exact ⟨false, 0, M1, rfl, rfl, by omega, hRG, hMid, Or.inl ⟨rfl, rfl, Q3.zero _ _⟩, hBr, hsz⟩
                  case round =>
                    clear hRG hMid hBr hsz
                    obtain ⟨t, a, M2, rfl, rfl, hai, hRG, hMid, hPs, hBr, hsz⟩ := hrel
                    by_cases hla : a < i
                    · have ba1 : (0 : Int) ≤ (a : Int) := by omega
                      have ba2 : (a : Int) < (i : Int) := by omega
                      go_wp2
                      go_loopw [11, 13] (fun s sb wx => ∃ (t : Bool) (b : Nat) (M3 : Nat → Nat → Bool), s = .bool t ∧ sb = .int .i64 (b : Int) ∧ b ≤ i ∧ RG wx B i rv rcap R M3 ∧ Mid i M M3 ∧ Ps i M1 M3 t a b 0 ∧ Below B w wx ∧ B < wx.heap.size) (fun _ sb _ => i - (intOf sb).toNat)
                      case atStart => exact ⟨t, 0, M2, rfl, rfl, by omega, hRG, hMid, hPs, hBr, hsz⟩
                      case round =>
                        clear hRG hMid hPs hBr hsz
                        obtain ⟨t, b, M3, rfl, rfl, hbi, hRG, hMid, hPs, hBr, hsz⟩ := hrel
                        by_cases hlb : b < i
                        · have bb1 : (0 : Int) ≤ (b : Int) := by omega
                          have bb2 : (b : Int) < (i : Int) := by omega
                          go_wp2
                          go_loopw [11, 14] (fun s sc wx => ∃ (t : Bool) (c : Nat) (M4 : Nat → Nat → Bool), s = .bool t ∧ sc = .int .i64 (c : Int) ∧ c ≤ i ∧ RG wx B i rv rcap R M4 ∧ Mid i M M4 ∧ Ps i M1 M4 t a b c ∧ Below B w wx ∧ B < wx.heap.size) (fun _ sc _ => i - (intOf sc).toNat)
                          case atStart => exact ⟨t, 0, M3, rfl, rfl, by omega, hRG, hMid, hPs, hBr, hsz⟩
                          case round =>
                            clear hRG hMid hPs hBr hsz
                            obtain ⟨t, c, M4, rfl, rfl, hci, hRG, hMid, hPs, hBr, hsz⟩ := hrel
                            by_cases hlc : c < i
                            · have bc1 : (0 : Int) ≤ (c : Int) := by omega
                              have bc2 : (c : Int) < (i : Int) := by omega
                              obtain ⟨rb, rfl, hob, crow, hne⟩ := hRG.rows a hla
                              obtain ⟨rb', he, hob', crow2, hne'⟩ := hRG.rows b hlb
                              injection he with he; injection he with he _ _
                              subst he
                              clear hne hne' hob'
                              have cob := hRG.ov
                              have q1 := (hRG.row a hla b hlb).1
                              have q2 := (hRG.row b hlb c hlc).1
                              have q3 := (hRG.row a hla c hlc).1
                              have q4 := (hRG.row a hla c hlc).2
                              cases hab : M4 a b with
                              | false =>
                                rw [hab] at q1
                                have Hab := hide hab
                                clear hab
                                go_wp2
                                go_roundw
                                case rel =>
                                  refine ⟨t, c + 1, M4, rfl, by go_num, by omega, hRG, hMid, ?_, hBr, hsz⟩
                                  rcases hPs with ⟨h1, h2, h3⟩ | h
                                  · exact Or.inl ⟨h1, h2, h3.c (fun e => by rw [unhide Hab] at e; simp at e)⟩
                                  · exact Or.inr h
                                case measure => simp [intOf]; omega
                              | true =>
                                rw [hab] at q1
                                have Hab := hide hab
                                clear hab
                                cases hbc : M4 b c with
                                | false =>
                                  rw [hbc] at q2
                                  have Hbc := hide hbc
                                  clear hbc
                                  go_wp2
                                  go_roundw
                                  case rel =>
                                    refine ⟨t, c + 1, M4, rfl, by go_num, by omega, hRG, hMid, ?_, hBr, hsz⟩
                                    rcases hPs with ⟨h1, h2, h3⟩ | h
                                    · exact Or.inl ⟨h1, h2, h3.c (fun _ e => by rw [unhide Hbc] at e; simp at e)⟩
                                    · exact Or.inr h
                                  case measure => simp [intOf]; omega
                                | true =>
                                  rw [hbc] at q2
                                  have Hbc := hide hbc
                                  clear hbc
                                  cases hac : M4 a c with
                                  | true =>
                                    rw [hac] at q3
                                    have Hac := hide hac
                                    clear hac
                                    go_wp2
                                    go_roundw
                                    case rel =>
                                      refine ⟨t, c + 1, M4, rfl, by go_num, by omega, hRG, hMid, ?_, hBr, hsz⟩
                                      rcases hPs with ⟨h1, h2, h3⟩ | h
                                      · exact Or.inl ⟨h1, h2, h3.c (fun _ _ => unhide Hac)⟩
                                      · exact Or.inr h
                                    case measure => simp [intOf]; omega
                                  | false =>
                                    rw [hac] at q3
                                    have Hac := hide hac
                                    clear hac
                                    go_wp2
                                    go_roundw
                                    case rel =>
                                      refine ⟨true, c + 1, setM M4 a c, rfl, by go_num, by omega, hRG.set hla hlc, hMid.set (unhide Hab) (unhide Hbc), Or.inr ⟨rfl, ?_⟩, hBr.setCell (by have := hRG.ge a hla; simp; omega) _, by simpa using hsz⟩
                                      have hcs := cnt_set hla hlc (unhide Hac)
                                      rcases hPs with ⟨h1, h2, h3⟩ | ⟨h1, h2⟩
                                      · rw [← h2]; exact hcs
                                      · omega
                                    case measure => simp [intOf]; omega
                            · have hcN : c = i := by omega
                              subst hcN
                              go_wp2
                              go_roundw
                              case rel =>
                                refine ⟨t, b + 1, M4, rfl, by go_num, by omega, hRG, hMid, ?_, hBr, hsz⟩
                                rcases hPs with ⟨h1, h2, h3⟩ | h
                                · exact Or.inl ⟨h1, h2, h3.b⟩
                                · exact Or.inr h
                              case measure => simp [intOf]; omega
                        · have hbN : b = i := by omega
                          subst hbN
                          go_wp2
                          go_roundw
                          case rel =>
                            refine ⟨t, a + 1, M3, rfl, by go_num, by omega, hRG, hMid, ?_, hBr, hsz⟩
                            rcases hPs with ⟨h1, h2, h3⟩ | h
                            · exact Or.inl ⟨h1, h2, h3.a⟩
                            · exact Or.inr h
                          case measure => simp [intOf]; omega
                    · have haN : a = i := by omega
                      subst haN
                      go_wp2
                      go_roundg (if t = true then a * a - cnt a M2 + 1 else 0)
                      case measure =>
                        rw [unhide Hgk]
                        rcases hPs with ⟨h1, h2, h3⟩ | ⟨h1, h2⟩
                        · subst h1; simp
                        · subst h1
                          have := cnt_le a M2
                          simp only [if_true]
                          omega
                      case rel =>
                        refine ⟨t, M2, rfl, hRG, hMid, ?_, rfl, hBr, hsz⟩
                        intro ht x y z hx hy hz
                        rcases hPs with ⟨h1, h2, h3⟩ | ⟨h1, h2⟩
                        · exact h3.1 x hx y hy z hz
                        · rw [ht] at h1; simp at h1
end Go.Proofs.Ytkpkbhgplpmkoaa
