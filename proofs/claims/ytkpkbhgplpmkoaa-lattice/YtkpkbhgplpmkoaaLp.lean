import Derived.Test.YtkpkbhgplpmkoaaLat
namespace Go.Proofs.Ytkpkbhgplpmkoaa
open Go.RowKit

theorem neq61 (a b c d : Int) (w : World) : (binOp .neq 61 (.agg #[.int .i64 a, .int .i64 b]) (.agg #[.int .i64 c, .int .i64 d])).run Try.prog w = .ok (.bool (!(a == c && b == d))) w := by
  have s2 : Try.prog.stoodInHeld 61 = false := by kernel_rfl
  have s1 : Try.prog.underlying 61 = some (.struct (Try.prog.fieldsOf 61)) := by kernel_rfl
  rw [run_neq_struct, run_equalIn_agg (d := 9999) w 61 _ _ s1 s2]
  clear s1 s2
  cases h1 : (a == c) <;> cases h2 : (b == d) <;> simp [Program.fieldsOf, Try.underlying61, Try.underlying3, go_sem, h1, h2]
theorem guard61 : Try.prog.eqGuardType Try.prog.depth 61 = false := by kernel_rfl

set_option maxHeartbeats 400000 in
theorem smallK_any (s : ByteArray) (hs : s.size = 0) (ao : Option Addr) (m c : Nat) (bo : Option Addr) (m1 c1 : Nat) (w : World) :
    Calls Try.prog 23 #[.string s, .slice ao m c, .slice bo m1 c1] w fun e w' => e = .returned (.bool (decide ((m : Int) ≤ 1048576) && decide ((m1 : Int) ≤ 1048576))) ∧ w' = w := by
  have hs2 : ((s.size : Nat) : Int) ≤ 1048576 := by omega
  clear hs
  cases h1 : decide ((m : Int) ≤ 1048576) with
  | true =>
    go_enter Try.func23, Try.ntmps23
    go_wp2
    go_ret
    exact ⟨by first | rfl | simp, rfl⟩
  | false =>
    go_enter Try.func23, Try.ntmps23
    go_wp2
    go_ret
    exact ⟨by first | rfl | simp, rfl⟩

set_option maxRecDepth 100000 in
set_option maxHeartbeats 2000000 in
theorem polsK_any (ao : Option Addr) (m c : Nat) (L : Nat → Int) (hm : m ≤ 1048576) (w : World) (hL : Ints w ao m L) :
    Calls Try.prog 24 #[.slice ao m c] w fun e w' => ∃ v1, e = .returned v1 ∧ w'.ownsRow w.heap.size 61 2 v1 (m / 2) (prL L (m / 2)) ∧ Below w.heap.size w w' := by
  obtain ⟨i0, hi0, hz0, hz1, hz2⟩ := info_parts Try.info61
  go_enter Try.func24, Try.ntmps24
  go_wp2
  generalize hB : w.heap.size = B at *
  have HB := hide hB
  clear hB
  go_loopw [3, 4] (fun v t wr => ∃ (j k : Nat), Hid (k = 2 * j) ∧ k ≤ m ∧ t = .int .i64 (k : Int) ∧ wr.ownsRow B 61 2 v j (prL L j) ∧ Below B w wr ∧ B ≤ wr.heap.size) (fun _ t _ => m - (intOf t).toNat)
  case atStart => exact ⟨0, 0, rfl, by omega, rfl, World.ownsRow_nil _ _ _ _, Below.refl _ _, by rw [unhide HB]; omega⟩
  case round =>
    obtain ⟨j, k, Hk, hkm, rfl, hown, hBr, hsz⟩ := hrel
    by_cases hlt : k + 1 < m
    · obtain ⟨b, off, rfl, cx0⟩ := hL k (by omega)
      obtain ⟨b', off', he, cy0⟩ := hL (k + 1) (by omega)
      injection he with he; injection he with he1 he2 _
      subst he1 he2
      have hg : b < B := by have := World.block_lt_of_cell? w _ cx0; rw [unhide HB] at this; exact this
      have cx : wr.cell? ⟨b, off + k, none⟩ = some (.int .i64 (L k)) := (hBr.cell (p := ⟨b, off + k, none⟩) hg).trans cx0
      have cy : wr.cell? ⟨b, off + (k + 1), none⟩ = some (.int .i64 (L (k + 1))) := (hBr.cell (p := ⟨b, off + (k + 1), none⟩) hg).trans cy0
      clear cx0 cy0
      have hjk : j * 2 ≤ k := by rw [unhide Hk]; omega
      have ab : u3.ownBlock ≠ some b := by intro e; have := (hown.lt b e).1; omega
      have b1 : (0 : Int) ≤ (k : Int) := by omega
      have b2 : (k : Int) + 1 < (m : Int) := by omega
      have b3 : (k : Int) < (m : Int) := by omega
      have b4 : IntKind.i64.wrap ((k : Int) + 1) = (k : Int) + 1 := by rw [IntKind.wrap_i64]; omega
      have b5 : (0 : Int) ≤ (k : Int) + 1 := by omega
      go_upto_region 5 with fail
      go_region_held3 (fun w' => w'.cell? ⟨b, off + k, none⟩ = some (.int .i64 (L k)) ∧ w'.cell? ⟨b, off + (k + 1), none⟩ = some (.int .i64 (L (k + 1))))
        (first
          | go_keep
          | (go_split_ands
             refine ⟨?_, ?_⟩
             · (rw [hgrow.cell_far _ (by simp; omega) (Ne.symm ab)]; assumption)
             · (rw [hgrow.cell_far _ (by simp; omega) (Ne.symm ab)]; assumption)))
        ((refine step_append_lies _ (by rfl) _ _ _ (by rfl) B 61 i0 _ 2 16 Try.underlying34 hi0 hz0 hz1 hz2 rfl (by omega) u3 j (prL L j) (by rfl) ((hown.alloc _).drew)
            ⟨wr.heap.size, 0, none⟩ 1 1 [.int .i64 (L k), .int .i64 (L (k + 1))] (by rfl) (by rfl) (World.news_of_block (cs := #[.int .i64 (L k), .int .i64 (L (k + 1))]) (t := 61) (fr := (0, 0)) (heap_alloc_new wr _)) (by simp [Value.oneCell'])
            (by omega) (by unfold maxLen; omega) (by omega) (by simp; omega) (wr.heap.size + 1) (by simp) ?_; intro gg cap w1 hown1 hgrow hat hlt1))
      go_wp2
      go_roundw
      case rel =>
        have hk2 : k = 2 * j := unhide Hk
        refine ⟨j + 1, k + 2, show k + 2 = 2 * (j + 1) by omega, by omega, by go_num, ?_, ?_, ?_⟩
        · rw [prL_succ, ← hk2]; exact hown1
        · refine (((hBr.alloc hsz _).drew).grown hgrow (by simp; omega) ?_)
          intro q e; exact (hown.lt q e).1
        · have := hgrow.size; simp at this; omega
      case measure => simp [intOf]; omega
    · have hk2 : k = 2 * j := unhide Hk
      have hj : m / 2 = j := by omega
      have Hj := hide hj
      clear hk2 hj
      go_wp2
      go_ret
      exact ⟨_, rfl, by rw [unhide HB, unhide Hj]; exact hown, by rw [unhide HB]; exact hBr⟩

/-- Lists and what stands in memory. -/
theorem list_ne {l1 l2 : List (Nat × Nat)} {k : Nat} (_hk : k < l1.length) (_he : l1.length = l2.length) (h : ¬ (XX l1 k = XX l2 k ∧ YY l1 k = YY l2 k)) : l1 ≠ l2 := by
  intro e; subst e; exact h ⟨rfl, rfl⟩
theorem list_eq {l1 l2 : List (Nat × Nat)} (he : l1.length = l2.length) (h : ∀ j, j < l1.length → XX l1 j = XX l2 j ∧ YY l1 j = YY l2 j) : l1 = l2 := by
  apply List.ext_getElem he
  intro i h1 h2
  have := h i h1
  simp only [XX, YY, List.getD_eq_getElem?_getD, List.getElem?_eq_getElem h1, List.getElem?_eq_getElem h2, Option.getD_some] at this
  ext <;> omega

set_option maxHeartbeats 1000000 in
theorem sameK_any (l1 l2 : List (Nat × Nat)) (ao : Option Addr) (c : Nat) (bo : Option Addr) (d : Nat) (hn : l1.length ≤ 6) (hn2 : l2.length ≤ 6) (w : World) (hP : Prs w ao l1.length (XX l1) (YY l1)) (hR : Prs w bo l2.length (XX l2) (YY l2)) (t : Bool) (ht : decide (l1 = l2) = t) :
    Calls Try.prog 25 #[.slice ao l1.length c, .slice bo l2.length d] w fun e w' => e = .returned (.bool t) ∧ Below w.heap.size w w' := by
  have HP := hide hP
  have HR := hide hR
  have Ht := hide ht
  clear hP hR ht
  by_cases hl : l1.length = l2.length
  · have hle := hide (@list_eq l1 l2 hl)
    have hln := hide (fun k (hk : k < l1.length) => @list_ne l1 l2 k hk hl)
    generalize XX l1 = X1 at *
    generalize XX l2 = X2 at *
    generalize YY l1 = Y1 at *
    generalize YY l2 = Y2 at *
    generalize l1.length = n at *
    generalize l2.length = n2 at *
    subst hl
    go_enter Try.func25, Try.ntmps25
    go_wp2
    go_loopw [5] (fun t wr => ∃ (k : Nat), k ≤ n ∧ t = .int .i64 (k : Int) ∧ Hid (∀ j, j < k → X1 j = X2 j ∧ Y1 j = Y2 j) ∧ Below w.heap.size w wr) (fun t _ => n - (intOf t).toNat)
    case atStart => exact ⟨0, by omega, rfl, fun j hj => by omega, Below.refl _ _⟩
    case round =>
      obtain ⟨k, hk, rfl, Hq, hB⟩ := hrel
      by_cases hlt : k < n
      · obtain ⟨g, rfl, cx, cy⟩ := (unhide HP).later hB k hlt
        obtain ⟨g2, rfl, cx2, cy2⟩ := (unhide HR).later hB k hlt
        have b1 : (0 : Int) ≤ (k : Int) := by omega
        have b2 : (k : Int) < (n : Int) := by omega
        have hg61 := guard61
        have hn61 := neq61
        by_cases he : X1 k = X2 k ∧ Y1 k = Y2 k
        · have e1 : (X1 k == X2 k) = true := by simp; exact he.1
          have e2 : (Y1 k == Y2 k) = true := by simp; exact he.2
          have He := hide he
          clear he
          go_upto_region 6 with fail
          go_quiet (fail)
          go_wp2
          go_roundw
          case rel => exact ⟨k + 1, by omega, by go_num, fun j hj => by by_cases e : j = k; rw [e]; exact unhide He; exact unhide Hq j (by omega), below_drewN hB nq⟩
          case measure => simp [intOf]; omega
        · have hft : t = false := by rw [← unhide Ht]; simp; exact unhide hln k hlt he
          have Hft := hide hft
          clear hft
          by_cases hx : X1 k = X2 k
          · have e1 : (X1 k == X2 k) = true := by simp; exact hx
            have e2 : (Y1 k == Y2 k) = false := by simp; exact fun h => he ⟨hx, h⟩
            clear he hx
            go_upto_region 6 with fail
            go_quiet (fail)
            go_wp2
            go_ret
            exact ⟨by rw [unhide Hft]; rfl, below_drewN hB nq⟩
          · have e1 : (X1 k == X2 k) = false := by simp; exact hx
            clear he hx
            go_upto_region 6 with fail
            go_quiet (fail)
            go_wp2
            go_ret
            exact ⟨by rw [unhide Hft]; rfl, below_drewN hB nq⟩
      · have hkn : k = n := by omega
        subst hkn
        go_wp2
        go_ret
        refine ⟨?_, hB⟩
        have : t = true := by rw [← unhide Ht]; simp; exact unhide hle (unhide Hq)
        rw [this]; rfl
  · have hne : t = false := by rw [← unhide Ht]; simp; intro e; exact hl (by rw [e])
    subst hne
    have b1 : ((l1.length : Int) != (l2.length : Int)) = true := by rw [bne_iff_ne]; omega
    go_enter Try.func25, Try.ntmps25
    go_wp2
    go_ret
    exact ⟨rfl, Below.refl _ _⟩

/-- One policy that has just been laid. -/
theorem prs_new (w : World) (x : Int) (b : Nat) (hb : w.heap.size = b) : Prs (w.alloc (.cells #[.int .i64 x, .int .i64 0] 61)) (some ⟨b, 0, none⟩) 1 (fun _ => x) (fun _ => 0) := by
  subst hb
  intro k hk
  have : k = 0 := by omega
  subst this
  exact ⟨w.heap.size, rfl, by simp, by simp⟩
theorem out_one (N : Nat) (M : Nat → Nat → Bool) (x : Int) : outP N M (fun _ => x) (fun _ => 0) 1 = polB N M x 0 := by
  funext k who
  simp [outP]

set_option maxHeartbeats 1000000 in
theorem aloneK_any (p N : Nat) (hN : N ≤ 6) (A : Nat → Nat) (M : Nat → Nat → Bool) (hA : Col A M) (hM : Od N M) (w : World) (h : PO w p N A) :
    Calls Try.prog 26 #[.pointer (some ⟨p, 0, none⟩)] w fun e w' => e = .returned (.bool true) ∧ Below w.heap.size w w' := by
  have Hh := hide h
  have HM := hide hM
  clear hM
  go_enter Try.func26, Try.ntmps26
  go_wp2_with fail
  refine (actorsP_any p N A _ h).mono ?_
  rintro e w0 ⟨rfl, hb0⟩
  clear h
  go_wp2
  generalize hs : w.heap.size = B at *
  have Hs := hide hs
  have hz0 := hb0.size
  clear hs
  go_loopw [4] (fun t wr => ∃ (a : Nat), a ≤ N ∧ t = .int .i64 (a : Int) ∧ Below B w wr ∧ B ≤ wr.heap.size) (fun t _ => N - (intOf t).toNat)
  case atStart => exact ⟨0, by omega, rfl, hb0, by rw [unhide Hs] at hz0; exact hz0⟩
  case round =>
    clear hb0 hz0
    obtain ⟨a, ha, rfl, hB, hz⟩ := hrel
    by_cases hlt : a < N
    · have b1 : (0 : Int) ≤ (a : Int) := by omega
      have b2 : (a : Int) < (N : Int) := by omega
      have hP1 := prs_new wr (a : Int) _ rfl
      have hB1 := hB.alloc hz (.cells #[.int .i64 (a : Int), .int .i64 0] 61)
      have hz1 : wr.heap.size < (wr.alloc (.cells #[.int .i64 (a : Int), .int .i64 0] 61)).heap.size := by simp
      go_wp2
      generalize wr.alloc (.cells #[.int .i64 (a : Int), .int .i64 0] 61) = W at *
      generalize hq : wr.heap.size = Q at *
      have Hq := hide hq
      clear hq
      go_loopw [6] (fun t wx => ∃ (b : Nat), b ≤ N ∧ t = .int .i64 (b : Int) ∧ Below W.heap.size W wx) (fun t _ => N - (intOf t).toNat)
      case atStart => exact ⟨0, by omega, rfl, Below.refl _ _⟩
      case round =>
        obtain ⟨b, hb, rfl, hBx⟩ := hrel
        have hBw : Below B w wr := hB1.trans (hBx.mono (by omega))
        have hszx := hBx.size
        by_cases hlb : b < N
        · have b3 : (0 : Int) ≤ (b : Int) := by omega
          have b4 : (b : Int) < (N : Int) := by omega
          have hPO : PO wr p N A := (unhide Hh).later (by rw [unhide Hs]; exact hBw)
          have hPx := hP1.later hBx
          have er := alone_reads hN (unhide HM) hlt hlb
          have ef := alone_flows hN (unhide HM) hlt hlb
          have Hef := hide (And.intro er ef)
          clear er ef
          go_wp2_with fail
          refine (overP_any p N hN A hA.lt256 (b : Int) (a : Int) _ hPO).mono ?_
          rintro e v1 ⟨rfl, hb1⟩
          rw [ov_M hN hA hlb hlt]
          have hPO1 := hPO.later hb1
          have hP11 := hPx.later hb1
          have hT1 := hBx.trans (hb1.mono hszx)
          clear hPO hPx
          go_wp2_with fail
          refine (readsP_any p N hN A M hA (some ⟨Q, 0, none⟩) 1 1 (fun _ => (a : Int)) (fun _ => 0) (by omega) (b : Int) _ hPO1 hP11).mono ?_
          rintro e v2 ⟨rfl, hb2⟩
          rw [out_one, (unhide Hef).1]
          have hPO2 := hPO1.later hb2
          have hP12 := hP11.later hb2
          have hT2 := hT1.trans (hb2.mono hT1.size)
          have hP22 := prs_new v2 (b : Int) _ rfl
          have hal : Below v2.heap.size v2 (v2.alloc (.cells #[.int .i64 (b : Int), .int .i64 0] 61)) := (Below.refl _ _).alloc (Nat.le_refl _) _
          have hPO3 := hPO2.later hal
          have hP13 := hP12.later hal
          have hT3 := hT2.trans (hal.mono hT2.size)
          clear hPO1 hP11 hPO2 hP12
          go_wp2_with fail
          refine (flowsP_any p N hN A M hA (some ⟨Q, 0, none⟩) 1 1 (fun _ => (a : Int)) (fun _ => 0) (by omega) (some ⟨v2.heap.size, 0, none⟩) 1 1 (fun _ => (b : Int)) (fun _ => 0) (by omega) _ hPO3 hP13 hP22).mono ?_
          rintro e v3 ⟨rfl, hb3⟩
          rw [out_one, out_one, (unhide Hef).2]
          have hT4 := hT3.trans (hb3.mono hT3.size)
          generalize M b a = mba at *
          go_wp2
          go_roundw
          case rel => exact ⟨b + 1, by omega, by go_num, hT4⟩
          case measure => simp [intOf]; omega
        · have hbN : b = N := by omega
          subst hbN
          go_wp2
          go_roundw
          case rel => exact ⟨a + 1, by omega, by go_num, hBw, by have := unhide Hq; omega⟩
          case measure => simp [intOf]; omega
    · have haN : a = N := by omega
      subst haN
      go_wp2
      go_ret
      exact ⟨rfl, by rw [unhide Hs]; exact hB⟩
end Go.Proofs.Ytkpkbhgplpmkoaa
