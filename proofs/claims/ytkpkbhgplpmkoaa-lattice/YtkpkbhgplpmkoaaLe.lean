import Derived.Test.YtkpkbhgplpmkoaaLd
namespace Go.Proofs.Ytkpkbhgplpmkoaa
open Go.RowKit

theorem Prs.later {w w' : World} {ao : Option Addr} {m : Nat} {X Y : Nat → Int} (h : Prs w ao m X Y) (hb : Below w.heap.size w w') : Prs w' ao m X Y := by
  intro k hk
  obtain ⟨g, h1, h2, h3⟩ := h k hk
  exact ⟨g, h1, (hb.cell (p := ⟨g, k * 2, none⟩) (World.block_lt_of_cell? w _ h2)).trans h2, (hb.cell (p := ⟨g, k * 2 + 1, none⟩) (World.block_lt_of_cell? w _ h3)).trans h3⟩

theorem Six.putOther {w : World} {B o : Nat} {A : Nat → Nat} (h : Six w B o A) {b o' : Nat} (hb : b ≠ B) (q : Nat → Nat) : Six (put6 w b o' q) B o A := by
  unfold put6
  exact (((((h.setOther (Or.inl hb)).setOther (Or.inl hb)).setOther (Or.inl hb)).setOther (Or.inl hb)).setOther (Or.inl hb)).setOther (Or.inl hb)
theorem Ord.putOther {w : World} {B N : Nat} {A : Nat → Nat} (h : Ord w B N A) {b o' : Nat} (hb : b ≠ B) (q : Nat → Nat) : Ord (put6 w b o' q) B N A := by
  unfold put6
  exact (((((h.setOther hb).setOther hb).setOther hb).setOther hb).setOther hb).setOther hb

set_option maxRecDepth 100000 in
set_option maxHeartbeats 4000000 in
theorem of_any (N : Nat) (hN : N ≤ 6) (A : Nat → Nat) (M : Nat → Nat → Bool) (hA : Col A M) (ao : Option Addr) (m c : Nat) (X Y : Nat → Int) (hm : m ≤ 4194304) (w : World) (hP : Prs w ao m X Y) :
    Calls Try.prog 40 #[.agg (ordC N A), .slice ao m c] w fun e w' => ∃ q : Nat → Nat, e = .returned (.agg (labC q)) ∧ Lab q (outP N M X Y m) ∧ Below w.heap.size w w' := by
  have hB : Below w.heap.size w (((w.alloc (.cells (ordC N A) 67)).alloc (.cells (labC (fun _ => 0)) 73)).alloc (.cells (labC (fun _ => 0)) 73)) := by go_grown
  have h1 := ((Ord.new w N A 67).alloc (.cells (labC (fun _ => 0)) 73)).alloc (.cells (labC (fun _ => 0)) 73)
  have h4 := (Six.new' (w.alloc (.cells (ordC N A) 67)) (fun _ => 0) 73 (w.heap.size + 1) (by simp)).alloc (.cells (labC (fun _ => 0)) 73)
  have h5 := Six.new' ((w.alloc (.cells (ordC N A) 67)).alloc (.cells (labC (fun _ => 0)) 73)) (fun _ => 0) 73 (w.heap.size + 2) (by simp)
  have Hall := hide (And.intro hB (And.intro h1 (And.intro h4 h5)))
  have HP := hide hP
  clear hB h1 h4 h5 hP
  go_enter Try.func40, Try.ntmps40
  go_upto_region 2 with fail
  change Code.wp Try.prog _ _ _ (((w.alloc (.cells (ordC N A) 67)).alloc (.cells (labC (fun _ => 0)) 73)).alloc (.cells (labC (fun _ => 0)) 73))
  obtain ⟨hB, h1, h4, h5⟩ := unhide Hall
  clear Hall
  generalize (((w.alloc (.cells (ordC N A) 67)).alloc (.cells (labC (fun _ => 0)) 73)).alloc (.cells (labC (fun _ => 0)) 73)) = W at *
  generalize hs : w.heap.size = B at *
  have Hs := hide hs
  clear hs
  go_wp2
  go_loopw [10] (fun t wr => ∃ (j : Nat) (q : Nat → Nat), j ≤ m ∧ t = .int .i64 (j : Int) ∧ Lab q (outP N M X Y j) ∧ Ord wr B N A ∧ Six wr (B + 1) 0 (fun _ => 0) ∧ Six wr (B + 2) 0 q ∧ Below B w wr) (fun t _ => m - (intOf t).toNat)
  case atStart => exact ⟨0, fun _ => 0, by omega, rfl, fun k hk => ⟨by show 0 < 64; omega, fun who => by simp [outP]⟩, h1, h4, h5, hB⟩
  case round =>
    clear h1 h4 h5 hB
    obtain ⟨j, q, hj, rfl, hq, h1, h4, h5, hB⟩ := hrel
    by_cases hlt : j < m
    · obtain ⟨g, rfl, cx0, cy0⟩ := unhide HP j hlt
      have hg : g < B := by have := World.block_lt_of_cell? w _ cx0; rw [unhide Hs] at this; exact this
      have cx : wr.cell? ⟨g, j * 2, none⟩ = some (.int .i64 (X j)) := (hB.cell (p := ⟨g, j * 2, none⟩) hg).trans cx0
      have cy : wr.cell? ⟨g, j * 2 + 1, none⟩ = some (.int .i64 (Y j)) := (hB.cell (p := ⟨g, j * 2 + 1, none⟩) hg).trans cy0
      clear cx0 cy0
      have b3 : (0 : Int) ≤ (j : Int) := by omega
      have b4 : (j : Int) < (m : Int) := by omega
      obtain ⟨c0, c1, c2, c3, c4, c5, c6⟩ := h1.cells
      have hz := h5.lt
      have hzB := h1.lt
      have hNx : Hid (outP N M X Y (j + 1) = fun k who => outP N M X Y j k who || polB N M (X j) (Y j) k who) := rfl
      generalize X j = x at *
      generalize Y j = y at *
      have i1 := h1.alloc (.cells #[.int .i64 x, .int .i64 y] 61)
      have i2 := Two.new' wr (.int .i64 x) (.int .i64 y) 61 _ rfl
      have i4 := h4.alloc (.cells #[.int .i64 x, .int .i64 y] 61)
      have i5 := h5.alloc (.cells #[.int .i64 x, .int .i64 y] 61)
      have iB := hB.alloc (by omega) (.cells #[.int .i64 x, .int .i64 y] 61)
      have Hall := hide (And.intro i1 (And.intro i2 (And.intro i4 (And.intro i5 iB))))
      clear i1 i2 i4 i5 iB
      cases ix : inB N x with
      | false =>
        have Hi := hide ix
        clear ix
        go_wp2_with fail
        refine (isActor_B N _ _ _ _ _ _ x _ false (unhide Hi)).mono ?_
        rintro e w1 ⟨rfl, hb1⟩
        obtain ⟨i1, i2, i4, i5, iB⟩ := unhide Hall
        have k1 := i1.later hb1
        have k4 := i4.later hb1
        have k5 := i5.later hb1
        have kB := iB.trans (hb1.mono (by simp; omega))
        clear i1 i2 i4 i5 iB c0 c1 c2 c3 c4 c5 c6 cx cy hb1 h1 h4 h5 hB Hall
        go_wp2
        go_roundw
        case rel =>
          refine ⟨j + 1, q, by omega, by go_num, ?_, k1, k4, k5, kB⟩
          rw [unhide hNx]
          have e : (fun k who => outP N M X Y j k who || polB N M x y k who) = outP N M X Y j := by
            funext k who
            simp [polB, unhide Hi]
          rw [e]; exact hq
        case measure => simp [intOf]; omega
      | true =>
        obtain ⟨o, rfl⟩ : ∃ o : Nat, x = o := Int.eq_ofNat_of_zero_le (by simp [inB] at ix; exact ix.1)
        have ho : o < N := by simp [inB] at ix; omega
        have Hi := hide ix
        clear ix
        go_wp2_with fail
        refine (isActor_B N _ _ _ _ _ _ (o : Int) _ true (unhide Hi)).mono ?_
        rintro e w1 ⟨rfl, hb1⟩
        obtain ⟨i1, i2, i4, i5, iB⟩ := unhide Hall
        have k1 := i1.later hb1
        have k2 := i2.later hb1
        have k4 := i4.later hb1
        have k5 := i5.later hb1
        have kB := iB.trans (hb1.mono (by simp; omega))
        have hz1 : wr.heap.size < w1.heap.size := by have := hb1.size; simp at this; omega
        clear i1 i2 i4 i5 iB c0 c1 c2 c3 c4 c5 c6 cx cy hb1 h1 h4 h5 hB Hall
        obtain ⟨c0, c1, c2, c3, c4, c5, c6⟩ := k1.cells
        obtain ⟨d0, d1, d2, d3, d4, d5⟩ := k5.cells
        obtain ⟨f0, f1, f2, f3, f4, f5⟩ := k5.froz
        have p0 := k2.1
        have p1 := k2.2
        generalize hpb : wr.heap.size = pb at *
        have Hpb := hide hpb
        clear hpb
        go_upto_region 6 with fail
        go_region_with (first
            | (go_at_call 51; refine (alone_any N hN A M hA o ho y _).mono ?_; rintro e w2 ⟨q2, rfl, hq2, hb2⟩; have m1 := k1.drew.later hb2; have m4 := k4.drew.later hb2; have m5 := k5.drew.later hb2; have mB := kB.drew.trans (hb2.mono (by simp; omega)); have hz2 := hb2.size; rw [World.size_drew] at hz2; obtain ⟨x0, x1, x2, x3, x4, x5⟩ := m5.cells)
            | (go_at_call 41; refine (ljoin_any q q2 _ _ hq hq2 _).mono ?_; rintro e w3 ⟨q3, rfl, hq3, hb3⟩; have n1 := m1.later hb3; have n4 := m4.later hb3; have n5 := m5.later hb3; have nB := mB.trans (hb3.mono (by omega)); obtain ⟨y0, y1, y2, y3, y4, y5⟩ := n5.cells; obtain ⟨z0, z1, z2, z3, z4, z5⟩ := n5.froz))
        all_goals clear c0 c1 c2 c3 c4 c5 c6 d0 d1 d2 d3 d4 d5 f0 f1 f2 f3 f4 f5 p0 p1 x0 x1 x2 x3 x4 x5 y0 y1 y2 y3 y4 y5 z0 z1 z2 z3 z4 z5 k1 k2 k4 k5 kB m1 m4 m5 mB hb2
        all_goals change Exit.inBlock 1 _ _ _ (put6 w3 (B + 2) 0 q3)
        all_goals have r1 := n1.putOther (b := B + 2) (o' := 0) (by omega) q3
        all_goals have r4 := n4.putOther (b := B + 2) (o' := 0) (by omega) q3
        all_goals have r5 := n5.put q3
        all_goals have rB : Below B w (put6 w3 (B + 2) 0 q3) := below_put nB (by omega) q3
        all_goals clear n1 n4 n5 nB hb3
        all_goals generalize put6 w3 (B + 2) 0 q3 = w4 at *
        all_goals go_wp2
        all_goals go_roundw
        all_goals first | (exact ⟨j + 1, q3, by omega, by go_num, by rw [unhide hNx]; exact hq3, r1, r4, r5, rB⟩) | (simp [intOf]; omega)
    · have hjm : j = m := by omega
      subst hjm
      obtain ⟨c0, c1, c2, c3, c4, c5⟩ := h5.cells
      obtain ⟨d0, d1, d2, d3, d4, d5⟩ := h4.cells
      obtain ⟨f0, f1, f2, f3, f4, f5⟩ := h4.froz
      go_wp2
      clear c0 c1 c2 c3 c4 c5 d0 d1 d2 d3 d4 d5 f0 f1 f2 f3 f4 f5
      change bodyPost Try.prog Try.f40 _ _ _ (put6 wr (B + 1) 0 q)
      have hV := (h4.put q).cells
      have hVb : Below B w (put6 wr (B + 1) 0 q) := below_put hB (by omega) _
      generalize put6 wr (B + 1) 0 q = w3 at *
      obtain ⟨c0, c1, c2, c3, c4, c5⟩ := hV
      exact bodyPost_ret (v := .agg (labC q)) (by simp [results, Try.results40, go_sem, c0, c1, c2, c3, c4, c5]) rfl ⟨_, rfl, hq, by rw [unhide Hs]; exact hVb⟩
end Go.Proofs.Ytkpkbhgplpmkoaa
