import Derived.Test.YtkpkbhgplpmkoaaLc
namespace Go.Proofs.Ytkpkbhgplpmkoaa
open Go.RowKit

/-- Two cells of a block. -/
def Two (w : World) (b : Nat) (x y : Value) : Prop := w.cell? ⟨b, 0, none⟩ = some x ∧ w.cell? ⟨b, 1, none⟩ = some y
theorem Two.new' (w : World) (x y : Value) (T : TypeId) (b : Nat) (hb : w.heap.size = b) : Two (w.alloc (.cells #[x, y] T)) b x y := by subst hb; exact ⟨by simp, by simp⟩
theorem Two.later {w w' : World} {b : Nat} {x y : Value} (h : Two w b x y) (hb : Below w.heap.size w w') : Two w' b x y :=
  ⟨(hb.cell (p := ⟨b, 0, none⟩) (World.block_lt_of_cell? w _ h.1)).trans h.1, (hb.cell (p := ⟨b, 1, none⟩) (World.block_lt_of_cell? w _ h.2)).trans h.2⟩
theorem Two.alloc {w : World} {b : Nat} {x y : Value} (h : Two w b x y) (o : Obj) : Two (w.alloc o) b x y := h.later ((Below.refl _ _).alloc (Nat.le_refl _) _)
theorem Two.setOther {w : World} {B : Nat} {x y : Value} (h : Two w B x y) {b o : Nat} {v : Value} (hb : b ≠ B) : Two (w.setCell ⟨b, o, none⟩ v) B x y :=
  ⟨by rw [World.cell?_setCell_other _ _ _ _ (by intro e; injection e with e1 e2 _; omega)]; exact h.1, by rw [World.cell?_setCell_other _ _ _ _ (by intro e; injection e with e1 e2 _; omega)]; exact h.2⟩
/-- Columns below j are written. -/
def colTo (M : Nat → Nat → Bool) (o out : Nat) (j : Nat) : Nat → Nat := fun k => if k < j ∧ M o k = true then out else 0

set_option maxHeartbeats 1000000 in
theorem alone_any (N : Nat) (hN : N ≤ 6) (A : Nat → Nat) (M : Nat → Nat → Bool) (hA : Col A M) (o : Nat) (ho : o < N) (r : Int) (w : World) :
    Calls Try.prog 51 #[.agg (ordC N A), .agg #[.int .i64 (o : Int), .int .i64 r]] w fun e w' => ∃ q : Nat → Nat, e = .returned (.agg (labC q)) ∧ Lab q (polB N M (o : Int) r) ∧ Below w.heap.size w w' := by
  have hB : Below w.heap.size w ((((w.alloc (.cells (ordC N A) 67)).alloc (.cells #[.int .i64 (o : Int), .int .i64 r] 61)).alloc (.cells (labC (fun _ => 0)) 73)).alloc (.cells (labC (fun _ => 0)) 73)) := by go_grown
  have h1 := (((Ord.new w N A 67).alloc (.cells #[.int .i64 (o : Int), .int .i64 r] 61)).alloc (.cells (labC (fun _ => 0)) 73)).alloc (.cells (labC (fun _ => 0)) 73)
  have h2 := ((Two.new' (w.alloc (.cells (ordC N A) 67)) (.int .i64 (o : Int)) (.int .i64 r) 61 (w.heap.size + 1) (by simp)).alloc (.cells (labC (fun _ => 0)) 73)).alloc (.cells (labC (fun _ => 0)) 73)
  have h4 := (Six.new' ((w.alloc (.cells (ordC N A) 67)).alloc (.cells #[.int .i64 (o : Int), .int .i64 r] 61)) (fun _ => 0) 73 (w.heap.size + 2) (by simp)).alloc (.cells (labC (fun _ => 0)) 73)
  have h5 := Six.new' (((w.alloc (.cells (ordC N A) 67)).alloc (.cells #[.int .i64 (o : Int), .int .i64 r] 61)).alloc (.cells (labC (fun _ => 0)) 73)) (fun _ => 0) 73 (w.heap.size + 3) (by simp)
  have Hall := hide (And.intro hB (And.intro h1 (And.intro h2 (And.intro h4 h5))))
  clear hB h1 h2 h4 h5
  go_enter Try.func51, Try.ntmps51
  go_upto_region 2 with fail
  change Code.wp Try.prog _ _ _ ((((w.alloc (.cells (ordC N A) 67)).alloc (.cells #[.int .i64 (o : Int), .int .i64 r] 61)).alloc (.cells (labC (fun _ => 0)) 73)).alloc (.cells (labC (fun _ => 0)) 73))
  obtain ⟨hB, h1, h2, h4, h5⟩ := unhide Hall
  clear Hall
  generalize ((((w.alloc (.cells (ordC N A) 67)).alloc (.cells #[.int .i64 (o : Int), .int .i64 r] 61)).alloc (.cells (labC (fun _ => 0)) 73)).alloc (.cells (labC (fun _ => 0)) 73)) = W at *
  generalize hs : w.heap.size = B at *
  have Hs := hide hs
  clear hs
  have hsz := h5.lt
  obtain ⟨c0, c1, c2, c3, c4, c5, c6⟩ := h1.cells
  have c7 := h2.1
  have c8 := h2.2
  go_cut [6] (fun s wc => ∃ out : Nat, s = .int .u8 (out : Int) ∧ out < 64 ∧ (∀ who, out.testBit who = (decide (who < N) && !letsTo M o r who N)) ∧ Below W.heap.size W wc)
  case first =>
    go_region_held3 (fun w' => w'.cell? ⟨B, 0, none⟩ = some (.int .i64 (N : Int)) ∧ w'.cell? ⟨B, 1, none⟩ = some (.int .u8 (A 0 : Int)) ∧ w'.cell? ⟨B, 2, none⟩ = some (.int .u8 (A 1 : Int)) ∧ w'.cell? ⟨B, 3, none⟩ = some (.int .u8 (A 2 : Int)) ∧ w'.cell? ⟨B, 4, none⟩ = some (.int .u8 (A 3 : Int)) ∧ w'.cell? ⟨B, 5, none⟩ = some (.int .u8 (A 4 : Int)) ∧ w'.cell? ⟨B, 6, none⟩ = some (.int .u8 (A 5 : Int)) ∧ w'.cell? ⟨B + 1, 0, none⟩ = some (.int .i64 (o : Int)) ∧ w'.cell? ⟨B + 1, 1, none⟩ = some (.int .i64 r))
      (first | go_keep | (go_split_ands; refine ⟨?_, ?_, ?_, ?_, ?_, ?_, ?_, ?_, ?_⟩ <;> (rw [hb2.cell (by simp; omega)]; assumption)) | (go_split_ands; refine ⟨?_, ?_, ?_, ?_, ?_, ?_, ?_, ?_, ?_⟩ <;> (rw [hb1.cell (by simp; omega)]; assumption)))
      (first
        | (go_at_call 50; refine (everybody_any N hN A _).mono ?_; rintro e w1 ⟨rfl, hb1⟩; have hq1 := hb1.size; try rw [World.size_drew] at hq1)
        | (go_at_call 53; refine (letRead_any N hN A M hA o ho r _).mono ?_; rintro e w2 ⟨f, rfl, hf, hfb, hb2⟩; have hq2 := hb2.size; try rw [World.size_drew] at hq2))
    all_goals go_wp2
    all_goals go_meet
    case rel =>
      have hE : 2 ^ N - 1 < 64 := by have := Nat.pow_le_pow_right (n := 2) (by omega) hN; omega
      obtain ⟨c, hc1, hc2, hc3⟩ := andNot_bit (2 ^ N - 1) f (by omega) (by omega)
      rw [hc2]
      refine ⟨c, rfl, by omega, fun who => ?_, ?_⟩
      · rw [hc3, allBits, hfb]
      · exact (((Below.refl W.heap.size W).drew).trans hb1).trans (hb2.mono (by omega))
  case rest =>
    clear c0 c1 c2 c3 c4 c5 c6 c7 c8
    obtain ⟨out, rfl, hout, hob, hbw⟩ := hcut
    have g1 := h1.later hbw
    have g2 := h2.later hbw
    have g4 := h4.later hbw
    have g5 := h5.later hbw
    have gB := hB.trans (hbw.mono (by omega))
    clear h1 h2 h4 h5 hB hbw
    have Hob := hide hob
    clear hob
    have c0 := g1.c0
    go_wp2
    clear c0
    go_loopw [16] (fun t wr => ∃ (j : Nat), j ≤ N ∧ t = .int .i64 (j : Int) ∧ Ord wr B N A ∧ Two wr (B + 1) (.int .i64 (o : Int)) (.int .i64 r) ∧ Six wr (B + 2) 0 (fun _ => 0) ∧ Six wr (B + 3) 0 (colTo M o out j) ∧ Below B w wr) (fun t _ => N - (intOf t).toNat)
    case atStart => exact ⟨0, by omega, rfl, g1, g2, g4, (by have e : colTo M o out 0 = fun _ => 0 := by { funext k; simp [colTo] }; rw [e]; exact g5), gB⟩
    case round =>
      clear g1 g2 g4 g5 gB
      obtain ⟨j, hj, rfl, g1, g2, g4, g5, gB⟩ := hrel
      by_cases hlt : j < N
      · have b1 : (0 : Int) ≤ (j : Int) := by omega
        have b2 : (j : Int) < (N : Int) := by omega
        have b3 : (j : Int) < 6 := by omega
        obtain ⟨c0, c1, c2, c3, c4, c5, c6⟩ := g1.cells
        have c7 := g2.1
        have hz := g5.lt
        cases ha : M o j with
        | false =>
          have Ha := hide ha
          clear ha
          go_wp2_with fail
          refine (over_M N hN A M hA o j ho hlt false (unhide Ha) _).mono ?_
          rintro e w1 ⟨rfl, hb1⟩
          have k1 := g1.later hb1
          have k2 := g2.later hb1
          have k4 := g4.later hb1
          have k5 := g5.later hb1
          have kB := gB.trans (hb1.mono (by omega))
          clear c0 c1 c2 c3 c4 c5 c6 c7 g1 g2 g4 g5 gB hb1
          go_wp2
          go_roundw
          case rel =>
            refine ⟨j + 1, by omega, by go_num, k1, k2, k4, ?_, kB⟩
            have e : colTo M o out (j + 1) = colTo M o out j := by
              funext k
              simp only [colTo]
              by_cases h : k = j
              · subst h; simp [unhide Ha]
              · have : (k < j + 1) = (k < j) := by apply propext; omega
                simp only [this]
            rw [e]; exact k5
          case measure => simp [intOf]; omega
        | true =>
          have Ha := hide ha
          clear ha
          go_wp2_with fail
          refine (over_M N hN A M hA o j ho hlt true (unhide Ha) _).mono ?_
          rintro e w1 ⟨rfl, hb1⟩
          have k1 := g1.later hb1
          have k2 := g2.later hb1
          have k4 := g4.later hb1
          have k5 := g5.later hb1
          have kB := gB.trans (hb1.mono (by omega))
          clear c0 c1 c2 c3 c4 c5 c6 c7 g1 g2 g4 g5 gB hb1
          have cj : w1.cell? ⟨B + 3, j, none⟩ = some (.int .u8 (colTo M o out j j : Int)) := by simpa using (k5 j (by omega)).1
          have fj : w1.frozen? ⟨B + 3, j, none⟩ = false := by simpa using (k5 j (by omega)).2
          go_wp2
          go_roundw
          case rel =>
            have hs := k5.set (v := out) (k := j) (by omega)
            rw [Nat.zero_add] at hs
            refine ⟨j + 1, by omega, by go_num, k1.setOther (by omega), k2.setOther (by omega), k4.setOther (by omega), ?_, kB.setCell (by simp; omega) _⟩
            have e : colTo M o out (j + 1) = upd (colTo M o out j) j out := by
              funext k
              simp only [colTo, upd]
              by_cases h : k = j
              · subst h; simp [unhide Ha]
              · have : (k < j + 1) = (k < j) := by apply propext; omega
                simp [h, this]
            rw [e]; exact hs
          case measure => simp [intOf]; omega
      · have hjN : j = N := by omega
        subst hjN
        obtain ⟨c0, c1, c2, c3, c4, c5⟩ := g5.cells
        obtain ⟨d0, d1, d2, d3, d4, d5⟩ := g4.cells
        obtain ⟨f0, f1, f2, f3, f4, f5⟩ := g4.froz
        go_wp2
        clear c0 c1 c2 c3 c4 c5 d0 d1 d2 d3 d4 d5 f0 f1 f2 f3 f4 f5
        change bodyPost Try.prog Try.f51 _ _ _ (put6 wr (B + 2) 0 (colTo M o out j))
        have hV := (g4.put (colTo M o out j)).cells
        have hVb : Below B w (put6 wr (B + 2) 0 (colTo M o out j)) := below_put gB (by omega) _
        generalize put6 wr (B + 2) 0 (colTo M o out j) = w3 at *
        obtain ⟨c0, c1, c2, c3, c4, c5⟩ := hV
        refine bodyPost_ret (v := .agg (labC (colTo M o out j))) (by simp [results, Try.results51, go_sem, c0, c1, c2, c3, c4, c5]) rfl ⟨_, rfl, ?_, by rw [unhide Hs]; exact hVb⟩
        intro k hk
        simp only [colTo, polB]
        by_cases hh : k < j ∧ M o k = true
        · rw [if_pos hh]
          refine ⟨hout, fun who => ?_⟩
          rw [unhide Hob who]
          have h1 : inB j (o : Int) = true := by simp [inB]; omega
          have h2 : decide (k < j ∧ who < j) = decide (who < j) := decide_eq_decide.2 ⟨fun h => h.2, fun h => ⟨hh.1, h⟩⟩
          rw [h1, h2, Int.toNat_natCast, hh.2]; simp
        · rw [if_neg hh]
          refine ⟨by omega, fun who => ?_⟩
          rw [Nat.zero_testBit, Int.toNat_natCast]
          by_cases h3 : k < j
          · have h4 : M o k = false := by cases h : M o k with | false => rfl | true => exact absurd ⟨h3, h⟩ hh
            rw [h4]; simp
          · have h5 : decide (k < j ∧ who < j) = false := by simp; omega
            rw [h5]; simp
end Go.Proofs.Ytkpkbhgplpmkoaa
