import Derived.Test.YtkpkbhgplpmkoaaLd
namespace Go.Proofs.Ytkpkbhgplpmkoaa
open Go.RowKit

theorem Try.info61 : (Try.prog.info? 61).map (fun i => (i.zero, i.size, i.bytes)) = some (some (.agg #[.int .i64 0, .int .i64 0]), 2, 16) := by kernel_rfl
theorem ne_num {N : Nat} {M O : Nat → Nat → Bool} {l : Nat → Nat} (hl : Lab l O) (hO : LW N O) {k f : Nat} (hk : k < 6) (hf : ∀ who, f.testBit who = faTo M O k who N) :
    ((l k : Int) != (f : Int)) = (rdN N O k != restN N M O k N) :=
  dif_eq (fun w h => (hO k w h).2) (fun w h => faTo_wi hO k w N h) (hl k hk).2 hf

theorem own_later {w w' : World} {base : Nat} {e : TypeId} {size : Nat} {v : Value} {n : Nat} {xs : List Value} (h : w.ownsRow base e size v n xs) (hb : Below w.heap.size w w') : w'.ownsRow base e size v n xs := by
  refine ⟨h.1, ?_⟩
  rcases h.2 with h2 | ⟨g, cap, cur, h1, h2, h3, h4⟩
  · exact Or.inl h2
  · refine Or.inr ⟨g, cap, cur, h1, h2, ?_, h4⟩
    rw [hb.block g (Array.getElem?_eq_some_iff.1 h3).1]; exact h3
theorem own_base {w : World} {base base' : Nat} {e : TypeId} {size : Nat} {v : Value} {n : Nat} {xs : List Value} (h : w.ownsRow base e size v n xs) (hb : base' ≤ base) : w.ownsRow base' e size v n xs := by
  refine ⟨h.1, ?_⟩
  rcases h.2 with h2 | ⟨g, cap, cur, h1, h2, h3, h4⟩
  · exact Or.inl h2
  · exact Or.inr ⟨g, cap, cur, h1, by omega, h3, h4⟩

set_option maxRecDepth 100000 in
set_option maxHeartbeats 2000000 in
theorem policies_any (N : Nat) (hN : N ≤ 6) (A : Nat → Nat) (M : Nat → Nat → Bool) (hA : Col A M) (l : Nat → Nat) (O : Nat → Nat → Bool) (hl : Lab l O) (hO : LW N O) (w : World) :
    Calls Try.prog 39 #[.agg (ordC N A), .agg (labC l)] w fun e w' => ∃ v, e = .returned v ∧ w'.ownsRow w.heap.size 61 2 v (normTo N M O N).length (polC (normTo N M O N)) ∧ Below w.heap.size w w' := by
  obtain ⟨i0, hi0, hz0, hz1, hz2⟩ := info_parts Try.info61
  have hB : Below w.heap.size w ((w.alloc (.cells (ordC N A) 67)).alloc (.cells (labC l) 73)) := by go_grown
  have h1 := (Ord.new w N A 67).alloc (.cells (labC l) 73)
  have h2 := Six.new' (w.alloc (.cells (ordC N A) 67)) l 73 (w.heap.size + 1) (by simp)
  go_enter Try.func39, Try.ntmps39
  go_wp2
  generalize ((w.alloc (.cells (ordC N A) 67)).alloc (.cells (labC l) 73)) = W at *
  generalize hs : w.heap.size = B at *
  have Hs := hide hs
  clear hs
  go_loopw [5, 9] (fun v t wr => ∃ (k : Nat), k ≤ N ∧ t = .int .i64 (k : Int) ∧ Ord wr B N A ∧ Six wr (B + 1) 0 l ∧ wr.ownsRow (B + 2) 61 2 v (normTo N M O k).length (polC (normTo N M O k)) ∧ Below B w wr) (fun _ t _ => N - (intOf t).toNat)
  case atStart => exact ⟨0, by omega, rfl, h1, h2, World.ownsRow_nil _ _ _ _, hB⟩
  case round =>
    clear h1 h2 hB
    obtain ⟨k, hk, rfl, h1, h2, hown, hB⟩ := hrel
    by_cases hlt : k < N
    · have b1 : (0 : Int) ≤ (k : Int) := by omega
      have b2 : (k : Int) < (N : Int) := by omega
      have b3 : (k : Int) < 6 := by omega
      have hzB := h1.lt
      have hz := h2.lt
      obtain ⟨c0, c1, c2, c3, c4, c5, c6⟩ := h1.cells
      obtain ⟨d0, d1, d2, d3, d4, d5⟩ := h2.cells
      have dk : wr.cell? ⟨B + 1, k, none⟩ = some (.int .u8 (l k : Int)) := by simpa using (h2 k (by omega)).1
      go_upto_region 5 with fail
      go_cut [24] (fun s wc => s = .bool (firstB M k && (rdN N O k != restN N M O k N)) ∧ Ord wc B N A ∧ Six wc (B + 1) 0 l ∧ wc.ownsRow (B + 2) 61 2 u5 (normTo N M O k).length (polC (normTo N M O k)) ∧ Below B w wc)
      case first =>
        cases hf : firstB M k with
        | false =>
          have Hf := hide hf
          clear hf
          refine wp_region_any (by kernel_rfl) ?_
          refine wpAny_take (i := 1) (v := .int .i64 (k : Int)) rfl (by kernel_rfl) (by kernel_rfl) (by kernel_rfl) (fun _ _ _ h => h) (Or.inl ⟨by rfl, fun _ => rfl⟩) ?_
          refine wpAny_ready (rs := [0]) (by kernel_rfl) (by simp) ?_
          refine AllReady.cons rfl (fun K hK => ?_) AllReady.nil
          go_simp
          refine hK _ _ ?_
          clear hK K
          refine wpAny_ready (rs := [2]) (by kernel_rfl) (by simp) ?_
          refine AllReady.cons rfl (fun K hK => ?_) AllReady.nil
          go_simp
          go_wp2_with (go_at_call 48; refine (first_any N hN A M hA k hlt _).mono ?_; rintro e w1 ⟨rfl, hb1⟩; rw [unhide Hf])
          refine wpAny_take (i := 3) (v := .bool false) rfl (by kernel_rfl) (by kernel_rfl) (by kernel_rfl) (fun _ _ _ h => h) (Or.inl ⟨by rfl, fun _ => rfl⟩) ?_
          refine wpAny_take (i := 4) (v := undef) rfl (by kernel_rfl) (by kernel_rfl) (by kernel_rfl) (fun _ _ _ h => h) (Or.inr ⟨by kernel_rfl, rfl⟩) ?_
          refine wpAny_take (i := 5) (v := undef) rfl (by kernel_rfl) (by kernel_rfl) (by kernel_rfl) (fun _ _ _ h => h) (Or.inr ⟨by kernel_rfl, rfl⟩) ?_
          refine wpAny_take (i := 6) (v := undef) rfl (by kernel_rfl) (by kernel_rfl) (by kernel_rfl) (fun _ _ _ h => h) (Or.inr ⟨by kernel_rfl, rfl⟩) ?_
          refine wpAny_take (i := 7) (v := undef) rfl (by kernel_rfl) (by kernel_rfl) (by kernel_rfl) (fun _ _ _ h => h) (Or.inr ⟨by kernel_rfl, rfl⟩) ?_
          refine wpAny_take (i := 8) (v := undef) rfl (by kernel_rfl) (by kernel_rfl) (by kernel_rfl) (fun _ _ _ h => h) (Or.inr ⟨by kernel_rfl, rfl⟩) ?_
          refine wpAny_take (i := 9) (v := undef) rfl (by kernel_rfl) (by kernel_rfl) (by kernel_rfl) (fun _ _ _ h => h) (Or.inr ⟨by kernel_rfl, rfl⟩) ?_
          refine wpAny_take (i := 10) (v := undef) rfl (by kernel_rfl) (by kernel_rfl) (by kernel_rfl) (fun _ _ _ h => h) (Or.inr ⟨by kernel_rfl, rfl⟩) ?_
          refine wpAny_take (i := 11) (v := undef) rfl (by kernel_rfl) (by kernel_rfl) (by kernel_rfl) (fun _ _ _ h => h) (Or.inr ⟨by kernel_rfl, rfl⟩) ?_
          refine wpAny_ready (rs := [12]) (by kernel_rfl) (by simp) ?_
          refine AllReady.cons rfl (fun K hK => ?_) AllReady.nil
          go_simp
          refine hK _ _ ?_
          clear hK K
          refine wpAny_done (by kernel_rfl) ?_ _
          go_wp2
          go_meet
          exact ⟨by simp [unhide Hf], (h1.drew).later hb1, (h2.drew).later hb1, own_later hown.drew hb1, hB.drew.trans (hb1.mono (by simp; omega))⟩
        | true =>
          have Hf := hide hf
          clear hf
          go_region_with (first
            | (go_at_call 48; refine (first_any N hN A M hA k hlt _).mono ?_; rintro e w1 ⟨rfl, hb1⟩; rw [unhide Hf]; have k1 := (h1.drew).later hb1; have k2 := (h2.drew).later hb1; have kO := own_later hown.drew hb1; have kB := hB.drew.trans (hb1.mono (by simp; omega)); obtain ⟨x0, x1, x2, x3, x4, x5, x6⟩ := k1.cells; obtain ⟨y0, y1, y2, y3, y4, y5⟩ := k2.cells; have yk : w1.cell? ⟨B + 1, k, none⟩ = some (.int .u8 (l k : Int)) := (by simpa using (k2 k (by omega)).1); have hzz := k2.lt)
            | (go_at_call 49; refine (fromAbove_any N hN A M hA l O hl k hlt _).mono ?_; rintro e w2 ⟨f, rfl, hf64, hfb, hb2⟩; have m1 := k1.later hb2; have m2 := k2.later hb2; have mO := own_later kO hb2; have mB := kB.trans (hb2.mono (by omega)); have mk : w2.cell? ⟨B + 1, k, none⟩ = some (.int .u8 (l k : Int)) := (by simpa using (m2 k (by omega)).1)))
          all_goals go_wp2
          all_goals go_meet
          all_goals exact ⟨by rw [← ne_num hl hO (by omega) hfb]; simp [unhide Hf], m1, m2, mO, mB⟩
      case rest =>
        clear c0 c1 c2 c3 c4 c5 c6 d0 d1 d2 d3 d4 d5 dk h1 h2 hown hB
        obtain ⟨rfl, h1, h2, hown, hB⟩ := hcut
        cases hd : (firstB M k && (rdN N O k != restN N M O k N)) with
        | false =>
          have Hd := hide hd
          clear hd
          go_wp2
          go_roundw
          case rel =>
            refine ⟨k + 1, by omega, by go_num, h1, h2, ?_, hB⟩
            simp only [normTo, unhide Hd, Bool.false_eq_true, if_false, List.append_nil]
            exact hown
          case measure => simp [intOf]; omega
        | true =>
          have Hd := hide hd
          clear hd
          have hlen := normTo_len N M O k
          have hzB := h1.lt
          have hz := h2.lt
          obtain ⟨c0, c1, c2, c3, c4, c5, c6⟩ := h1.cells
          have dk : wc.cell? ⟨B + 1, k, none⟩ = some (.int .u8 (l k : Int)) := by simpa using (h2 k (by omega)).1
          have hrd := rdN_andNot hN hl (k := k) (by omega)
          have hrd64 : rdN N O k < 64 := Nat.lt_of_lt_of_le (numOf_lt _ _) (by have := Nat.pow_le_pow_right (n := 2) (by omega) hN; simpa using this)
          have ab : u5.ownBlock ≠ some B := by intro e; have := (hown.lt B e).1; omega
          have ab1 : u5.ownBlock ≠ some (B + 1) := by intro e; have := (hown.lt (B + 1) e).1; omega
          have hnorm : Hid (normTo N M O (k + 1) = normTo N M O k ++ [(k, rdN N O k)]) := by
            show normTo N M O (k + 1) = _
            simp only [normTo, unhide Hd, if_true]
          generalize rdN N O k = rd at *
          have hwr : IntKind.i64.wrap (rd : Int) = (rd : Int) := by rw [IntKind.wrap_i64]; omega
          go_upto_region 6 with fail
          go_region_held3 (fun w' => w'.cell? ⟨B, 0, none⟩ = some (.int .i64 (N : Int)) ∧ w'.cell? ⟨B, 1, none⟩ = some (.int .u8 (A 0 : Int)) ∧ w'.cell? ⟨B, 2, none⟩ = some (.int .u8 (A 1 : Int)) ∧ w'.cell? ⟨B, 3, none⟩ = some (.int .u8 (A 2 : Int)) ∧ w'.cell? ⟨B, 4, none⟩ = some (.int .u8 (A 3 : Int)) ∧ w'.cell? ⟨B, 5, none⟩ = some (.int .u8 (A 4 : Int)) ∧ w'.cell? ⟨B, 6, none⟩ = some (.int .u8 (A 5 : Int)) ∧ w'.cell? ⟨B + 1, k, none⟩ = some (.int .u8 (l k : Int)))
            (first | go_keep | (go_split_ands; refine ⟨?_, ?_, ?_, ?_, ?_, ?_, ?_, ?_⟩ <;> (rw [hgrow.cell_far _ (by simp; omega) (by simp; first | exact Ne.symm ab | exact Ne.symm ab1)]; assumption)) | (go_split_ands; refine ⟨?_, ?_, ?_, ?_, ?_, ?_, ?_, ?_⟩ <;> (rw [hb1.cell (by simp; omega)]; assumption)))
            (first
              | (go_at_call 50; refine (everybody_any N hN A _).mono ?_; rintro e w1 ⟨rfl, hb1⟩; have hq1 := hb1.size; rw [World.size_drew] at hq1; have kO := own_later hown.drew hb1)
              | (refine step_append_lies _ (by rfl) _ _ _ (by rfl) (B + 2) 61 i0 _ 2 16 Try.underlying34 hi0 hz0 hz1 hz2 rfl (by omega) u5 _ _ (by rfl) (kO.alloc _)
                  ⟨w1.heap.size, 0, none⟩ 1 1 [.int .i64 (k : Int), .int .i64 (rd : Int)] (by rfl) (by rfl) (World.news_of_block (cs := #[.int .i64 (k : Int), .int .i64 (rd : Int)]) (t := 61) (fr := (0, 0)) (heap_alloc_new w1 _)) (by simp [Value.oneCell'])
                  (by omega) (by unfold maxLen; omega) (by omega) (by simp; omega) (w1.heap.size + 1) (by simp) ?_; intro gg cap w2 hown2 hgrow hat hlt2))
          all_goals go_wp2
          all_goals go_roundw
          case rel =>
            have k1 := (h1.drew).later hb1
            have k2 := (h2.drew).later hb1
            have kB := hB.drew.trans (hb1.mono (by simp; omega))
            have hlow : Below (B + 2) (w1.alloc (.cells #[.int .i64 (k : Int), .int .i64 (rd : Int)] 61)) w2 := (Below.refl _ _).grown hgrow (by simp; omega) (fun q e => (kO.lt q e).1)
            refine ⟨k + 1, by omega, by go_num, (k1.alloc _).below hlow (by omega), (k2.alloc _).below hlow (by omega), ?_, (kB.alloc (by omega) _).trans (hlow.mono (by omega))⟩
            rw [unhide hnorm, polC_snoc, List.length_append]
            exact hown2
          case measure => simp [intOf]; omega
    · have hkN : k = N := by omega
      subst hkN
      go_wp2
      go_ret
      exact ⟨_, rfl, by rw [unhide Hs]; exact own_base hown (by omega), by rw [unhide Hs]; exact hB⟩
end Go.Proofs.Ytkpkbhgplpmkoaa
