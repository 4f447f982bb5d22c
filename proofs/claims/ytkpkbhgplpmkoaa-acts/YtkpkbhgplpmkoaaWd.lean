import Derived.Test.YtkpkbhgplpmkoaaWc
import Derived.Deep.RegionHeld3
import Derived.Deep.AppendLies
import Derived.KernelRfl
namespace Go.Proofs.Ytkpkbhgplpmkoaa
open Go.RowKit

/-- Pairs of numbers, as cells. -/
def prL (L : Nat → Int) (j : Nat) : List Value := (List.range j).flatMap fun i => [.int .i64 (L (2 * i)), .int .i64 (L (2 * i + 1))]
theorem prL_succ (L : Nat → Int) (j : Nat) : prL L (j + 1) = prL L j ++ [.int .i64 (L (2 * j)), .int .i64 (L (2 * j + 1))] := by
  simp [prL, List.range_succ, List.flatMap_append]
theorem prL_len (L : Nat → Int) (j : Nat) : (prL L j).length = j * 2 := by
  induction j with
  | zero => rfl
  | succ j ih => rw [prL_succ, List.length_append, ih]; simp; omega
theorem prL_get (L : Nat → Int) (j : Nat) : ∀ i, i < j → (prL L j)[i * 2]? = some (.int .i64 (L (2 * i))) ∧ (prL L j)[i * 2 + 1]? = some (.int .i64 (L (2 * i + 1))) := by
  induction j with
  | zero => intro i hi; omega
  | succ j ih =>
    intro i hi
    rw [prL_succ]
    have hl := prL_len L j
    by_cases h : i < j
    · rw [List.getElem?_append_left (by omega), List.getElem?_append_left (by omega)]
      exact ih i h
    · have : i = j := by omega
      subst this
      rw [List.getElem?_append_right (by omega), List.getElem?_append_right (by omega), hl]
      simp
theorem own_prs {w : World} {base e : Nat} {v : Value} {j : Nat} {L : Nat → Int} (h : w.ownsRow base e 2 v j (prL L j)) : ∃ ao c, v = .slice ao j c ∧ Prs w ao j (fun i => L (2 * i)) (fun i => L (2 * i + 1)) := by
  by_cases hj : 0 < j
  · obtain ⟨g, cap, rfl, _, _⟩ := h.form hj
    refine ⟨_, _, rfl, fun k hk => ⟨g, rfl, ?_, ?_⟩⟩
    · rw [h.cellAt (k * 2) (by omega)]; exact (prL_get L j k hk).1
    · rw [h.cellAt (k * 2 + 1) (by omega)]; exact (prL_get L j k hk).2
  · have h0 : j = 0 := by omega
    subst h0
    rcases h.2 with ⟨rfl, _⟩ | ⟨g, cap, cur, rfl, _⟩
    · exact ⟨_, _, rfl, fun k hk => by omega⟩
    · exact ⟨_, _, rfl, fun k hk => by omega⟩
/-- A slice of numbers that came in. -/
def Ints (w : World) (ao : Option Addr) (m : Nat) (L : Nat → Int) : Prop := ∀ i, i < m → ∃ b off, ao = some ⟨b, off, none⟩ ∧ w.cell? ⟨b, off + i, none⟩ = some (.int .i64 (L i))
theorem Ints.later {w w' : World} {ao : Option Addr} {m : Nat} {L : Nat → Int} (h : Ints w ao m L) (hb : Below w.heap.size w w') : Ints w' ao m L := by
  intro i hi
  obtain ⟨b, off, h1, h2⟩ := h i hi
  exact ⟨b, off, h1, (hb.cell (p := ⟨b, off + i, none⟩) (World.block_lt_of_cell? w _ h2)).trans h2⟩

set_option maxHeartbeats 400000 in
theorem newOrderS_any (n : Int) (N : Nat) (hN : N ≤ 6) (hn : (n < 0 ∧ N = 0) ∨ (6 < n ∧ N = 6) ∨ n = N) (ao : Option Addr) (m c : Nat) (X Y : Nat → Int) (hm : m ≤ 1048576) (w : World) (hP : Prs w ao m X Y) :
    Calls Try.prog 27 #[.int .i64 n, .slice ao m c] w fun e w' =>
      ∃ (A : Nat → Nat) (b : Nat), e = .returned (.pointer (some ⟨b, 0, none⟩)) ∧ w.heap.size ≤ b ∧ Ord w' b N A ∧ Col A (outW (prsXY N X Y m) 6) ∧ Below w.heap.size w w' := by
  have Hn := hide hn
  clear hn
  go_enter Try.func27, Try.ntmps27
  go_wp2_with fail
  refine (newOrder_any n N hN (unhide Hn) ao m c X Y hm _ hP).mono ?_
  rintro e w1 ⟨A, rfl, hC, hb1⟩
  go_wp2
  go_ret
  exact ⟨A, _, rfl, hb1.size, Ord.new _ N A _, hC, hb1.alloc hb1.size _⟩

theorem Try.info54 : (Try.prog.info? 54).map (fun i => (i.zero, i.size, i.bytes)) = some (some (.agg #[.int .i64 0, .int .i64 0]), 2, 16) := by kernel_rfl

set_option maxRecDepth 100000 in
set_option maxHeartbeats 1000000 in
theorem newOrderP_any (n : Int) (N : Nat) (hN : N ≤ 6) (hn : (n < 0 ∧ N = 0) ∨ (6 < n ∧ N = 6) ∨ n = N) (ao : Option Addr) (m c : Nat) (L : Nat → Int) (hm : m ≤ 1048576) (w : World) (hL : Ints w ao m L) :
    Calls Try.prog 7 #[.int .i64 n, .slice ao m c] w fun e w' =>
      ∃ (A : Nat → Nat) (p b : Nat), e = .returned (.pointer (some ⟨p, 0, none⟩)) ∧ w.heap.size ≤ p ∧ w.heap.size ≤ b ∧ w'.cell? ⟨p, 0, none⟩ = some (.pointer (some ⟨b, 0, none⟩)) ∧ Ord w' b N A ∧ Col A (outW (prsXY N (fun i => L (2 * i)) (fun i => L (2 * i + 1)) (m / 2)) 6) ∧ Below w.heap.size w w' := by
  have Hn := hide hn
  clear hn
  obtain ⟨i0, hi0, hz0, hz1, hz2⟩ := info_parts Try.info54
  go_enter Try.func7, Try.ntmps7
  go_wp2
  generalize hB : w.heap.size = B at *
  have HB := hide hB
  clear hB
  go_loopw [5, 6] (fun v t wr => ∃ (j k : Nat), Hid (k = 2 * j) ∧ k ≤ m ∧ t = .int .i64 (k : Int) ∧ wr.ownsRow B 54 2 v j (prL L j) ∧ Below B w wr ∧ B ≤ wr.heap.size) (fun _ t _ => m - (intOf t).toNat)
  case atStart => exact ⟨0, 0, rfl, by omega, rfl, World.ownsRow_nil _ _ _ _, Below.refl _ _, by rw [unhide HB]; omega⟩
  case round =>
    obtain ⟨j, k, Hk, hkm, rfl, hown, hBr, hsz⟩ := hrel
    by_cases hlt : k + 1 < m
    · obtain ⟨b, off, rfl, cx0⟩ := hL k (by omega)
      obtain ⟨b', off', he, cy0⟩ := hL (k + 1) (by omega)
      injection he with he; injection he with he1 he2 _
      subst he1 he2
      have hg : b < B := by have := World.block_lt_of_cell? w _ cx0; rw [unhide HB] at this; exact this
      have cx : wr.cell? ⟨b, off + k, none⟩ = some (.int .i64 (L k)) := (hBr.cell (p := ⟨b, off + k, none⟩) hg).trans cx0
      have cy : wr.cell? ⟨b, off + (k + 1), none⟩ = some (.int .i64 (L (k + 1))) := (hBr.cell (p := ⟨b, off + (k + 1), none⟩) hg).trans cy0
      clear cx0 cy0
      have hjk : j * 2 ≤ k := by rw [unhide Hk]; omega
      have ab : u5.ownBlock ≠ some b := by intro e; have := (hown.lt b e).1; omega
      have b1 : (0 : Int) ≤ (k : Int) := by omega
      have b2 : (k : Int) + 1 < (m : Int) := by omega
      have b3 : (k : Int) < (m : Int) := by omega
      have b4 : IntKind.i64.wrap ((k : Int) + 1) = (k : Int) + 1 := by rw [IntKind.wrap_i64]; omega
      have b5 : (0 : Int) ≤ (k : Int) + 1 := by omega
      go_wp2_with fail
      go_region_held3 (fun w' => w'.cell? ⟨b, off + k, none⟩ = some (.int .i64 (L k)) ∧ w'.cell? ⟨b, off + (k + 1), none⟩ = some (.int .i64 (L (k + 1))))
        (first
          | go_keep
          | (go_split_ands
             refine ⟨?_, ?_⟩
             · (rw [hgrow.cell_far _ (by simp; omega) (Ne.symm ab)]; assumption)
             · (rw [hgrow.cell_far _ (by simp; omega) (Ne.symm ab)]; assumption)))
        ((refine step_append_lies _ (by rfl) _ _ _ (by rfl) B 54 i0 _ 2 16 Try.underlying53 hi0 hz0 hz1 hz2 rfl (by omega) u5 j (prL L j) (by rfl) ((hown.alloc _).drew)
            ⟨wr.heap.size, 0, none⟩ 1 1 [.int .i64 (L k), .int .i64 (L (k + 1))] (by rfl) (by rfl) (World.news_of_block (cs := #[.int .i64 (L k), .int .i64 (L (k + 1))]) (t := 54) (fr := (0, 0)) (heap_alloc_new wr _)) (by simp [Value.oneCell'])
            (by omega) (by unfold maxLen; omega) (by omega) (by simp; omega) (wr.heap.size + 1) (by simp) ?_; intro gg cap w1 hown1 hgrow hat hlt1))
      go_wp2
      go_roundw
      case rel =>
        have hk2 : k = 2 * j := unhide Hk
        refine ⟨j + 1, k + 2, show k + 2 = 2 * (j + 1) by omega, by omega, by go_num, ?_, ?_, ?_⟩
        · rw [prL_succ, ← hk2]; exact hown1
        · refine (((hBr.alloc hsz _).drew).grown hgrow (by simp; omega) ?_)
          intro q e; exact (hown.lt q e).1
        · have := hgrow.size; simp at this; omega
      case measure => simp [intOf]; omega
    · go_wp2_with fail
      obtain ⟨ao', c', rfl, hPr⟩ := own_prs hown
      have hk2 : k = 2 * j := unhide Hk
      have hj : m / 2 = j := by omega
      refine (newOrderS_any n N hN (unhide Hn) ao' j c' _ _ (by omega) _ hPr).mono ?_
      rintro e w1 ⟨A, b, rfl, hb0, hO, hC, hb1⟩
      clear hown hPr
      go_wp2
      go_ret
      have hs1 := hb1.size
      refine ⟨A, _, b, rfl, ?_, ?_, by simp, hO.alloc _, by rw [hj]; exact hC, ?_⟩
      · rw [unhide HB]; omega
      · rw [unhide HB]; omega
      · rw [unhide HB]; exact (hBr.trans (hb1.mono hsz)).alloc (by omega) _
end Go.Proofs.Ytkpkbhgplpmkoaa
