import Derived.Test.YtkpkbhgplpmkoaaLj
namespace Go.Proofs.Ytkpkbhgplpmkoaa
open Go.RowKit

/-- Two rows in blocks of their own. -/
def Apt (v1 v2 : Value) : Prop := ∀ q, v1.ownBlock = some q → v2.ownBlock ≠ some q
theorem kept_other {w w' : World} {base : Nat} {e : TypeId} {size : Nat} {v v1 : Value} {n : Nat} {xs : List Value} (h : w.ownsRow base e size v n xs) (hg : w.grownBy w' v1.ownBlock) (ha : Apt v1 v) : w'.ownsRow base e size v n xs := by
  refine h.kept hg ?_
  cases hv : v.ownBlock with
  | none => exact Or.inl rfl
  | some q =>
    right
    intro e
    exact ha q e.symm hv

set_option maxRecDepth 100000 in
set_option maxHeartbeats 2000000 in
theorem pols_any (ao : Option Addr) (m c : Nat) (L : Nat → Int) (hm : m ≤ 1048576) (w : World) (hL : Ints w ao m L) :
    Calls Try.prog 12 #[.slice ao m c] w fun e w' => ∃ v1 v2, e = .returned (.tuple #[v1, v2]) ∧ w'.ownsRow w.heap.size 61 2 v1 (m / 2) (prL L (m / 2)) ∧ w'.ownsRow w.heap.size 62 2 v2 (m / 2) (prL L (m / 2)) ∧ Below w.heap.size w w' := by
  obtain ⟨i0, hi0, hz0, hz1, hz2⟩ := info_parts Try.info61
  obtain ⟨i1, hi1, hy0, hy1, hy2⟩ := info_parts Try.info62
  go_enter Try.func12, Try.ntmps12
  go_wp2
  generalize hB : w.heap.size = B at *
  have HB := hide hB
  clear hB
  go_loopw [4, 5, 6] (fun v v2 t wr => ∃ (j k : Nat), Hid (k = 2 * j) ∧ k ≤ m ∧ t = .int .i64 (k : Int) ∧ wr.ownsRow B 61 2 v j (prL L j) ∧ wr.ownsRow B 62 2 v2 j (prL L j) ∧ Apt v v2 ∧ Below B w wr ∧ B ≤ wr.heap.size) (fun _ _ t _ => m - (intOf t).toNat)
  case atStart => exact ⟨0, 0, rfl, by omega, rfl, World.ownsRow_nil _ _ _ _, World.ownsRow_nil _ _ _ _, fun q e => by simp [Value.ownBlock] at e, Below.refl _ _, by rw [unhide HB]; omega⟩
  case round =>
    obtain ⟨j, k, Hk, hkm, rfl, hown, hown', hap, hBr, hsz⟩ := hrel
    by_cases hlt : k + 1 < m
    · obtain ⟨b, off, rfl, cx0⟩ := hL k (by omega)
      obtain ⟨b', off', he, cy0⟩ := hL (k + 1) (by omega)
      injection he with he; injection he with he1 he2 _
      subst he1 he2
      have hg : b < B := by have := World.block_lt_of_cell? w _ cx0; rw [unhide HB] at this; exact this
      have cx : wr.cell? ⟨b, off + k, none⟩ = some (.int .i64 (L k)) := (hBr.cell (p := ⟨b, off + k, none⟩) hg).trans cx0
      have cy : wr.cell? ⟨b, off + (k + 1), none⟩ = some (.int .i64 (L (k + 1))) := (hBr.cell (p := ⟨b, off + (k + 1), none⟩) hg).trans cy0
      clear cx0 cy0
      have hjk : j * 2 ≤ k := by rw [unhide Hk]; omega
      have ab : u4.ownBlock ≠ some b := by intro e; have := (hown.lt b e).1; omega
      have ab' : u5.ownBlock ≠ some b := by intro e; have := (hown'.lt b e).1; omega
      have hlt5 : ∀ q, u5.ownBlock = some q → q < wr.heap.size := fun q e => (hown'.lt q e).2
      have Hap := hide hap
      have Hlt5 := hide hlt5
      clear hap hlt5
      have b1 : (0 : Int) ≤ (k : Int) := by omega
      have b2 : (k : Int) + 1 < (m : Int) := by omega
      have b3 : (k : Int) < (m : Int) := by omega
      have b4 : IntKind.i64.wrap ((k : Int) + 1) = (k : Int) + 1 := by rw [IntKind.wrap_i64]; omega
      have b5 : (0 : Int) ≤ (k : Int) + 1 := by omega
      go_upto_region 6 with fail
      go_region_held3 (fun w' => w'.cell? ⟨b, off + k, none⟩ = some (.int .i64 (L k)) ∧ w'.cell? ⟨b, off + (k + 1), none⟩ = some (.int .i64 (L (k + 1))))
        (first
          | go_keep
          | (go_split_ands
             refine ⟨?_, ?_⟩
             · (rw [hgrow.cell_far _ (by simp; omega) (Ne.symm ab)]; assumption)
             · (rw [hgrow.cell_far _ (by simp; omega) (Ne.symm ab)]; assumption)))
        ((refine step_append_lies _ (by rfl) _ _ _ (by rfl) B 61 i0 _ 2 16 Try.underlying34 hi0 hz0 hz1 hz2 rfl (by omega) u4 j (prL L j) (by rfl) ((hown.alloc _).drew)
            ⟨wr.heap.size, 0, none⟩ 1 1 [.int .i64 (L k), .int .i64 (L (k + 1))] (by rfl) (by rfl) (World.news_of_block (cs := #[.int .i64 (L k), .int .i64 (L (k + 1))]) (t := 61) (fr := (0, 0)) (heap_alloc_new wr _)) (by simp [Value.oneCell'])
            (by omega) (by unfold maxLen; omega) (by omega) (by simp; omega) (wr.heap.size + 1) (by simp) ?_; intro gg cap w1 hown1 hgrow hat hlt1))
      have hs1 : wr.heap.size + 1 ≤ w1.heap.size := by have := hgrow.size; simpa using this
      have hown1' : w1.ownsRow B 62 2 u5 j (prL L j) := kept_other ((hown'.alloc _).drew) hgrow (unhide Hap)
      have hB1 : Below B w w1 := ((hBr.alloc hsz _).drew).grown hgrow (by simp; omega) (fun q e => (hown.lt q e).1)
      have hap1 : Hid (Apt u5 (.slice (some ⟨gg, 0, none⟩) (j + 1) cap)) := by
        intro q hq e
        simp only [Value.ownBlock] at e
        injection e with e
        subst e
        rcases hat with h | h
        · exact unhide Hap _ h hq
        · have := unhide Hlt5 _ hq; omega
      have cx1 : w1.cell? ⟨b, off + k, none⟩ = some (.int .i64 (L k)) := by rw [hgrow.cell_far _ (by simp; omega) (Ne.symm ab)]; simpa [World.cell?_alloc_past] using (by rw [World.cell?_alloc_lt _ _ _ (by simp; omega)]; exact cx : (wr.alloc (.cells #[.int .i64 (L k), .int .i64 (L (k + 1))] 61)).cell? ⟨b, off + k, none⟩ = some (.int .i64 (L k)))
      have cy1 : w1.cell? ⟨b, off + (k + 1), none⟩ = some (.int .i64 (L (k + 1))) := by rw [hgrow.cell_far _ (by simp; omega) (Ne.symm ab)]; simpa [World.cell?_alloc_past] using (by rw [World.cell?_alloc_lt _ _ _ (by simp; omega)]; exact cy : (wr.alloc (.cells #[.int .i64 (L k), .int .i64 (L (k + 1))] 61)).cell? ⟨b, off + (k + 1), none⟩ = some (.int .i64 (L (k + 1))))
      clear cx cy hown hown' hgrow hat hBr
      go_upto_region 7 with fail
      go_region_held3 (fun w' => w'.cell? ⟨b, off + k, none⟩ = some (.int .i64 (L k)) ∧ w'.cell? ⟨b, off + (k + 1), none⟩ = some (.int .i64 (L (k + 1))))
        (first
          | go_keep
          | (go_split_ands
             refine ⟨?_, ?_⟩
             · (rw [hgrow2.cell_far _ (by simp; omega) (Ne.symm ab')]; assumption)
             · (rw [hgrow2.cell_far _ (by simp; omega) (Ne.symm ab')]; assumption)))
        ((refine step_append_lies _ (by rfl) _ _ _ (by rfl) B 62 i1 _ 2 16 Try.underlying35 hi1 hy0 hy1 hy2 rfl (by omega) u5 j (prL L j) (by rfl) ((hown1'.alloc _).drew)
            ⟨w1.heap.size, 0, none⟩ 1 1 [.int .i64 (L k), .int .i64 (L (k + 1))] (by rfl) (by rfl) (World.news_of_block (cs := #[.int .i64 (L k), .int .i64 (L (k + 1))]) (t := 62) (fr := (0, 0)) (heap_alloc_new w1 _)) (by simp [Value.oneCell'])
            (by omega) (by unfold maxLen; omega) (by omega) (by simp; omega) (w1.heap.size + 1) (by simp) ?_; intro g2 cap2 w2 hown2 hgrow2 hat2 hlt2))
      go_wp2
      go_roundw
      case rel =>
        have hk2 : k = 2 * j := unhide Hk
        have hs2 : w1.heap.size + 1 ≤ w2.heap.size := by have := hgrow2.size; simpa using this
        refine ⟨j + 1, k + 2, show k + 2 = 2 * (j + 1) by omega, by omega, by go_num, ?_, ?_, ?_, ?_, by omega⟩
        · rw [prL_succ, ← hk2]; exact kept_other ((hown1.alloc _).drew) hgrow2 (unhide hap1)
        · rw [prL_succ, ← hk2]; exact hown2
        · intro q hq e
          simp only [Value.ownBlock] at e hq
          injection e with e
          injection hq with hq
          subst hq
          rcases hat2 with h | h
          · exact unhide hap1 _ h (by simp [Value.ownBlock, e])
          · have := (hown1.lt gg rfl).2; omega
        · exact ((hB1.alloc (by omega) _).drew).grown hgrow2 (by simp; omega) (fun q e => (hown1'.lt q e).1)
      case measure => simp [intOf]; omega
    · have hk2 : k = 2 * j := unhide Hk
      have hj : m / 2 = j := by omega
      have Hj := hide hj
      clear hk2 hj
      go_wp2
      go_ret2
      exact ⟨_, _, rfl, by rw [unhide HB, unhide Hj]; exact hown, by rw [unhide HB, unhide Hj]; exact hown', by rw [unhide HB]; exact hBr⟩
end Go.Proofs.Ytkpkbhgplpmkoaa
