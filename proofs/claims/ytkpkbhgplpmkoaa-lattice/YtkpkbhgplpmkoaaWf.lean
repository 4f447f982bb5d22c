import Derived.Test.YtkpkbhgplpmkoaaWe
import Derived.Deep.DeepMust
namespace Go.Proofs.Ytkpkbhgplpmkoaa
open Go.RowKit

/-- The reference's grid in memory: i of N rows are there. -/
structure Grid (w : World) (ob N i : Nat) (v : Value) (R : Nat → Nat) (M : Nat → Nat → Bool) : Prop where
  n0 : w.cell? ⟨ob, 0, none⟩ = some (.int .i64 (N : Int))
  ov : w.cell? ⟨ob, 1, none⟩ = some v
  fz : w.frozen? ⟨ob, 1, none⟩ = false
  own : w.ownsRow (ob + 1) 59 1 v i ((List.range i).map fun a => Value.slice (some ⟨R a, 0, none⟩) N N)
  row : ∀ a, a < i → ∀ b, b < N → w.cell? ⟨R a, b, none⟩ = some (.bool (M a b)) ∧ w.frozen? ⟨R a, b, none⟩ = false
  ge : ∀ a, a < i → ob + 1 ≤ R a ∧ R a < w.heap.size
  inj : ∀ a a', a < i → a' < i → R a = R a' → a = a'
  ap : ∀ a, a < i → v.ownBlock ≠ some (R a)

theorem made_cell {w1 : World} {base g N : Nat} (h : w1.ownsRow base 4 1 (.slice (some ⟨g, 0, none⟩) N N) N (madeCells (Value.bool false).cells (N * 1)).toList) (b : Nat) (hb : b < N) : w1.cell? ⟨g, b, none⟩ = some (.bool false) := by
  rw [h.cellAt b (by omega)]
  show (madeCells #[Value.bool false] (N * 1)).toList[b]? = _
  rw [toList_madeCells_one, List.getElem?_replicate, if_pos (by omega)]
theorem own_after {w w1 : World} {ob N i : Nat} {v : Value} {xs : List Value} (h : w.ownsRow (ob + 1) 59 1 v i xs)
    (hmk : w1.ownsRow (ob + 1) 4 1 (.slice (some ⟨w.heap.size, 0, none⟩) N N) N (madeCells (Value.bool false).cells (N * 1)).toList) (hg1 : w.grownBy w1 none) :
    (w1.setCell ⟨w.heap.size, i, none⟩ (.bool true)).ownsRow (ob + 1) 59 1 v i xs := by
  refine (h.kept hg1 (Classical.em _)).kept (hmk.stored i (.bool true)).2 (Or.inr ?_)
  intro e
  have := (h.lt _ e).2
  omega
theorem ob_after {w w1 w4 : World} {ob N i n : Nat} {v : Value} {R : Nat → Nat} {M : Nat → Nat → Bool} {O : Obj} (h : Grid w ob N i v R M) (hob : ob < w.heap.size) (hg1 : w.grownBy w1 none)
    (hg4 : ((w1.setCell ⟨w.heap.size, n, none⟩ (.bool true)).alloc O).grownBy w4 v.ownBlock) : w4.cell? ⟨ob, 1, none⟩ = some v ∧ w4.frozen? ⟨ob, 1, none⟩ = false := by
  have hvo : some ob ≠ v.ownBlock := fun e => by have := (h.own.lt ob e.symm).1; omega
  have hs1 := hg1.size
  have b : w4.heap[ob]? = w.heap[ob]? := by
    rw [hg4.block ob (by simp; omega) hvo, Below.heap_alloc _ _ _ (by simp; omega), Below.heap_setCell _ _ _ _ (by simp; omega), hg1.block ob hob (by simp)]
  exact ⟨(World.cell?_of_block (w := w) (w' := w4) (a := ⟨ob, 1, none⟩) b).trans h.ov, (World.frozen?_of_block (w := w) (w' := w4) (a := ⟨ob, 1, none⟩) b).trans h.fz⟩
theorem Grid.push {w w1 w4 : World} {ob N i g cap : Nat} {v : Value} {R : Nat → Nat} {O : Obj} (h : Grid w ob N i v R (m0 N)) (hob : ob < w.heap.size) (hi : i < N)
    (hmk : w1.ownsRow (ob + 1) 4 1 (.slice (some ⟨w.heap.size, 0, none⟩) N N) N (madeCells (Value.bool false).cells (N * 1)).toList) (hg1 : w.grownBy w1 none)
    (hown4 : w4.ownsRow (ob + 1) 59 1 (.slice (some ⟨g, 0, none⟩) (i + 1) cap) (i + 1) (((List.range i).map fun a => Value.slice (some ⟨R a, 0, none⟩) N N) ++ [.slice (some ⟨w.heap.size, 0, none⟩) N N]))
    (hg4 : ((w1.setCell ⟨w.heap.size, i, none⟩ (.bool true)).alloc O).grownBy w4 v.ownBlock) (hat : v.ownBlock = some g ∨ g = w1.heap.size + 1) :
    Grid (w4.setCell ⟨ob, 1, none⟩ (.slice (some ⟨g, 0, none⟩) (i + 1) cap)) ob N (i + 1) (.slice (some ⟨g, 0, none⟩) (i + 1) cap) (upd R i w.heap.size) (m0 N) ∧ Below ob w (w4.setCell ⟨ob, 1, none⟩ (.slice (some ⟨g, 0, none⟩) (i + 1) cap)) ∧ ob < (w4.setCell ⟨ob, 1, none⟩ (.slice (some ⟨g, 0, none⟩) (i + 1) cap)).heap.size := by
  have hlt1 : w.heap.size < w1.heap.size := (hmk.lt w.heap.size rfl).2
  have hs4 : w1.heap.size + 1 ≤ w4.heap.size := by have := hg4.size; simpa using this
  -- the row that was appended to is another block than all that stand here
  have hvb : ∀ q, v.ownBlock = some q → ob + 1 ≤ q ∧ q < w.heap.size := fun q e => h.own.lt q e
  have hvo : some ob ≠ v.ownBlock := fun e => by have := (hvb ob e.symm).1; omega
  have hvn : some w.heap.size ≠ v.ownBlock := fun e => by have := (hvb _ e.symm).2; omega
  -- blocks of w but the two
  have blk : ∀ k, k < w.heap.size → some k ≠ v.ownBlock → w4.heap[k]? = w.heap[k]? := by
    intro k hk hne
    rw [hg4.block k (by simp; omega) hne, Below.heap_alloc _ _ _ (by simp; omega), Below.heap_setCell _ _ _ _ (by simp; omega), hg1.block k hk (by simp)]
  have hgne : ∀ a, a < i → g ≠ R a := by
    intro a ha e
    have h1 := h.ap a ha
    have h2 := (h.ge a ha).2
    rcases hat with h3 | h3
    · exact h1 (by rw [h3, e])
    · omega
  have hgo : g ≠ w.heap.size := by
    intro e
    rcases hat with h3 | h3
    · exact hvn (by rw [h3, e])
    · omega
  -- cells behind the last store
  have far : ∀ q o, q ≠ ob → (w4.setCell ⟨ob, 1, none⟩ (.slice (some ⟨g, 0, none⟩) (i + 1) cap)).cell? ⟨q, o, none⟩ = w4.cell? ⟨q, o, none⟩ := fun q o hq =>
    World.cell?_setCell_other _ _ _ _ (by intro e; injection e with e1; exact hq e1.symm)
  have hr : ∀ a, a < i + 1 → ∀ b, b < N → w4.cell? ⟨upd R i w.heap.size a, b, none⟩ = some (.bool (m0 N a b)) ∧ w4.frozen? ⟨upd R i w.heap.size a, b, none⟩ = false := by
    intro a ha b hb
    by_cases e : a = i
    · subst e
      have e1 : upd R a w.heap.size a = w.heap.size := by simp [upd]
      rw [e1]
      have bk : w4.heap[w.heap.size]? = (w1.setCell ⟨w.heap.size, a, none⟩ (.bool true)).heap[w.heap.size]? := by
        rw [hg4.block w.heap.size (by simp; omega) hvn, Below.heap_alloc _ _ _ (by simp; omega)]
      have c1 : w4.cell? ⟨w.heap.size, b, none⟩ = (w1.setCell ⟨w.heap.size, a, none⟩ (.bool true)).cell? ⟨w.heap.size, b, none⟩ := World.cell?_of_block bk
      have c2 : w4.frozen? ⟨w.heap.size, b, none⟩ = (w1.setCell ⟨w.heap.size, a, none⟩ (.bool true)).frozen? ⟨w.heap.size, b, none⟩ := World.frozen?_of_block bk
      rw [c1, c2]
      refine ⟨?_, by simpa using hmk.frozenAt b⟩
      by_cases eb : b = a
      · subst eb
        rw [World.cell?_setCell_same _ _ _ (made_cell hmk b hb)]
        simp [m0, hi]
      · rw [World.cell?_setCell_other _ _ _ _ (by intro e; injection e with _ e2; exact eb e2.symm), made_cell hmk b hb]
        have : m0 N a b = false := by simp [m0]; omega
        rw [this]
    · have ha' : a < i := by omega
      have e1 : upd R i w.heap.size a = R a := by simp [upd, e]
      rw [e1]
      have bk := blk (R a) (h.ge a ha').2 (fun e => h.ap a ha' e.symm)
      exact ⟨(World.cell?_of_block (w := w) (w' := w4) (a := ⟨R a, b, none⟩) bk).trans (h.row a ha' b hb).1, (World.frozen?_of_block (w := w) (w' := w4) (a := ⟨R a, b, none⟩) bk).trans (h.row a ha' b hb).2⟩
  have bo := blk ob hob hvo
  have ge' : ∀ a, a < i + 1 → ob + 1 ≤ upd R i w.heap.size a ∧ upd R i w.heap.size a < w4.heap.size := by
    intro a ha
    by_cases e : a = i
    · have e1 : upd R i w.heap.size a = w.heap.size := by simp [upd, e]
      rw [e1]; omega
    · have e1 : upd R i w.heap.size a = R a := by simp [upd, e]
      have := h.ge a (by omega)
      rw [e1]; omega
  refine ⟨⟨?_, ?_, ?_, ?_, ?_, ?_, ?_, ?_⟩, ?_, ?_⟩
  · rw [World.cell?_setCell_other _ _ _ _ (by simp)]
    exact (World.cell?_of_block (w := w) (w' := w4) (a := ⟨ob, 0, none⟩) bo).trans h.n0
  · exact World.cell?_setCell_same _ _ _ ((World.cell?_of_block (w := w) (w' := w4) (a := ⟨ob, 1, none⟩) bo).trans h.ov)
  · rw [World.frozen?_setCell]
    exact (World.frozen?_of_block (w := w) (w' := w4) (a := ⟨ob, 1, none⟩) bo).trans h.fz
  · have e : ((List.range (i + 1)).map fun a => Value.slice (some ⟨upd R i w.heap.size a, 0, none⟩) N N) = ((List.range i).map fun a => Value.slice (some ⟨R a, 0, none⟩) N N) ++ [.slice (some ⟨w.heap.size, 0, none⟩) N N] := by
      rw [List.range_succ, List.map_append]
      congr 1
      · apply List.map_congr_left
        intro a ha
        have := List.mem_range.1 ha
        simp [upd, show ¬ a = i by omega]
      · simp [upd]
    rw [e]
    exact ownsRow_setCell_below hown4 (by simp) _
  · intro a ha b hb
    have hne : upd R i w.heap.size a ≠ ob := by have := (ge' a ha).1; omega
    rw [far _ _ hne, World.frozen?_setCell]
    exact hr a ha b hb
  · intro a ha
    have := ge' a ha
    simp only [World.size_setCell]
    exact this
  · intro a a' ha ha' e
    simp only [upd] at e
    by_cases e1 : a = i <;> by_cases e2 : a' = i
    · omega
    · simp only [e1, e2, if_true, if_false] at e
      have := (h.ge a' (by omega)).2; omega
    · simp only [e1, e2, if_true, if_false] at e
      have := (h.ge a (by omega)).2; omega
    · simp only [e1, e2, if_false] at e
      exact h.inj a a' (by omega) (by omega) e
  · intro a ha
    simp only [Value.ownBlock]
    intro e
    injection e with e
    by_cases e1 : a = i
    · simp only [upd, e1, if_true] at e; exact hgo e
    · simp only [upd, e1, if_false] at e; exact hgne a (by omega) e
  · refine Below.setCell ?_ (by simp) _
    exact ⟨hg4.os.trans hg1.os, hg4.tape.trans hg1.tape, hg4.output.trans hg1.output, by omega, fun k hk => blk k (by omega) (fun e => by have := (hvb k e.symm).1; omega)⟩
  · simp only [World.size_setCell]; omega
/-- The whole grid. -/
structure RG (w : World) (ob N : Nat) (ao : Option Addr) (cap : Nat) (R : Nat → Nat) (M : Nat → Nat → Bool) : Prop where
  n0 : w.cell? ⟨ob, 0, none⟩ = some (.int .i64 (N : Int))
  ov : w.cell? ⟨ob, 1, none⟩ = some (.slice ao N cap)
  rows : ∀ a, a < N → ∃ rb, ao = some ⟨rb, 0, none⟩ ∧ ob < rb ∧ w.cell? ⟨rb, a, none⟩ = some (.slice (some ⟨R a, 0, none⟩) N N) ∧ ∀ b, b < N → R b ≠ rb
  row : ∀ a, a < N → ∀ b, b < N → w.cell? ⟨R a, b, none⟩ = some (.bool (M a b)) ∧ w.frozen? ⟨R a, b, none⟩ = false
  ge : ∀ a, a < N → ob + 1 ≤ R a
  inj : ∀ a a', a < N → a' < N → R a = R a' → a = a'
theorem Grid.whole {w : World} {ob N : Nat} {v : Value} {R : Nat → Nat} {M : Nat → Nat → Bool} (h : Grid w ob N N v R M) : ∃ ao cap, v = .slice ao N cap ∧ RG w ob N ao cap R M := by
  by_cases hN : 0 < N
  · obtain ⟨g, cap, rfl, hg, hlt⟩ := h.own.form hN
    refine ⟨_, _, rfl, h.n0, h.ov, fun a ha => ⟨g, rfl, by omega, ?_, fun b hb e => h.ap b hb (by simp [Value.ownBlock, e])⟩, h.row, fun a ha => (h.ge a ha).1, h.inj⟩
    rw [h.own.cellAt a (by omega), List.getElem?_map, List.getElem?_range ha]
    rfl
  · have h0 : N = 0 := by omega
    subst h0
    rcases h.own.2 with ⟨rfl, _⟩ | ⟨g, cap, cur, rfl, _⟩
    · exact ⟨_, _, rfl, h.n0, h.ov, fun a ha => by omega, fun a ha => by omega, fun a ha => by omega, fun a a' ha => by omega⟩
    · exact ⟨_, _, rfl, h.n0, h.ov, fun a ha => by omega, fun a ha => by omega, fun a ha => by omega, fun a a' ha => by omega⟩
theorem RG.later {w w' : World} {ob N : Nat} {ao : Option Addr} {cap : Nat} {R : Nat → Nat} {M : Nat → Nat → Bool} (h : RG w ob N ao cap R M) (hb : Below w.heap.size w w') : RG w' ob N ao cap R M := by
  refine ⟨(hb.cell (p := ⟨ob, 0, none⟩) (World.block_lt_of_cell? w _ h.n0)).trans h.n0, (hb.cell (p := ⟨ob, 1, none⟩) (World.block_lt_of_cell? w _ h.ov)).trans h.ov, ?_, ?_, h.ge, h.inj⟩
  · intro a ha
    obtain ⟨rb, h1, h2, h3, h4⟩ := h.rows a ha
    exact ⟨rb, h1, h2, (hb.cell (p := ⟨rb, a, none⟩) (World.block_lt_of_cell? w _ h3)).trans h3, h4⟩
  · intro a ha b hb'
    have h1 := h.row a ha b hb'
    exact ⟨(hb.cell (p := ⟨R a, b, none⟩) (World.block_lt_of_cell? w _ h1.1)).trans h1.1, (hb.frozen (p := ⟨R a, b, none⟩) (World.block_lt_of_cell? w _ h1.1)).trans h1.2⟩
theorem RG.set {w : World} {ob N : Nat} {ao : Option Addr} {cap : Nat} {R : Nat → Nat} {M : Nat → Nat → Bool} (h : RG w ob N ao cap R M) {x y : Nat} (hx : x < N) (hy : y < N) : RG (w.setCell ⟨R x, y, none⟩ (.bool true)) ob N ao cap R (setM M x y) := by
  have hge := h.ge x hx
  refine ⟨?_, ?_, ?_, ?_, h.ge, h.inj⟩
  · rw [World.cell?_setCell_other _ _ _ _ (by intro e; injection e with e1; omega)]; exact h.n0
  · rw [World.cell?_setCell_other _ _ _ _ (by intro e; injection e with e1; omega)]; exact h.ov
  · intro a ha
    obtain ⟨rb, h1, h2, h3, h4⟩ := h.rows a ha
    exact ⟨rb, h1, h2, by rw [World.cell?_setCell_other _ _ _ _ (by intro e; injection e with e1; exact h4 x hx e1)]; exact h3, h4⟩
  · intro a ha b hb
    refine ⟨?_, by rw [World.frozen?_setCell]; exact (h.row a ha b hb).2⟩
    by_cases e : a = x ∧ b = y
    · obtain ⟨rfl, rfl⟩ := e
      rw [World.cell?_setCell_same _ _ _ (h.row a ha b hb).1]
      simp [setM]
    · rw [World.cell?_setCell_other _ _ _ _ (by intro e'; injection e' with e1 e2; exact e ⟨h.inj a x ha hx e1.symm, e2.symm⟩), (h.row a ha b hb).1]
      have : (decide (a = x) && decide (b = y)) = false := by
        cases h1 : decide (a = x) <;> cases h2 : decide (b = y) <;> simp_all
      simp [setM, this]
/-- Triples that have been looked at. -/
def T3 (M : Nat → Nat → Bool) (a b c : Nat) : Prop := M a b = true → M b c = true → M a c = true
def Q3 (N : Nat) (M : Nat → Nat → Bool) (a b c : Nat) : Prop := (∀ a', a' < a → ∀ b', b' < N → ∀ c', c' < N → T3 M a' b' c') ∧ (∀ b', b' < b → ∀ c', c' < N → T3 M a b' c') ∧ ∀ c', c' < c → T3 M a b c'
theorem Q3.zero (N : Nat) (M : Nat → Nat → Bool) : Q3 N M 0 0 0 := ⟨fun a' h => by omega, fun b' h => by omega, fun c' h => by omega⟩
theorem Q3.c {N : Nat} {M : Nat → Nat → Bool} {a b c : Nat} (h : Q3 N M a b c) (k : T3 M a b c) : Q3 N M a b (c + 1) :=
  ⟨h.1, h.2.1, fun c' hc => by by_cases e : c' = c; exact e ▸ k; exact h.2.2 c' (by omega)⟩
theorem Q3.b {N : Nat} {M : Nat → Nat → Bool} {a b : Nat} (h : Q3 N M a b N) : Q3 N M a (b + 1) 0 :=
  ⟨h.1, fun b' hb c' hc => by by_cases e : b' = b; exact e ▸ h.2.2 c' hc; exact h.2.1 b' (by omega) c' hc, fun c' h => by omega⟩
theorem Q3.a {N : Nat} {M : Nat → Nat → Bool} {a : Nat} (h : Q3 N M a N 0) : Q3 N M (a + 1) 0 0 :=
  ⟨fun a' ha b' hb c' hc => by by_cases e : a' = a; exact e ▸ h.2.1 b' hb c' hc; exact h.1 a' (by omega) b' hb c' hc, fun b' h => by omega, fun c' h => by omega⟩
/-- How a pass stands: nothing has turned, or something has. -/
def Ps (N : Nat) (S M : Nat → Nat → Bool) (t : Bool) (a b c : Nat) : Prop := (t = false ∧ M = S ∧ Q3 N M a b c) ∨ (t = true ∧ cnt N S < cnt N M)
theorem addP_set {N p q : Nat} {M : Nat → Nat → Bool} (hp : p < N) (hq : q < N) : addP N M (p : Int) (q : Int) = setM M p q := by
  funext a b
  simp only [addP, setM]
  congr 1
  have e : (decide (a = p) && decide (b = q)) = decide (a = p ∧ b = q) := by simp
  rw [e]
  exact decide_eq_decide.2 ⟨fun h => by omega, fun h => by omega⟩
end Go.Proofs.Ytkpkbhgplpmkoaa
