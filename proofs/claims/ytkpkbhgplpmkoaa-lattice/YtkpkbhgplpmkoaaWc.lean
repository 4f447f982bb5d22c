import Derived.Test.YtkpkbhgplpmkoaaWb
import Derived.Deep.DeepCutAuto
namespace Go.Proofs.Ytkpkbhgplpmkoaa
open Go.RowKit

/-- An order in memory: how many, and six bytes. -/
structure Ord (w : World) (B N : Nat) (A : Nat → Nat) : Prop where
  c0 : w.cell? ⟨B, 0, none⟩ = some (.int .i64 (N : Int))
  f0 : w.frozen? ⟨B, 0, none⟩ = false
  six : Six w B 1 A
theorem Ord.lt {w : World} {B N : Nat} {A : Nat → Nat} (h : Ord w B N A) : B < w.heap.size := World.block_lt_of_cell? w _ h.c0
theorem Six.below {w w' : World} {C B o : Nat} {A : Nat → Nat} (h : Six w B o A) (hb : Below C w w') (hC : B < C) : Six w' B o A :=
  fun j hj => ⟨(hb.cell (p := ⟨B, o + j, none⟩) hC).trans (h j hj).1, (hb.frozen (p := ⟨B, o + j, none⟩) hC).trans (h j hj).2⟩
theorem Ord.below {w w' : World} {C B N : Nat} {A : Nat → Nat} (h : Ord w B N A) (hb : Below C w w') (hC : B < C) : Ord w' B N A :=
  ⟨(hb.cell (p := ⟨B, 0, none⟩) hC).trans h.c0, (hb.frozen (p := ⟨B, 0, none⟩) hC).trans h.f0, h.six.below hb hC⟩
theorem Ord.later {w w' : World} {B N : Nat} {A : Nat → Nat} (h : Ord w B N A) (hb : Below w.heap.size w w') : Ord w' B N A := h.below hb h.lt
theorem Ord.drew {w : World} {B N : Nat} {A : Nat → Nat} (h : Ord w B N A) : Ord w.drew B N A := ⟨h.c0, h.f0, h.six.drew⟩
theorem Ord.alloc {w : World} {B N : Nat} {A : Nat → Nat} (h : Ord w B N A) (o : Obj) : Ord (w.alloc o) B N A := h.later ((Below.refl _ _).alloc (Nat.le_refl _) _)
theorem Six.setOther {w : World} {B o : Nat} {A : Nat → Nat} (h : Six w B o A) {b o' : Nat} {v : Value} (hb : b ≠ B ∨ o' < o ∨ o + 6 ≤ o') : Six (w.setCell ⟨b, o', none⟩ v) B o A :=
  fun j hj => ⟨by rw [World.cell?_setCell_other _ _ _ _ (by intro e; injection e with e1 e2 _; omega)]; exact (h j hj).1, by simpa using (h j hj).2⟩
theorem Ord.setOther {w : World} {B N : Nat} {A : Nat → Nat} (h : Ord w B N A) {b o : Nat} {v : Value} (hb : b ≠ B) : Ord (w.setCell ⟨b, o, none⟩ v) B N A :=
  ⟨by rw [World.cell?_setCell_other _ _ _ _ (by intro e; injection e with e1 e2 _; omega)]; exact h.c0, by simpa using h.f0, h.six.setOther (Or.inl hb)⟩
theorem Ord.set {w : World} {B N : Nat} {A : Nat → Nat} (h : Ord w B N A) {k v : Nat} (hk : k < 6) : Ord (w.setCell ⟨B, 1 + k, none⟩ (.int .u8 (v : Int))) B N (upd A k v) :=
  ⟨by rw [World.cell?_setCell_other _ _ _ _ (by intro e; injection e with e1 e2 _; omega)]; exact h.c0, by simpa using h.f0, h.six.set hk⟩
theorem Ord.cells {w : World} {B N : Nat} {A : Nat → Nat} (h : Ord w B N A) : w.cell? ⟨B, 0, none⟩ = some (.int .i64 (N : Int)) ∧ w.cell? ⟨B, 1, none⟩ = some (.int .u8 (A 0 : Int)) ∧ w.cell? ⟨B, 2, none⟩ = some (.int .u8 (A 1 : Int)) ∧ w.cell? ⟨B, 3, none⟩ = some (.int .u8 (A 2 : Int)) ∧ w.cell? ⟨B, 4, none⟩ = some (.int .u8 (A 3 : Int)) ∧ w.cell? ⟨B, 5, none⟩ = some (.int .u8 (A 4 : Int)) ∧ w.cell? ⟨B, 6, none⟩ = some (.int .u8 (A 5 : Int)) :=
  ⟨h.c0, (h.six 0 (by omega)).1, (h.six 1 (by omega)).1, (h.six 2 (by omega)).1, (h.six 3 (by omega)).1, (h.six 4 (by omega)).1, (h.six 5 (by omega)).1⟩
theorem Ord.froz {w : World} {B N : Nat} {A : Nat → Nat} (h : Ord w B N A) : w.frozen? ⟨B, 0, none⟩ = false ∧ w.frozen? ⟨B, 1, none⟩ = false ∧ w.frozen? ⟨B, 2, none⟩ = false ∧ w.frozen? ⟨B, 3, none⟩ = false ∧ w.frozen? ⟨B, 4, none⟩ = false ∧ w.frozen? ⟨B, 5, none⟩ = false ∧ w.frozen? ⟨B, 6, none⟩ = false :=
  ⟨h.f0, (h.six 0 (by omega)).2, (h.six 1 (by omega)).2, (h.six 2 (by omega)).2, (h.six 3 (by omega)).2, (h.six 4 (by omega)).2, (h.six 5 (by omega)).2⟩
/-- A block that has just been laid. -/
theorem Ord.new (w : World) (N : Nat) (A : Nat → Nat) (T : TypeId) : Ord (w.alloc (.cells (ordC N A) T)) w.heap.size N A := by
  refine ⟨by simp [ordC], by simp, ?_⟩
  intro j hj
  match j, hj with
  | 0, _ => simp [ordC]
  | 1, _ => simp [ordC]
  | 2, _ => simp [ordC]
  | 3, _ => simp [ordC]
  | 4, _ => simp [ordC]
  | 5, _ => simp [ordC]
theorem Ord.new' (w : World) (N : Nat) (A : Nat → Nat) (T : TypeId) (b : Nat) (hb : w.heap.size = b) : Ord (w.alloc (.cells (ordC N A) T)) b N A := by subst hb; exact Ord.new w N A T
theorem two_pow_mod (k : Nat) (hk : k < 6) : (2 : Int) ^ k % 256 = ((2 ^ k : Nat) : Int) := by
  match k, hk with
  | 0, _ => rfl
  | 1, _ => rfl
  | 2, _ => rfl
  | 3, _ => rfl
  | 4, _ => rfl
  | 5, _ => rfl
theorem two_pow_lt (k : Nat) (hk : k < 6) : 2 ^ k < 64 := by
  match k, hk with
  | 0, _ => decide
  | 1, _ => decide
  | 2, _ => decide
  | 3, _ => decide
  | 4, _ => decide
  | 5, _ => decide
/-- Seven stores. -/
def put7 (w : World) (b N : Nat) (A : Nat → Nat) : World := put6 (w.setCell ⟨b, 0, none⟩ (.int .i64 (N : Int))) b 1 A
theorem Ord.put {w : World} {B N : Nat} {A : Nat → Nat} (h : Ord w B N A) (N' : Nat) (A' : Nat → Nat) : Ord (put7 w B N' A') B N' A' := by
  have h6 : Six (w.setCell ⟨B, 0, none⟩ (.int .i64 (N' : Int))) B 1 A := h.six.setOther (Or.inr (Or.inl (by omega)))
  refine ⟨?_, ?_, h6.put A'⟩
  · unfold put7 put6
    rw [World.cell?_setCell_other _ _ _ _ (by simp), World.cell?_setCell_other _ _ _ _ (by simp), World.cell?_setCell_other _ _ _ _ (by simp), World.cell?_setCell_other _ _ _ _ (by simp), World.cell?_setCell_other _ _ _ _ (by simp), World.cell?_setCell_other _ _ _ _ (by simp)]
    exact World.cell?_setCell_same _ _ _ h.c0
  · unfold put7 put6
    simpa using h.f0
theorem below_put7 {B b N : Nat} {a w : World} (h : Below B a w) (hb : B ≤ b) (A : Nat → Nat) : Below B a (put7 w b N A) := below_put (h.setCell hb _) hb A

/-- What a list of pairs holds. -/
def Prs (w : World) (ao : Option Addr) (m : Nat) (X Y : Nat → Int) : Prop := ∀ k, k < m → ∃ g, ao = some ⟨g, 0, none⟩ ∧ w.cell? ⟨g, k * 2, none⟩ = some (.int .i64 (X k)) ∧ w.cell? ⟨g, k * 2 + 1, none⟩ = some (.int .i64 (Y k))
/-- The first k pairs laid beside. -/
def prsXY (n : Nat) (X Y : Nat → Int) : Nat → Nat → Nat → Bool
  | 0 => m0 n
  | k + 1 => addP n (prsXY n X Y k) (X k) (Y k)
def powTo (k : Nat) : Nat → Nat := fun j => if j < k then 2 ^ j else 0
theorem powTo_upd (k : Nat) : upd (powTo k) k (2 ^ k) = powTo (k + 1) := by
  funext j
  simp only [upd, powTo]
  by_cases h : j = k
  · subst h; simp
  · have : (j < k + 1) = (j < k) := by apply propext; omega
    simp [h, this]
theorem powTo_col (N : Nat) : Col (powTo N) (m0 N) := by
  intro b hb
  simp only [powTo, m0]
  by_cases h : b < N
  · simp only [h, if_true]
    refine ⟨two_pow_lt b hb, fun a => ?_⟩
    rw [Nat.testBit_two_pow]
    apply decide_eq_decide.2
    omega
  · simp only [h, if_false]
    refine ⟨by omega, fun a => ?_⟩
    rw [Nat.zero_testBit]
    symm
    apply decide_eq_false
    omega
theorem Col.add {A : Nat → Nat} {M : Nat → Nat → Bool} {N x y : Nat} (h : Col A M) (hN : N ≤ 6) (hx : x < N) (hy : y < N) : Col (upd A y (A y ||| 2 ^ x)) (addP N M (x : Int) (y : Int)) := by
  intro b hb
  have h1 := h b hb
  simp only [upd, addP]
  by_cases e : b = y
  · subst e
    simp only [if_true]
    refine ⟨Nat.or_lt_two_pow (n := 6) h1.1 (two_pow_lt x (by omega)), fun a => ?_⟩
    have e : decide (0 ≤ (x : Int) ∧ (x : Int) < N ∧ 0 ≤ (b : Int) ∧ (b : Int) < N ∧ (a : Int) = x ∧ True) = decide (x = a) := decide_eq_decide.2 ⟨fun h => by omega, fun h => ⟨by omega, by omega, by omega, by omega, by omega, trivial⟩⟩
    rw [Nat.testBit_or, h1.2, Nat.testBit_two_pow, e]
  · simp only [e, if_false]
    refine ⟨h1.1, fun a => ?_⟩
    have : decide (0 ≤ (x : Int) ∧ (x : Int) < N ∧ 0 ≤ (y : Int) ∧ (y : Int) < N ∧ (a : Int) = x ∧ (b : Int) = y) = false := by
      apply decide_eq_false; omega
    rw [this, h1.2]; simp
theorem addP_no {N : Nat} {M : Nat → Nat → Bool} {x y : Int} (h : inB N x = false ∨ inB N y = false) : addP N M x y = M := by
  funext a b
  have : decide (0 ≤ x ∧ x < N ∧ 0 ≤ y ∧ y < N ∧ (a : Int) = x ∧ (b : Int) = y) = false := by
    apply decide_eq_false
    simp only [inB, decide_eq_false_iff_not] at h
    omega
  simp only [addP, this, Bool.or_false]

set_option maxHeartbeats 1000000 in
theorem newOrder_any (n : Int) (N : Nat) (hN : N ≤ 6) (hn : (n < 0 ∧ N = 0) ∨ (6 < n ∧ N = 6) ∨ n = N) (ao : Option Addr) (m c : Nat) (X Y : Nat → Int) (hm : m ≤ 1048576) (w : World) (hP : Prs w ao m X Y) :
    Calls Try.prog 35 #[.int .i64 n, .slice ao m c] w fun e w' =>
      ∃ A : Nat → Nat, e = .returned (.agg (ordC N A)) ∧ Col A (outW (prsXY N X Y m) 6) ∧ Below w.heap.size w w' := by
  go_enter Try.func35, Try.ntmps35
  go_upto_region 1 with fail
  go_cut [5] (fun s5 wc => s5 = .pointer (some ⟨w.heap.size + 1, 0, none⟩) ∧ Ord wc (w.heap.size + 1) N (fun _ => 0) ∧ Ord wc w.heap.size 0 (fun _ => 0) ∧ Below w.heap.size w wc)
  case first =>
    have o1 := Ord.new w 0 (fun _ => 0) 67
    rcases hn with ⟨h1, h2⟩ | ⟨h1, h2⟩ | h1
    · subst h2
      go_wp2
      all_goals go_meet
      all_goals exact ⟨rfl, Ord.new' _ 0 (fun _ => 0) 67 _ (by simp), o1.alloc _, by go_grown⟩
    · subst h2
      go_wp2
      all_goals go_meet
      all_goals exact ⟨rfl, Ord.new' _ 6 (fun _ => 0) 67 _ (by simp), o1.alloc _, by go_grown⟩
    · subst h1
      go_wp2
      all_goals go_meet
      all_goals exact ⟨rfl, Ord.new' _ N (fun _ => 0) 67 _ (by simp), o1.alloc _, by go_grown⟩
  case rest =>
    obtain ⟨rfl, hO1, hO0, hBe⟩ := hcut
    generalize hB : w.heap.size = B at *
    have HB := hide hB
    clear hB
    have hP' := hide hP
    clear hP
    have c0 := hO1.c0
    go_wp2
    clear c0
    go_loopw [15] (fun t wr => ∃ (k : Nat), k ≤ N ∧ t = .int .i64 (k : Int) ∧ Ord wr (B + 1) N (powTo k) ∧ Ord wr B 0 (fun _ => 0) ∧ Below B w wr) (fun t _ => N - (intOf t).toNat)
    case atStart => exact ⟨0, by omega, rfl, hO1, hO0, hBe⟩
    case round =>
      obtain ⟨k, hk, rfl, hA1, hA0, hBr⟩ := hrel
      by_cases hlt : k < N
      · have b3 : (0 : Int) ≤ (k : Int) := by omega
        have b4 : (k : Int) < (N : Int) := by omega
        have b5 : (k : Int) < 6 := by omega
        have ck : wr.cell? ⟨B + 1, 1 + k, none⟩ = some (.int .u8 (powTo k k : Int)) := (hA1.six k (by omega)).1
        have fk : wr.frozen? ⟨B + 1, 1 + k, none⟩ = false := (hA1.six k (by omega)).2
        go_wp2
        go_roundw
        case rel =>
          have hs := hA1.set (v := 2 ^ k) (k := k) (by omega)
          rw [powTo_upd] at hs
          rw [two_pow_mod k (by omega)]
          exact ⟨k + 1, by omega, by go_num, hs, hA0.setOther (by omega), hBr.setCell (by simp) _⟩
        case measure => simp [intOf]; omega
      · have hkN : k = N := by omega
        subst hkN
        go_wp2
        go_loopw [26] (fun t ws => ∃ (j : Nat) (A : Nat → Nat), j ≤ m ∧ t = .int .i64 (j : Int) ∧ Col A (prsXY k X Y j) ∧ Ord ws (B + 1) k A ∧ Ord ws B 0 (fun _ => 0) ∧ Below B w ws) (fun t _ => m - (intOf t).toNat)
        case atStart => exact ⟨0, powTo k, by omega, rfl, powTo_col k, hA1, hA0, hBr⟩
        case round =>
          clear hA1 hA0 hBr
          obtain ⟨j, A, hj, rfl, hC, hA1, hA0, hBr⟩ := hrel
          by_cases hjm : j < m
          · obtain ⟨g, rfl, cx0, cy0⟩ := unhide hP' j hjm
            have hg : g < B := by have := World.block_lt_of_cell? w _ cx0; rw [unhide HB] at this; exact this
            have cx : wr.cell? ⟨g, j * 2, none⟩ = some (.int .i64 (X j)) := (hBr.cell (p := ⟨g, j * 2, none⟩) hg).trans cx0
            have cy : wr.cell? ⟨g, j * 2 + 1, none⟩ = some (.int .i64 (Y j)) := (hBr.cell (p := ⟨g, j * 2 + 1, none⟩) hg).trans cy0
            clear cx0 cy0
            have b3 : (0 : Int) ≤ (j : Int) := by omega
            have b4 : (j : Int) < (m : Int) := by omega
            obtain ⟨c0, c1, c2, c3, c4, c5, c6⟩ := hA1.cells
            have hlt2 : B + 1 < wr.heap.size := hA1.lt
            generalize hx : X j = x at *
            generalize hy : Y j = y at *
            have Hx := hide hx
            have Hy := hide hy
            clear hx hy
            have hQ1 : Ord (wr.alloc (.cells #[.int .i64 x, .int .i64 y] 54)) (B + 1) k A := hA1.alloc _
            have hQ0 : Ord (wr.alloc (.cells #[.int .i64 x, .int .i64 y] 54)) B 0 (fun _ => 0) := hA0.alloc _
            have hQb : Below B w (wr.alloc (.cells #[.int .i64 x, .int .i64 y] 54)) := hBr.alloc (by omega) _
            have px : (wr.alloc (.cells #[.int .i64 x, .int .i64 y] 54)).cell? ⟨wr.heap.size, 0, none⟩ = some (.int .i64 x) := by simp
            have py : (wr.alloc (.cells #[.int .i64 x, .int .i64 y] 54)).cell? ⟨wr.heap.size, 1, none⟩ = some (.int .i64 y) := by simp
            have hsz : wr.heap.size < (wr.alloc (.cells #[.int .i64 x, .int .i64 y] 54)).heap.size := by simp
            have Hall := hide (And.intro hQ1 (And.intro hQ0 (And.intro hQb (And.intro px (And.intro py hsz)))))
            clear hQ1 hQ0 hQb px py hsz
            cases ix : inB k x with
            | false =>
              have Hi := hide ix
              clear ix
              go_wp2_with fail
              refine (isActor_B k _ _ _ _ _ _ x _ false (unhide Hi)).mono ?_
              rintro e w1 ⟨rfl, hb1⟩
              obtain ⟨hQ1, hQ0, hQb, px, py, hsz⟩ := unhide Hall
              have hS1 := hQ1.later hb1
              have hS0 := hQ0.later hb1
              have hSb := hQb.trans (hb1.mono (by omega))
              clear hQ1 hQ0 hQb px py hsz c0 c1 c2 c3 c4 c5 c6 cx cy hb1
              go_wp2
              go_roundw
              case rel =>
                refine ⟨j + 1, A, by omega, by go_num, ?_, hS1, hS0, hSb⟩
                show Col A (addP k (prsXY k X Y j) (X j) (Y j))
                rw [unhide Hx, unhide Hy, addP_no (Or.inl (unhide Hi))]; exact hC
              case measure => simp [intOf]; omega
            | true =>
              cases iy : inB k y with
              | false =>
                have Hi := hide ix
                have Hj := hide iy
                clear ix iy
                go_wp2_with fail
                refine (isActor_B k _ _ _ _ _ _ x _ true (unhide Hi)).mono ?_
                rintro e w1 ⟨rfl, hb1⟩
                obtain ⟨hQ1, hQ0, hQb, px, py, hsz⟩ := unhide Hall
                have hS1 := hQ1.later hb1
                have hS0 := hQ0.later hb1
                have hSb := hQb.trans (hb1.mono (by omega))
                have qy := (hb1.cell (p := ⟨wr.heap.size, 1, none⟩) hsz).trans py
                have hz : wr.heap.size < w1.heap.size := Nat.lt_of_lt_of_le hsz hb1.size
                clear hQ1 hQ0 hQb px py hsz c0 c1 c2 c3 c4 c5 c6 cx cy hb1
                obtain ⟨c0, c1, c2, c3, c4, c5, c6⟩ := hS1.cells
                go_wp2_with fail
                refine (isActor_B k _ _ _ _ _ _ y _ false (unhide Hj)).mono ?_
                rintro e w2 ⟨rfl, hb2⟩
                have hT1 := hS1.later hb2
                have hT0 := hS0.later hb2
                have hTb := hSb.trans (hb2.mono (by omega))
                clear c0 c1 c2 c3 c4 c5 c6 qy hb2
                go_wp2
                go_roundw
                case rel =>
                  refine ⟨j + 1, A, by omega, by go_num, ?_, hT1, hT0, hTb⟩
                  show Col A (addP k (prsXY k X Y j) (X j) (Y j))
                  rw [unhide Hx, unhide Hy, addP_no (Or.inr (unhide Hj))]; exact hC
                case measure => simp [intOf]; omega
              | true =>
                have hx2 : 0 ≤ x ∧ x < k := by simpa [inB] using ix
                have hy2 : 0 ≤ y ∧ y < k := by simpa [inB] using iy
                obtain ⟨p, rfl⟩ : ∃ p : Nat, x = p := Int.eq_ofNat_of_zero_le hx2.1
                obtain ⟨q, rfl⟩ : ∃ p : Nat, y = p := Int.eq_ofNat_of_zero_le hy2.1
                have hp6 : p < k := by omega
                have hq6 : q < k := by omega
                have Hi := hide ix
                have Hj := hide iy
                clear ix iy hx2 hy2
                go_wp2_with fail
                refine (isActor_B k _ _ _ _ _ _ p _ true (unhide Hi)).mono ?_
                rintro e w1 ⟨rfl, hb1⟩
                obtain ⟨hQ1, hQ0, hQb, px, py, hsz⟩ := unhide Hall
                have hS1 := hQ1.later hb1
                have hS0 := hQ0.later hb1
                have hSb := hQb.trans (hb1.mono (by omega))
                have qy := (hb1.cell (p := ⟨wr.heap.size, 1, none⟩) hsz).trans py
                have qx := (hb1.cell (p := ⟨wr.heap.size, 0, none⟩) hsz).trans px
                have hz : wr.heap.size < w1.heap.size := Nat.lt_of_lt_of_le hsz hb1.size
                clear hQ1 hQ0 hQb px py hsz c0 c1 c2 c3 c4 c5 c6 cx cy hb1
                obtain ⟨c0, c1, c2, c3, c4, c5, c6⟩ := hS1.cells
                go_wp2_with fail
                refine (isActor_B k _ _ _ _ _ _ q _ true (unhide Hj)).mono ?_
                rintro e w2 ⟨rfl, hb2⟩
                have hT1 := hS1.later hb2
                have hT0 := hS0.later hb2
                have hTb := hSb.trans (hb2.mono (by omega))
                have ry := (hb2.cell (p := ⟨wr.heap.size, 1, none⟩) hz).trans qy
                have rx := (hb2.cell (p := ⟨wr.heap.size, 0, none⟩) hz).trans qx
                clear c0 c1 c2 c3 c4 c5 c6 qy qx hb2
                have ck : w2.cell? ⟨B + 1, 1 + q, none⟩ = some (.int .u8 (A q : Int)) := (hT1.six q (by omega)).1
                have fk : w2.frozen? ⟨B + 1, 1 + q, none⟩ = false := (hT1.six q (by omega)).2
                have b5 : (0 : Int) ≤ (q : Int) := by omega
                have b6 : (q : Int) < 6 := by omega
                have b7 : (0 : Int) ≤ (p : Int) := by omega
                have b8 : (p : Int) < 6 := by omega
                have l1 := (hC q (by omega)).1
                have hne : B + 1 ≠ wr.heap.size := by omega
                go_wp2
                go_region
                all_goals go_wp2
                all_goals go_roundw
                case rel =>
                  have hs := hT1.set (v := A q ||| 2 ^ p) (k := q) (by omega)
                  rw [two_pow_mod p (by omega), or_u8 (A q) (2 ^ p) (by omega) (by have := two_pow_lt p (by omega); omega)]
                  refine ⟨j + 1, _, by omega, by go_num, ?_, hs.drew, (hT0.setOther (by omega)).drew, (hTb.setCell (by simp) _).drew⟩
                  show Col _ (addP k (prsXY k X Y j) (X j) (Y j))
                  rw [unhide Hx, unhide Hy]; exact hC.add hN hp6 hq6
                case measure => simp [intOf]; omega
          · have hjm' : j = m := by omega
            subst hjm'
            obtain ⟨c0, c1, c2, c3, c4, c5, c6⟩ := hA1.cells
            go_wp2_with fail
            refine (closed_any A _ hC _).mono ?_
            rintro e w1 ⟨A', rfl, hC', hb1⟩
            have hS1 := hA1.later hb1
            have hS0 := hA0.later hb1
            have hSb := hBr.trans (hb1.mono (by have := hA1.lt; omega))
            clear c0 c1 c2 c3 c4 c5 c6 hb1 hA1 hA0
            have hU1 : Ord (put6 w1 (B + 1) 1 A') (B + 1) k A' := by
              refine ⟨?_, ?_, hS1.six.put A'⟩
              · unfold put6
                rw [World.cell?_setCell_other _ _ _ _ (by simp), World.cell?_setCell_other _ _ _ _ (by simp), World.cell?_setCell_other _ _ _ _ (by simp), World.cell?_setCell_other _ _ _ _ (by simp), World.cell?_setCell_other _ _ _ _ (by simp), World.cell?_setCell_other _ _ _ _ (by simp)]
                exact hS1.c0
              · unfold put6
                simpa using hS1.f0
            have hU0 : Ord (put6 w1 (B + 1) 1 A') B 0 (fun _ => 0) := by
              unfold put6
              exact (((((hS0.setOther (by omega)).setOther (by omega)).setOther (by omega)).setOther (by omega)).setOther (by omega)).setOther (by omega)
            have hUb : Below B w (put6 w1 (B + 1) 1 A') := below_put hSb (by omega) A'
            have Hall := hide (And.intro hU1 (And.intro hU0 hUb))
            clear hU1 hU0 hUb
            obtain ⟨c0, c1, c2, c3, c4, c5, c6⟩ := hS1.cells
            obtain ⟨f0, f1, f2, f3, f4, f5, f6⟩ := hS1.froz
            clear hS1 hS0 hSb c0 f0
            go_upto_region 14 with fail
            clear c1 c2 c3 c4 c5 c6 f1 f2 f3 f4 f5 f6
            change Code.wp Try.prog _ _ _ (put6 w1 (B + 1) 1 A')
            obtain ⟨hU1, hU0, hUb⟩ := unhide Hall
            clear Hall
            generalize put6 w1 (B + 1) 1 A' = w2 at *
            obtain ⟨c0, c1, c2, c3, c4, c5, c6⟩ := hU1.cells
            obtain ⟨d0, d1, d2, d3, d4, d5, d6⟩ := hU0.cells
            obtain ⟨g0, g1, g2, g3, g4, g5, g6⟩ := hU0.froz
            go_wp2
            clear c0 c1 c2 c3 c4 c5 c6 d0 d1 d2 d3 d4 d5 d6 g0 g1 g2 g3 g4 g5 g6
            change bodyPost Try.prog Try.f35 _ _ _ (put7 w2 B k A')
            have hV := (hU0.put k A').cells
            have hVb : Below B w (put7 w2 B k A') := below_put7 hUb (by omega) A'
            generalize put7 w2 B k A' = w3 at *
            obtain ⟨c0, c1, c2, c3, c4, c5, c6⟩ := hV
            refine bodyPost_ret (v := .agg (ordC k A')) (by simp [results, Try.results35, go_sem, c0, c1, c2, c3, c4, c5, c6]) rfl ⟨A', rfl, hC', ?_⟩
            rw [unhide HB]
            exact hVb
end Go.Proofs.Ytkpkbhgplpmkoaa
