import Derived.Test.YtkpkbhgplpmkoaaLk
import Derived.Laws.AppendOwnNone
namespace Go.Proofs.Ytkpkbhgplpmkoaa
open Go.RowKit

def zipL (X Y : Nat → Int) : Nat → Int := fun t => if t % 2 = 0 then X (t / 2) else Y (t / 2)
theorem zipL_0 (X Y : Nat → Int) (i : Nat) : zipL X Y (2 * i) = X i := by
  have h1 : 2 * i % 2 = 0 := by omega
  have h2 : 2 * i / 2 = i := by omega
  simp only [zipL, h1, h2, if_true]
theorem zipL_1 (X Y : Nat → Int) (i : Nat) : zipL X Y (2 * i + 1) = Y i := by
  have h1 : (2 * i + 1) % 2 = 1 := by omega
  have h2 : (2 * i + 1) / 2 = i := by omega
  simp only [zipL, h1, h2]; rfl
/-- Where a slice of pairs may begin. -/
def Beg (ao : Option Addr) (m c : Nat) : Prop := (ao = none ∧ m = 0 ∧ c = 0) ∨ ∃ g, ao = some ⟨g, 0, none⟩
theorem own_pairs {w : World} {base e : Nat} {v : Value} {m : Nat} {X Y : Nat → Int} (h : w.ownsRow base e 2 v m (prL (zipL X Y) m)) : ∃ ao c, v = .slice ao m c ∧ Beg ao m c ∧ Prs w ao m X Y := by
  have hb : ∃ ao c, v = .slice ao m c ∧ Beg ao m c := by
    rcases h.2 with ⟨rfl, rfl⟩ | ⟨g, cap, cur, rfl, _⟩
    · exact ⟨none, 0, rfl, Or.inl ⟨rfl, rfl, rfl⟩⟩
    · exact ⟨_, _, rfl, Or.inr ⟨g, rfl⟩⟩
  obtain ⟨ao, c, hv, hP⟩ := own_prs h
  obtain ⟨ao', c', hv', hb⟩ := hb
  rw [hv] at hv'
  injection hv' with e1 _ e2
  subst e1 e2
  refine ⟨ao, c, hv, hb, ?_⟩
  have e1 : (fun i => zipL X Y (2 * i)) = X := by funext i; exact zipL_0 X Y i
  have e2 : (fun i => zipL X Y (2 * i + 1)) = Y := by funext i; exact zipL_1 X Y i
  rw [e1, e2] at hP
  exact hP
theorem prs_cells {w : World} {g m : Nat} {X Y : Nat → Int} (h : Prs w (some ⟨g, 0, none⟩) m X Y) : ∀ j u, (prL (zipL X Y) m)[j]? = some u → w.cell? ((⟨g, 0, none⟩ : Addr).add j) = some u := by
  intro j u hj
  have hlt : j < m * 2 := by
    rcases Nat.lt_or_ge j (m * 2) with h' | h'
    · exact h'
    · rw [List.getElem?_eq_none (by rw [prL_len]; exact h')] at hj; simp at hj
  rw [Addr.add_mid, Nat.zero_add]
  obtain ⟨g', hg, h1, h2⟩ := h (j / 2) (by omega)
  injection hg with hg; injection hg with hg _ _
  subst hg
  have hp := prL_get (zipL X Y) m (j / 2) (by omega)
  rw [zipL_0, zipL_1] at hp
  rcases Nat.mod_two_eq_zero_or_one j with e | e
  · have e1 : j / 2 * 2 = j := by omega
    rw [e1] at hp h1
    rw [h1, ← hp.1, hj]
  · have e1 : j / 2 * 2 + 1 = j := by omega
    rw [e1] at hp h2
    rw [h2, ← hp.2, hj]
theorem prL_one (L : Nat → Int) (m : Nat) : ∀ u ∈ prL L m, u.oneCell' = true := by
  intro u hu
  simp only [prL, List.mem_flatMap] at hu
  obtain ⟨i, _, hu⟩ := hu
  simp only [List.mem_cons, List.not_mem_nil, or_false] at hu
  rcases hu with rfl | rfl <;> rfl
def catF (m : Nat) (X X2 : Nat → Int) : Nat → Int := fun i => if i < m then X i else X2 (i - m)
theorem prL_congr {L L' : Nat → Int} {m : Nat} (h : ∀ i, i < 2 * m → L i = L' i) : prL L m = prL L' m := by
  induction m with
  | zero => rfl
  | succ m ih => rw [prL_succ, prL_succ, ih (fun i hi => h i (by omega)), h (2 * m) (by omega), h (2 * m + 1) (by omega)]
theorem prL_cat (X Y X2 Y2 : Nat → Int) (m n : Nat) : prL (zipL X Y) m ++ prL (zipL X2 Y2) n = prL (zipL (catF m X X2) (catF m Y Y2)) (m + n) := by
  induction n with
  | zero =>
    rw [Nat.add_zero]
    have : prL (zipL X2 Y2) 0 = [] := rfl
    rw [this, List.append_nil]
    apply prL_congr
    intro i hi
    simp only [zipL, catF]
    have h : i / 2 < m := by omega
    simp only [h, if_true]
  | succ n ih =>
    rw [← Nat.add_assoc, prL_succ, prL_succ, ← List.append_assoc, ih, zipL_0, zipL_1, zipL_0, zipL_1]
    have h1 : ¬ m + n < m := by omega
    have h2 : m + n - m = n := by omega
    simp only [catF, h1, if_false, h2]
theorem outP_congr {N : Nat} {M : Nat → Nat → Bool} {X Y X' Y' : Nat → Int} : ∀ m, (∀ i, i < m → X i = X' i ∧ Y i = Y' i) → outP N M X Y m = outP N M X' Y' m := by
  intro m
  induction m with
  | zero => intro _; rfl
  | succ m ih =>
    intro h
    simp only [outP]
    rw [ih (fun i hi => h i (by omega)), (h m (by omega)).1, (h m (by omega)).2]
theorem outP_cat (N : Nat) (M : Nat → Nat → Bool) (X Y X2 Y2 : Nat → Int) (m n : Nat) : outP N M (catF m X X2) (catF m Y Y2) (m + n) = fun k who => outP N M X Y m k who || outP N M X2 Y2 n k who := by
  induction n with
  | zero =>
    rw [Nat.add_zero, outP_congr (X' := X) (Y' := Y) m (fun i hi => by simp [catF, hi])]
    funext k who
    simp [outP]
  | succ n ih =>
    have e : m + (n + 1) = (m + n) + 1 := by omega
    rw [e]
    funext k who
    simp only [outP]
    rw [ih]
    have h1 : ¬ m + n < m := by omega
    have h2 : m + n - m = n := by omega
    simp only [catF, h1, if_false, h2, Bool.or_assoc]

set_option maxRecDepth 100000 in
set_option maxHeartbeats 1000000 in
theorem refJoin_any (p N : Nat) (hN : N ≤ 6) (M : Nat → Nat → Bool) (ao : Option Addr) (m c : Nat) (X Y : Nat → Int) (hm : m ≤ 2097152) (bo : Option Addr) (n d : Nat) (X2 Y2 : Nat → Int) (hm2 : n ≤ 2097152) (ha : Beg ao m c) (hb : Beg bo n d) (w : World) (h : RO w p N M) (hP : Prs w ao m X Y) (hR : Prs w bo n X2 Y2) :
    Calls Try.prog 18 #[.pointer (some ⟨p, 0, none⟩), .slice ao m c, .slice bo n d] w fun e w' => ∃ v, e = .returned v ∧ w'.ownsRow w.heap.size 62 2 v (normTo N M (fun k who => outP N M X Y m k who || outP N M X2 Y2 n k who) N).length (polC (normTo N M (fun k who => outP N M X Y m k who || outP N M X2 Y2 n k who) N)) ∧ Below w.heap.size w w' := by
  obtain ⟨i0, hi0, hz0, hz1, hz2⟩ := info_parts Try.info62
  go_enter Try.func18, Try.ntmps18
  go_upto_region 2 with fail
  generalize hs : w.heap.size = B at *
  have Hs := hide hs
  have hBB : B ≤ w.heap.size := by omega
  clear hs
  go_cut [7] (fun s wc => wc.ownsRow B 62 2 s m (prL (zipL X Y) m) ∧ Below B w wc ∧ B ≤ wc.heap.size)
  case first =>
    rcases ha with ⟨rfl, rfl, rfl⟩ | ⟨g, rfl⟩
    · go_wp2_with (at_builtin; refine wpList_append_own_none (by rfl) _ _ _ (by rfl) B 62 i0 2 Try.underlying35 hi0 (.slice none 0 0) 0 [] (by rfl) (World.ownsRow_nil _ _ _ _) (by rfl) ?_)
      go_meet
      exact ⟨World.ownsRow_nil _ _ _ _, Below.refl _ _, hBB⟩
    · go_wp2_with (at_builtin; refine wpList_append_own _ (by rfl) _ _ _ (by rfl) B 62 i0 _ 2 16 Try.underlying35 hi0 hz0 hz1 hz2 rfl (by omega) (.slice none 0 0) 0 [] (by rfl) (World.ownsRow_nil _ _ _ _) ⟨g, 0, none⟩ m c (prL (zipL X Y) m) (by rfl) (prL_len _ _) (prs_cells hP) (prL_one _ _) (by unfold maxLen; omega) (by omega) hBB ?_; intro v1 w1 hown1 hgrow1 _)
      go_meet
      refine ⟨?_, (Below.refl _ _).grown hgrow1 hBB (fun q e => by simp [Value.ownBlock] at e), Nat.le_trans hBB hgrow1.size⟩
      rw [Nat.zero_add, List.nil_append] at hown1
      exact hown1
  case rest =>
    obtain ⟨hown, hB, hz⟩ := hcut
    have hBw : Below w.heap.size w wc := by rw [unhide Hs]; exact hB
    have hR1 := hR.later hBw
    have hRO1 := h.later hBw
    clear hBw
    go_upto_region 3 with fail
    go_cut [7] (fun s wd => wd.ownsRow B 62 2 s (m + n) (prL (zipL (catF m X X2) (catF m Y Y2)) (m + n)) ∧ Below B w wd ∧ B ≤ wd.heap.size)
    case first =>
      rcases hb with ⟨rfl, rfl, rfl⟩ | ⟨g, rfl⟩
      · go_wp2_with (at_builtin; refine wpList_append_own_none (by rfl) _ _ _ (by rfl) B 62 i0 2 Try.underlying35 hi0 u7 m _ (by rfl) hown (by rfl) ?_)
        go_meet
        refine ⟨?_, hB, hz⟩
        rw [← prL_cat]
        have : prL (zipL X2 Y2) 0 = [] := rfl
        rw [this, List.append_nil]
        exact hown
      · go_wp2_with (at_builtin; refine wpList_append_own _ (by rfl) _ _ _ (by rfl) B 62 i0 _ 2 16 Try.underlying35 hi0 hz0 hz1 hz2 rfl (by omega) u7 m _ (by rfl) hown ⟨g, 0, none⟩ n d (prL (zipL X2 Y2) n) (by rfl) (prL_len _ _) (prs_cells hR1) (prL_one _ _) (by unfold maxLen; omega) (by omega) hz ?_; intro v1 w1 hown1 hgrow1 _)
        go_meet
        refine ⟨?_, hB.grown hgrow1 hz (fun q e => (hown.lt q e).1), Nat.le_trans hz hgrow1.size⟩
        rw [← prL_cat]
        exact hown1
    case rest =>
      clear hown hB hz
      obtain ⟨hown, hB, hz⟩ := hcut
      have hBw : Below w.heap.size w wc := by rw [unhide Hs]; exact hB
      have hRO2 := h.later hBw
      clear hBw
      obtain ⟨vo, vc, rfl, _, hPv⟩ := own_pairs hown
      go_wp2_with fail
      refine (refNorm_any p N hN M vo (m + n) vc _ _ (by omega) _ hRO2 hPv).mono ?_
      rintro e w2 ⟨v, rfl, hv, hb2⟩
      rw [outP_cat] at hv
      go_wp2
      go_ret
      exact ⟨v, rfl, by rw [unhide Hs]; exact own_base hv hz, by rw [unhide Hs]; exact hB.trans (hb2.mono hz)⟩
end Go.Proofs.Ytkpkbhgplpmkoaa
