import Derived.Test.YtkpkbhgplpmkoaaLi
import Derived.Test.YtkpkbhgplpmkoaaLf
namespace Go.Proofs.Ytkpkbhgplpmkoaa
open Go.RowKit

def frTo (M : Nat → Nat → Bool) (a : Nat) : Nat → Bool
  | 0 => true
  | b + 1 => frTo M a b && !((M b a && M a b) && decide (b < a))
theorem frTo_iff (M : Nat → Nat → Bool) (a : Nat) : ∀ b, frTo M a b = true ↔ ∀ j, j < b → j < a → (M j a && M a j) = false := by
  intro b
  induction b with
  | zero => simp [frTo]
  | succ b ih =>
    simp only [frTo, Bool.and_eq_true, ih]
    constructor
    · rintro ⟨h1, h2⟩ j hj hja
      by_cases e : j = b
      · subst e
        have : decide (j < a) = true := by simp; exact hja
        rw [this] at h2
        cases h : (M j a && M a j) with
        | false => rfl
        | true => rw [h] at h2; simp at h2
      · exact h1 j (by omega) hja
    · intro h
      refine ⟨fun j hj hja => h j (by omega) hja, ?_⟩
      by_cases hb : b < a
      · rw [h b (by omega) hb]; simp
      · have : decide (b < a) = false := by simp; omega
        rw [this]; simp
theorem frTo_eq {M : Nat → Nat → Bool} {a N : Nat} (h : a < N) : frTo M a N = firstB M a := by
  cases hf : firstB M a with
  | true =>
    rw [frTo_iff]
    intro j hj hja
    unfold firstB at hf
    rw [List.all_eq_true] at hf
    have := hf j (List.mem_range.2 hja)
    cases hx : (M j a && M a j) with
    | false => rfl
    | true => rw [hx] at this; simp at this
  | false =>
    cases hg : frTo M a N with
    | false => rfl
    | true =>
      have := first_yes (fun j hj => (frTo_iff M a N).1 hg j (by omega) hj)
      rw [this] at hf; simp at hf
theorem rest_zero {N : Nat} {M O : Nat → Nat → Bool} {a : Nat} : restN N M O a 0 = 2 ^ N - 1 := by
  apply Nat.eq_of_testBit_eq
  intro k
  rw [restN, numOf_bit, allBits]; simp [faTo]
theorem rest_same {N : Nat} {M O : Nat → Nat → Bool} {a b : Nat} (h : (M b a && !M a b) = false) : restN N M O a (b + 1) = restN N M O a b := by
  unfold restN
  apply numOf_congr
  intro k _
  simp only [faTo, h]; simp
theorem rest_step {N : Nat} {M O : Nat → Nat → Bool} {a b : Nat} (h : (M b a && !M a b) = true) : restN N M O a (b + 1) = restN N M O a b &&& rdN N O b := by
  apply Nat.eq_of_testBit_eq
  intro k
  rw [Nat.testBit_and]
  unfold restN rdN
  rw [numOf_bit, numOf_bit, numOf_bit]
  simp only [faTo, h]
  cases decide (k < N) <;> cases faTo M O a k b <;> cases O b k <;> rfl
theorem rest_lt {N : Nat} (hN : N ≤ 6) {M O : Nat → Nat → Bool} {a b : Nat} : restN N M O a b < 64 :=
  Nat.lt_of_lt_of_le (numOf_lt _ _) (by have := Nat.pow_le_pow_right (n := 2) (by omega) hN; simpa using this)
theorem rdN_lt {N : Nat} (hN : N ≤ 6) {O : Nat → Nat → Bool} {a : Nat} : rdN N O a < 64 :=
  Nat.lt_of_lt_of_le (numOf_lt _ _) (by have := Nat.pow_le_pow_right (n := 2) (by omega) hN; simpa using this)
theorem and_i64 (a b : Nat) (ha : a < 64) (hb : b < 64) : bits BinOp.and IntKind.i64 (a : Int) (b : Int) = ((a &&& b : Nat) : Int) :=
  (bits_nat .i64 6 (by decide) (fun n h0 h1 => by rw [IntKind.wrap_i64]; omega) a b (by simpa using ha) (by simpa using hb)).1
theorem ev_i64 (N : Nat) (hN : N ≤ 6) : (2 : Int) ^ N - 1 = ((2 ^ N - 1 : Nat) : Int) := by
  match N, hN with
  | 0, _ => rfl
  | 1, _ => rfl
  | 2, _ => rfl
  | 3, _ => rfl
  | 4, _ => rfl
  | 5, _ => rfl
  | 6, _ => rfl
theorem pow_bd (N : Nat) (hN : N ≤ 6) : (1 : Int) ≤ 2 ^ N ∧ (2 : Int) ^ N ≤ 64 := by
  match N, hN with
  | 0, _ => decide
  | 1, _ => decide
  | 2, _ => decide
  | 3, _ => decide
  | 4, _ => decide
  | 5, _ => decide
  | 6, _ => decide
theorem ne_cast (a b : Nat) : ((a : Int) != (b : Int)) = (a != b) := by
  by_cases h : a = b
  · subst h; simp
  · have h1 : ((a : Int) != (b : Int)) = true := by rw [bne_iff_ne]; omega
    have h2 : (a != b) = true := by rw [bne_iff_ne]; exact h
    rw [h1, h2]
theorem Try.info62 : (Try.prog.info? 62).map (fun i => (i.zero, i.size, i.bytes)) = some (some (.agg #[.int .i64 0, .int .i64 0]), 2, 16) := by kernel_rfl

set_option maxRecDepth 100000 in
set_option maxHeartbeats 2000000 in
theorem refNorm_any (p N : Nat) (hN : N ≤ 6) (M : Nat → Nat → Bool) (ao : Option Addr) (m c : Nat) (X Y : Nat → Int) (hm : m ≤ 4194304) (w : World) (h : RO w p N M) (hP : Prs w ao m X Y) :
    Calls Try.prog 17 #[.pointer (some ⟨p, 0, none⟩), .slice ao m c] w fun e w' => ∃ v, e = .returned v ∧ w'.ownsRow w.heap.size 62 2 v (normTo N M (outP N M X Y m) N).length (polC (normTo N M (outP N M X Y m) N)) ∧ Below w.heap.size w w' := by
  obtain ⟨i0, hi0, hz0, hz1, hz2⟩ := info_parts Try.info62
  have HP := hide hP
  have Hh := hide h
  clear hP
  generalize hO : outP N M X Y m = O at *
  have HO := hide hO
  clear hO
  go_enter Try.func17, Try.ntmps17
  go_wp2
  generalize hs : w.heap.size = B at *
  have Hs := hide hs
  clear hs
  go_loopw [5, 6] (fun v t wr => ∃ (a : Nat), a ≤ N ∧ t = .int .i64 (a : Int) ∧ RO wr p N M ∧ wr.ownsRow B 62 2 v (normTo N M O a).length (polC (normTo N M O a)) ∧ Below B w wr ∧ B ≤ wr.heap.size) (fun _ t _ => N - (intOf t).toNat)
  case atStart => exact ⟨0, by omega, rfl, h, World.ownsRow_nil _ _ _ _, Below.refl _ _, by rw [unhide Hs]; omega⟩
  case round =>
    clear h
    obtain ⟨a, ha, rfl, hRO, hown, hB, hsz⟩ := hrel
    have c0 : wr.cell? ⟨p, 0, none⟩ = some (.int .i64 (N : Int)) := by obtain ⟨_, _, _, hh⟩ := hRO; exact hh.n0
    by_cases hlt : a < N
    · have b1 : (0 : Int) ≤ (a : Int) := by omega
      have b2 : (a : Int) < (N : Int) := by omega
      have b3 : (N : Int) < 64 := by omega
      obtain ⟨p1, p2⟩ := pow_bd N hN
      go_wp2
      clear c0
      go_loopw [7, 8, 9] (fun f r t wx => ∃ (b : Nat), b ≤ N ∧ t = .int .i64 (b : Int) ∧ f = .bool (frTo M a b) ∧ r = .int .i64 (restN N M O a b : Int) ∧ RO wx p N M ∧ wx.ownsRow B 62 2 u5 (normTo N M O a).length (polC (normTo N M O a)) ∧ Below B w wx ∧ B ≤ wx.heap.size) (fun _ _ t _ => N - (intOf t).toNat)
      case atStart => exact ⟨0, by omega, rfl, rfl, by rw [rest_zero, ev_i64 N hN], hRO, hown, hB, hsz⟩
      case round =>
        clear hRO hown hB hsz
        obtain ⟨b, hb, rfl, rfl, rfl, hRO, hown, hB, hsz⟩ := hrel
        have hRO' := hRO
        obtain ⟨rv, rcap, R, hRG⟩ := hRO'
        have c0 := hRG.n0
        have hNa := hlt
        by_cases hlb : b < N
        · have b4 : (0 : Int) ≤ (b : Int) := by omega
          have b5 : (b : Int) < (N : Int) := by omega
          obtain ⟨rb, rfl, hob, crow, hne⟩ := hRG.rows a hlt
          obtain ⟨rb', he, hob', crow2, hne'⟩ := hRG.rows b hlb
          injection he with he; injection he with he _ _
          subst he
          clear hne hne' hob'
          have cob := hRG.ov
          have q1 := (hRG.row b hlb a hlt).1
          have q2 := (hRG.row a hlt b hlb).1
          have HhRG := hide hRG
          clear hRG
          have hl1 := rest_lt hN (M := M) (O := O) (a := a) (b := b)
          cases hup : M b a with
          | false =>
            rw [hup] at q1
            have Hup := hide hup
            clear hup
            have hfr : Hid (frTo M a (b + 1) = frTo M a b) := show frTo M a (b + 1) = frTo M a b by simp only [frTo, unhide Hup]; simp
            have hre : Hid (restN N M O a (b + 1) = restN N M O a b) := rest_same (by rw [unhide Hup]; rfl)
            generalize frTo M a b = fb at *
            generalize restN N M O a b = rs at *
            generalize M a b = mab at *
            go_wp2
            go_roundw
            case rel => exact ⟨b + 1, by omega, by go_num, by rw [unhide hfr], by rw [unhide hre], hRO, hown, hB, hsz⟩
            case measure => simp [intOf]; omega
          | true =>
            rw [hup] at q1
            have Hup := hide hup
            clear hup
            cases hdn : M a b with
            | true =>
              rw [hdn] at q2
              have Hdn := hide hdn
              clear hdn
              have hre : Hid (restN N M O a (b + 1) = restN N M O a b) := rest_same (by rw [unhide Hup, unhide Hdn]; rfl)
              by_cases hba : b < a
              · have b6 : (b : Int) < (a : Int) := by omega
                have hfr : Hid (frTo M a (b + 1) = false) := show frTo M a (b + 1) = false by simp only [frTo, unhide Hup, unhide Hdn]; have : decide (b < a) = true := (by simp; exact hba); rw [this]; simp
                generalize frTo M a b = fb at *
                generalize restN N M O a b = rs at *
                go_wp2
                go_roundw
                case rel => exact ⟨b + 1, by omega, by go_num, by rw [unhide hfr], by rw [unhide hre], hRO, hown, hB, hsz⟩
                case measure => simp [intOf]; omega
              · have b6 : (a : Int) ≤ (b : Int) := by omega
                have hfr : Hid (frTo M a (b + 1) = frTo M a b) := show frTo M a (b + 1) = frTo M a b by simp only [frTo]; have : decide (b < a) = false := (by simp; omega); rw [this]; simp
                generalize frTo M a b = fb at *
                generalize restN N M O a b = rs at *
                go_wp2
                go_roundw
                case rel => exact ⟨b + 1, by omega, by go_num, by rw [unhide hfr], by rw [unhide hre], hRO, hown, hB, hsz⟩
                case measure => simp [intOf]; omega
            | false =>
              rw [hdn] at q2
              have Hdn := hide hdn
              clear hdn
              have hfr : Hid (frTo M a (b + 1) = frTo M a b) := show frTo M a (b + 1) = frTo M a b by simp only [frTo, unhide Hdn]; simp
              have hre : Hid (restN N M O a (b + 1) = restN N M O a b &&& rdN N O b) := rest_step (by rw [unhide Hup, unhide Hdn]; rfl)
              have Hand := hide (and_i64 (restN N M O a b) (rdN N O b) hl1 (rdN_lt hN))
              have hPr : Prs wr ao m X Y := by
                refine (unhide HP).later ?_
                rw [unhide Hs]; exact hB
              generalize frTo M a b = fb at *
              generalize restN N M O a b = rs at *
              go_wp2_with fail
              refine (under_any p N hN M ao m c X Y hm b hlb _ hRO hPr).mono ?_
              rintro e w1 ⟨rfl, hb1⟩
              rw [unhide HO]
              have g1 := hRO.later hb1
              have g2 := own_later hown hb1
              have g3 := hB.trans (hb1.mono hsz)
              have g4 := Nat.le_trans hsz hb1.size
              clear hRO hown hB hsz hb1 hPr q1 q2 cob crow crow2 c0
              go_wp2
              go_roundw
              case rel => exact ⟨b + 1, by omega, by go_num, by rw [unhide hfr], by rw [unhide hre, unhide Hand], g1, g2, g3, g4⟩
              case measure => simp [intOf]; omega
        · have hbN : b = N := by omega
          subst hbN
          have hPr : Prs wr ao m X Y := by
            refine (unhide HP).later ?_
            rw [unhide Hs]; exact hB
          rw [frTo_eq hlt]
          have hnorm : Hid (normTo b M O (a + 1) = normTo b M O a ++ if (firstB M a && (rdN b O a != restN b M O a b)) = true then [(a, rdN b O a)] else []) := rfl
          have hcast := ne_cast (rdN b O a) (restN b M O a b)
          have hl1 := rest_lt hN (M := M) (O := O) (a := a) (b := b)
          have hl2 := rdN_lt hN (O := O) (a := a)
          have hlen := normTo_len b M O a
          clear hRG
          generalize firstB M a = fa at *
          generalize restN b M O a b = rs at *
          go_wp2_with fail
          refine (under_any p b hN M ao m c X Y hm a hlt _ hRO hPr).mono ?_
          rintro e w1 ⟨rfl, hb1⟩
          rw [unhide HO]
          have g1 := hRO.later hb1
          have g2 := own_later hown hb1
          have g3 := hB.trans (hb1.mono hsz)
          have g4 := Nat.le_trans hsz hb1.size
          clear hRO hown hB hsz hb1 hPr c0
          generalize rdN b O a = rd at *
          cases fa with
          | false =>
            go_wp2
            go_roundw
            case rel =>
              refine ⟨a + 1, by omega, by go_num, g1, ?_, g3, g4⟩
              rw [unhide hnorm]
              simp only [Bool.false_and, Bool.false_eq_true, if_false, List.append_nil]
              exact g2
            case measure => simp [intOf]; omega
          | true =>
            cases hd : (rd != rs) with
            | false =>
              rw [hd] at hcast
              have Hd := hide hd
              clear hd
              go_wp2
              go_roundw
              case rel =>
                refine ⟨a + 1, by omega, by go_num, g1, ?_, g3, g4⟩
                rw [unhide hnorm, unhide Hd]
                simp only [Bool.and_false, Bool.false_eq_true, if_false, List.append_nil]
                exact g2
              case measure => simp [intOf]; omega
            | true =>
              rw [hd] at hcast
              have Hd := hide hd
              clear hd
              go_wp2_with (at_builtin; refine wpList_append_lies _ (by rfl) _ _ _ (by rfl) B 62 i0 _ 2 16 Try.underlying35 hi0 hz0 hz1 hz2 rfl (by omega) u5 _ _ (by rfl) (g2.alloc _) ⟨w1.heap.size, 0, none⟩ 1 1 [.int .i64 (a : Int), .int .i64 (rd : Int)] (by rfl) (by rfl) (World.news_of_block (cs := #[.int .i64 (a : Int), .int .i64 (rd : Int)]) (t := 62) (fr := (0, 0)) (heap_alloc_new w1 _)) (by simp [Value.oneCell']) (by omega) (by unfold maxLen; omega) (by omega) (by simp; omega) (w1.heap.size + 1) (by simp) ?_; intro gg cap w2 hown2 hgrow hat hlt2)
              go_roundw
              case rel =>
                have hB2 : Below B w w2 := (g3.alloc g4 _).grown hgrow (by simp; omega) (fun q e => (g2.lt q e).1)
                refine ⟨a + 1, by omega, by go_num, (unhide Hh).later (by rw [unhide Hs]; exact hB2), ?_, hB2, by have := hgrow.size; simp at this; omega⟩
                rw [unhide hnorm, unhide Hd]
                simp only [Bool.and_true, if_true]
                rw [polC_snoc, List.length_append]
                exact hown2
              case measure => simp [intOf]; omega
    · have haN : a = N := by omega
      subst haN
      go_wp2
      go_ret
      exact ⟨_, rfl, by rw [unhide Hs]; exact hown, by rw [unhide Hs]; exact hB⟩
end Go.Proofs.Ytkpkbhgplpmkoaa
