import Derived.Test.YtkpkbhgplpmkoaaLh
import Derived.Test.YtkpkbhgplpmkoaaLe
namespace Go.Proofs.Ytkpkbhgplpmkoaa
open Go.RowKit

theorem pol_no {N : Nat} {M : Nat → Nat → Bool} {x y : Int} {a who : Nat} (h : rvB N M x (a : Int) = false) : polB N M x y a who = false := by
  unfold rvB at h
  unfold polB
  by_cases ha : a < N
  · have : inB N (a : Int) = true := by simp [inB]; omega
    rw [this] at h
    simp only [Bool.true_and, Int.toNat_natCast] at h
    cases h1 : inB N x with
    | false => simp
    | true =>
      rw [h1] at h
      simp only [Bool.true_and] at h
      rw [h]; simp
  · have : decide (a < N ∧ who < N) = false := by simp; omega
    rw [this]; simp
theorem pol_yes {N : Nat} {M : Nat → Nat → Bool} {x y : Int} {a who : Nat} (ha : a < N) (hw : who < N) (h : rvB N M x (a : Int) = true) : inB N x = true ∧ polB N M x y a who = !letsTo M x.toNat y who N := by
  unfold rvB at h
  simp only [Bool.and_eq_true, Int.toNat_natCast] at h
  refine ⟨h.1, ?_⟩
  unfold polB
  have : decide (a < N ∧ who < N) = true := by simp; omega
  rw [this, h.1, h.2.2]; simp

theorem okT {o L : Bool} (h : true = !o) : L = !(o || !L) := by cases o <;> cases L <;> simp_all
theorem okF {o p : Bool} (h : false = !o) : false = !(o || p) := by cases o <;> simp_all
theorem sum_cast (s k : Nat) : (s : Int) + 2 ^ k = ((s + 2 ^ k : Nat) : Int) := by rw [Int.natCast_add, Int.natCast_pow]; rfl
theorem sum_pow {s who : Nat} (hs : s < 2 ^ who) (hw : who < 6) : (s : Int) < 64 ∧ (s : Int) + 2 ^ who < 128 ∧ (2 : Int) ^ who ≤ 32 ∧ (0 : Int) ≤ 2 ^ who := by
  match who, hw with
  | 0, _ => simp at hs ⊢; omega
  | 1, _ => simp at hs ⊢; omega
  | 2, _ => simp at hs ⊢; omega
  | 3, _ => simp at hs ⊢; omega
  | 4, _ => simp at hs ⊢; omega
  | 5, _ => simp at hs ⊢; omega

set_option maxHeartbeats 1000000 in
theorem under_any (p N : Nat) (hN : N ≤ 6) (M : Nat → Nat → Bool) (ao : Option Addr) (m c : Nat) (X Y : Nat → Int) (hm : m ≤ 4194304) (a : Nat) (ha : a < N) (w : World) (h : RO w p N M) (hP : Prs w ao m X Y) :
    Calls Try.prog 34 #[.pointer (some ⟨p, 0, none⟩), .slice ao m c, .int .i64 (a : Int)] w fun e w' => e = .returned (.int .i64 (rdN N (outP N M X Y m) a : Int)) ∧ Below w.heap.size w w' := by
  have HP := hide hP
  clear hP
  go_enter Try.func34, Try.ntmps34
  go_wp2
  generalize hs : w.heap.size = B at *
  have Hs := hide hs
  clear hs
  go_loopw [7, 8] (fun s t wr => ∃ (who sn : Nat), who ≤ N ∧ t = .int .i64 (who : Int) ∧ s = .int .i64 (sn : Int) ∧ sn < 2 ^ who ∧ Hid (sn = numOf (fun x => !outP N M X Y m a x) who) ∧ RO wr p N M ∧ Below B w wr) (fun _ t _ => N - (intOf t).toNat)
  case atStart => exact ⟨0, 0, by omega, rfl, rfl, by simp, rfl, h, Below.refl _ _⟩
  case round =>
    clear h
    obtain ⟨who, sn, hw, rfl, rfl, hsn, Hq, hRO, hB⟩ := hrel
    have c0 : wr.cell? ⟨p, 0, none⟩ = some (.int .i64 (N : Int)) := by obtain ⟨_, _, _, hh⟩ := hRO; exact hh.n0
    by_cases hlt : who < N
    · have b1 : (0 : Int) ≤ (who : Int) := by omega
      have b2 : (who : Int) < (N : Int) := by omega
      have b2' : (who : Int) < 64 := by omega
      go_wp2
      go_loopw [9, 10] (fun s t wx => ∃ (i : Nat) (ok : Bool), i ≤ m ∧ t = .int .i64 (i : Int) ∧ s = .bool ok ∧ Hid (ok = !outP N M X Y i a who) ∧ RO wx p N M ∧ Below B w wx) (fun _ t _ => m - (intOf t).toNat)
      case atStart => exact ⟨0, true, by omega, rfl, rfl, rfl, hRO, hB⟩
      case round =>
        clear hRO hB c0
        obtain ⟨i, ok, hi, rfl, rfl, Hok, hRO, hB⟩ := hrel
        by_cases hli : i < m
        · obtain ⟨g, rfl, cx0, cy0⟩ := unhide HP i hli
          have hg : g < B := by have := World.block_lt_of_cell? w _ cx0; rw [unhide Hs] at this; exact this
          have cx : wr.cell? ⟨g, i * 2, none⟩ = some (.int .i64 (X i)) := (hB.cell (p := ⟨g, i * 2, none⟩) hg).trans cx0
          have cy : wr.cell? ⟨g, i * 2 + 1, none⟩ = some (.int .i64 (Y i)) := (hB.cell (p := ⟨g, i * 2 + 1, none⟩) hg).trans cy0
          clear cx0 cy0
          have b3 : (0 : Int) ≤ (i : Int) := by omega
          have b4 : (i : Int) < (m : Int) := by omega
          have hNx : Hid (outP N M X Y (i + 1) a who = (outP N M X Y i a who || polB N M (X i) (Y i) a who)) := rfl
          generalize X i = x at *
          generalize Y i = y at *
          cases hr : rvB N M x (a : Int) with
          | false =>
            have Hr := hide hr
            clear hr
            go_wp2_with fail
            refine (refOver_any p N M x a _ hRO).mono ?_
            rintro e w1 ⟨rfl, rfl⟩
            rw [unhide Hr]
            go_wp2
            go_roundw
            case rel => exact ⟨i + 1, ok, by omega, by go_num, rfl, show ok = !outP N M X Y (i + 1) a who by rw [unhide hNx, pol_no (unhide Hr), unhide Hok]; simp, hRO, hB⟩
            case measure => simp [intOf]; omega
          | true =>
            obtain ⟨hin, hpol⟩ := pol_yes (y := y) ha hlt hr
            obtain ⟨o, rfl⟩ : ∃ o : Nat, x = o := Int.eq_ofNat_of_zero_le (by simp [inB] at hin; exact hin.1)
            have ho : o < N := by simp [inB] at hin; omega
            have Hr := hide hr
            have Hpol := hide hpol
            clear hr hpol hin
            go_wp2_with fail
            refine (refOver_any p N M (o : Int) a _ hRO).mono ?_
            rintro e w1 ⟨rfl, rfl⟩
            rw [unhide Hr]
            go_wp2_with fail
            refine (lets_any p N M o ho hN y who hlt _ hRO).mono ?_
            rintro e w2 ⟨rfl, hb2⟩
            have hRO2 := hRO.later hb2
            have hB2 := hB.trans (hb2.mono (by have := hB.size; rw [unhide Hs] at this; omega))
            clear hRO hB hb2 cx cy
            cases ok with
            | true =>
              go_wp2
              go_roundw
              case rel => exact ⟨i + 1, _, by omega, by go_num, rfl, show _ = !outP N M X Y (i + 1) a who by rw [unhide hNx, unhide Hpol]; exact okT (unhide Hok), hRO2, hB2⟩
              case measure => simp [intOf]; omega
            | false =>
              go_wp2
              go_roundw
              case rel => exact ⟨i + 1, false, by omega, by go_num, rfl, show false = !outP N M X Y (i + 1) a who by rw [unhide hNx]; exact okF (unhide Hok), hRO2, hB2⟩
              case measure => simp [intOf]; omega
        · have him : i = m := by omega
          subst him
          have hnum : Hid (numOf (fun x => !outP N M X Y i a x) (who + 1) = sn + if ok = true then 2 ^ who else 0) := by
            show numOf _ (who + 1) = _
            simp only [numOf]
            rw [← unhide Hq, unhide Hok]
          have hbd := sum_pow hsn (by omega)
          have hpw : 2 ^ (who + 1) = 2 ^ who + 2 ^ who := by rw [Nat.pow_succ]; omega
          have Hpw := hide hpw
          clear hpw
          cases ok with
          | true =>
            obtain ⟨e1, e2, e3, e4⟩ := hbd
            go_wp2
            go_roundw
            case rel =>
              refine ⟨who + 1, sn + 2 ^ who, by omega, by go_num, congrArg (Value.int .i64) (sum_cast sn who), by have := unhide Hpw; omega, show _ = _ by rw [unhide hnum]; rfl, hRO, hB⟩
            case measure => simp [intOf]; omega
          | false =>
            go_wp2
            go_roundw
            case rel => exact ⟨who + 1, sn, by omega, by go_num, rfl, by have := unhide Hpw; omega, show _ = _ by rw [unhide hnum]; rfl, hRO, hB⟩
            case measure => simp [intOf]; omega
    · have hwN : who = N := by omega
      subst hwN
      go_wp2
      go_ret
      exact ⟨by rw [unhide Hq]; rfl, by rw [unhide Hs]; exact hB⟩
end Go.Proofs.Ytkpkbhgplpmkoaa
