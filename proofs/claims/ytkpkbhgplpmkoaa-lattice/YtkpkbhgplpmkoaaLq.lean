import Derived.Test.YtkpkbhgplpmkoaaLp
namespace Go.Proofs.Ytkpkbhgplpmkoaa
open Go.RowKit

theorem dec_iff {p : Prop} [Decidable p] {b : Bool} (h : p ↔ b = true) : decide p = b := by
  cases b with
  | true => simp [h]
  | false => simp [h]
theorem od_of {N : Nat} (hN : N ≤ 6) (X Y : Nat → Int) (m : Nat) : Od N (outW (prsXY N X Y m) 6) := by
  have hw := prsXY_wi N X Y m
  have hc := outW_clo hN hw
  refine ⟨outW_wi hN hw 6, fun a ha => hc.has a a ?_, hc.tr⟩
  have : ∀ k, prsXY N X Y k a a = true := by
    intro k
    induction k with
    | zero => simp [prsXY, m0, ha]
    | succ k ih => simp [prsXY, addP, ih]
  exact this m

set_option maxRecDepth 100000 in
set_option maxHeartbeats 8000000 in
theorem lattice_walk (n : Int) (ao : Option Addr) (m c : Nat) (L : Nat → Int) (a1 : Option Addr) (m1 c1 : Nat) (L1 : Nat → Int) (a2 : Option Addr) (m2 c2 : Nat) (L2 : Nat → Int) (a3 : Option Addr) (m3 c3 : Nat) (L3 : Nat → Int) (w : World)
    (hL : Ints w ao m L) (hL1 : Ints w a1 m1 L1) (hL2 : Ints w a2 m2 L2) (hL3 : Ints w a3 m3 L3) :
    Calls Try.prog 5 #[.int .i64 n, .slice ao m c, .slice a1 m1 c1, .slice a2 m2 c2, .slice a3 m3 c3] w fun e w' => e = .returned (.bool true) ∧ Below w.heap.size w w' := by
  cases hd : (decide ((m : Int) ≤ 1048576) && decide ((m1 : Int) ≤ 1048576)) with
  | false =>
    have Hd := hide hd
    clear hd
    go_enter Try.func5, Try.ntmps5
    go_wp2_with fail
    refine (smallK_any _ rfl ao m c a1 m1 c1 _).mono ?_
    rintro e w1 ⟨rfl, rfl⟩
    rw [unhide Hd]
    go_wp2
    go_ret
    exact ⟨rfl, Below.refl _ _⟩
  | true =>
    have hm : m ≤ 1048576 := by simp at hd; omega
    have hm1 : m1 ≤ 1048576 := by simp at hd; omega
    have Hd := hide hd
    clear hd
    by_cases hm2 : m2 ≤ 1048576
    · have t1 : decide ((1048576 : Int) < (m2 : Int)) = false := by simp; omega
      by_cases hm3 : m3 ≤ 1048576
      · have t2 : decide ((1048576 : Int) < (m3 : Int)) = false := by simp; omega
        obtain ⟨N, hN, hn⟩ := clampB n
        have Hn := hide hn
        clear hn
        go_enter Try.func5, Try.ntmps5
        go_wp2_with fail
        refine (smallK_any _ rfl ao m c a1 m1 c1 _).mono ?_
        rintro e w1 ⟨rfl, rfl⟩
        rw [unhide Hd]
        go_wp2_with fail
        refine (newOrderP_any n N hN (unhide Hn) ao m c L hm _ hL).mono ?_
        rintro e w2 ⟨A, p, b, rfl, hp, hb, hcp, hOr, hC, hT⟩
        have hO : PO w2 p N A := ⟨b, hcp, hOr⟩
        have hOd := od_of hN (fun i => L (2 * i)) (fun i => L (2 * i + 1)) (m / 2)
        generalize outW (prsXY N (fun i => L (2 * i)) (fun i => L (2 * i + 1)) (m / 2)) 6 = M at *
        have g1 := hL1.later hT
        have g2 := hL2.later hT
        have g3 := hL3.later hT
        clear hcp hOr hp hb hL hL1 hL2 hL3
        go_wp2_with fail
        refine (polsK_any a1 m1 c1 L1 hm1 _ g1).mono ?_
        rintro e w3 ⟨va, rfl, hva, hb3⟩
        replace hO := hO.later hb3
        replace g2 := g2.later hb3
        replace g3 := g3.later hb3
        replace hT := hT.trans (hb3.mono hT.size)
        obtain ⟨oa, ca, rfl, _, pa⟩ := own_two hva
        clear hb3 hva g1
        go_wp2_with fail
        refine (polsK_any a2 m2 c2 L2 hm2 _ g2).mono ?_
        rintro e w4 ⟨vb, rfl, hvb, hb4⟩
        replace hO := hO.later hb4
        replace g3 := g3.later hb4
        replace pa := pa.later hb4
        replace hT := hT.trans (hb4.mono hT.size)
        obtain ⟨ob, cb, rfl, _, pb⟩ := own_two hvb
        clear hb4 hvb g2
        go_wp2_with fail
        refine (polsK_any a3 m3 c3 L3 hm3 _ g3).mono ?_
        rintro e w5 ⟨vc, rfl, hvc, hb5⟩
        replace hO := hO.later hb5
        replace pa := pa.later hb5
        replace pb := pb.later hb5
        replace hT := hT.trans (hb5.mono hT.size)
        obtain ⟨oc, cc, rfl, _, pc⟩ := own_two hvc
        clear hb5 hvc g3
        have hka : m1 / 2 ≤ 1048576 := by omega
        have hkb : m2 / 2 ≤ 1048576 := by omega
        have hkc : m3 / 2 ≤ 1048576 := by omega
        generalize (fun i => L1 (2 * i)) = Xa at *
        generalize (fun i => L1 (2 * i + 1)) = Ya at *
        generalize (fun i => L2 (2 * i)) = Xb at *
        generalize (fun i => L2 (2 * i + 1)) = Yb at *
        generalize (fun i => L3 (2 * i)) = Xc at *
        generalize (fun i => L3 (2 * i + 1)) = Yc at *
        generalize m1 / 2 = ka at *
        generalize m2 / 2 = kb at *
        generalize m3 / 2 = kc at *
        go_wp2_with fail
        refine (normP_any p N hN A M hC oa ka ca Xa Ya (by omega) _ hO pa).mono ?_
        rintro e u0 ⟨vx, rfl, hvx, hb0⟩
        replace hO := hO.later hb0
        replace pa := pa.later hb0
        replace pb := pb.later hb0
        replace pc := pc.later hb0
        replace hT := hT.trans (hb0.mono hT.size)
        clear hb0
        obtain ⟨ox, cx, rfl, _, px⟩ := own_pol hvx
        clear hvx
        have hlx6 := normTo_len N M (outP N M Xa Ya ka) N
        have hxo := norm_out hN hOd (good_out hOd Xa Ya ka)
        have hnab := norm_eq hN hOd (good_out hOd Xa Ya ka) (good_out hOd Xb Yb kb)
        generalize hlx : normTo N M (outP N M Xa Ya ka) N = lx at *
        have Hlx := hide hlx
        have Hxo := hide hxo
        have Hnab := hide hnab
        clear hlx hxo hnab
        go_wp2_with fail
        refine (normP_any p N hN A M hC ob kb cb Xb Yb (by omega) _ hO pb).mono ?_
        rintro e u1 ⟨vy, rfl, hvy, hb1⟩
        replace hO := hO.later hb1
        replace pa := pa.later hb1
        replace pb := pb.later hb1
        replace pc := pc.later hb1
        replace px := px.later hb1
        replace hT := hT.trans (hb1.mono hT.size)
        clear hb1
        obtain ⟨oy, cy, rfl, _, py⟩ := own_pol hvy
        clear hvy
        have hly6 := normTo_len N M (outP N M Xb Yb kb) N
        have hnab := unhide Hnab
        clear Hnab
        generalize hly : normTo N M (outP N M Xb Yb kb) N = ly at *
        have Hly := hide hly
        have Hnab := hide hnab
        clear hly hnab
        go_wp2_with fail
        refine (normP_any p N hN A M hC ox lx.length cx (XX lx) (YY lx) (by omega) _ hO px).mono ?_
        rintro e u2 ⟨vz, rfl, hvz, hb2⟩
        replace hO := hO.later hb2
        replace pa := pa.later hb2
        replace pb := pb.later hb2
        replace pc := pc.later hb2
        replace px := px.later hb2
        replace py := py.later hb2
        replace hT := hT.trans (hb2.mono hT.size)
        clear hb2
        rw [unhide Hxo, unhide Hlx] at hvz
        obtain ⟨oz, cz, rfl, _, pz⟩ := own_pol hvz
        clear hvz
        go_wp2_with fail
        refine (flowsP_any p N hN A M hC oa ka ca Xa Ya (by omega) ob kb cb Xb Yb (by omega) _ hO pa pb).mono ?_
        rintro e u3 ⟨rfl, hb3⟩
        replace hO := hO.later hb3
        replace pa := pa.later hb3
        replace pb := pb.later hb3
        replace pc := pc.later hb3
        replace px := px.later hb3
        replace py := py.later hb3
        replace pz := pz.later hb3
        replace hT := hT.trans (hb3.mono hT.size)
        clear hb3
        go_wp2_with fail
        refine (flowsP_any p N hN A M hC ob kb cb Xb Yb (by omega) oa ka ca Xa Ya (by omega) _ hO pb pa).mono ?_
        rintro e u4 ⟨rfl, hb4⟩
        replace hO := hO.later hb4
        replace pa := pa.later hb4
        replace pb := pb.later hb4
        replace pc := pc.later hb4
        replace px := px.later hb4
        replace py := py.later hb4
        replace pz := pz.later hb4
        replace hT := hT.trans (hb4.mono hT.size)
        clear hb4
        go_wp2_with fail
        refine (flowsP_any p N hN A M hC ob kb cb Xb Yb (by omega) oc kc cc Xc Yc (by omega) _ hO pb pc).mono ?_
        rintro e u5 ⟨rfl, hb5⟩
        replace hO := hO.later hb5
        replace pa := pa.later hb5
        replace pb := pb.later hb5
        replace pc := pc.later hb5
        replace px := px.later hb5
        replace py := py.later hb5
        replace pz := pz.later hb5
        replace hT := hT.trans (hb5.mono hT.size)
        clear hb5
        go_wp2_with fail
        refine (flowsP_any p N hN A M hC oa ka ca Xa Ya (by omega) oc kc cc Xc Yc (by omega) _ hO pa pc).mono ?_
        rintro e u6 ⟨rfl, hb6⟩
        replace hO := hO.later hb6
        replace pa := pa.later hb6
        replace pb := pb.later hb6
        replace pc := pc.later hb6
        replace px := px.later hb6
        replace py := py.later hb6
        replace pz := pz.later hb6
        replace hT := hT.trans (hb6.mono hT.size)
        clear hb6
        go_wp2_with fail
        refine (flowsP_any p N hN A M hC oa ka ca Xa Ya (by omega) oa ka ca Xa Ya (by omega) _ hO pa pa).mono ?_
        rintro e u7 ⟨rfl, hb7⟩
        rw [flB_refl]
        replace hO := hO.later hb7
        replace pa := pa.later hb7
        replace pb := pb.later hb7
        replace pc := pc.later hb7
        replace px := px.later hb7
        replace py := py.later hb7
        replace pz := pz.later hb7
        replace hT := hT.trans (hb7.mono hT.size)
        clear hb7
        go_wp2_with fail
        refine (flowsP_any p N hN A M hC oa ka ca Xa Ya (by omega) ox lx.length cx (XX lx) (YY lx) (by omega) _ hO pa px).mono ?_
        rintro e u8 ⟨rfl, hb8⟩
        rw [unhide Hxo, flB_refl]
        replace hO := hO.later hb8
        replace pa := pa.later hb8
        replace pb := pb.later hb8
        replace pc := pc.later hb8
        replace px := px.later hb8
        replace py := py.later hb8
        replace pz := pz.later hb8
        replace hT := hT.trans (hb8.mono hT.size)
        clear hb8
        go_wp2_with fail
        refine (flowsP_any p N hN A M hC ox lx.length cx (XX lx) (YY lx) (by omega) oa ka ca Xa Ya (by omega) _ hO px pa).mono ?_
        rintro e u9 ⟨rfl, hb9⟩
        rw [unhide Hxo, flB_refl]
        replace hO := hO.later hb9
        replace pa := pa.later hb9
        replace pb := pb.later hb9
        replace pc := pc.later hb9
        replace px := px.later hb9
        replace py := py.later hb9
        replace pz := pz.later hb9
        replace hT := hT.trans (hb9.mono hT.size)
        clear hb9
        go_wp2_with fail
        refine (sameK_any lx lx ox cx oz cz (by omega) (by omega) _ px pz true (by simp)).mono ?_
        rintro e u10 ⟨rfl, hb10⟩
        replace hO := hO.later hb10
        replace pa := pa.later hb10
        replace pb := pb.later hb10
        replace pc := pc.later hb10
        replace px := px.later hb10
        replace py := py.later hb10
        replace pz := pz.later hb10
        replace hT := hT.trans (hb10.mono hT.size)
        clear hb10
        go_wp2_with fail
        refine (sameK_any lx ly ox cx oy cy (by omega) (by omega) _ px py (flB (outP N M Xa Ya ka) (outP N M Xb Yb kb) && flB (outP N M Xb Yb kb) (outP N M Xa Ya ka)) (dec_iff (unhide Hnab))).mono ?_
        rintro e u11 ⟨rfl, hb11⟩
        replace hO := hO.later hb11
        replace pa := pa.later hb11
        replace pb := pb.later hb11
        replace pc := pc.later hb11
        replace px := px.later hb11
        replace py := py.later hb11
        replace pz := pz.later hb11
        replace hT := hT.trans (hb11.mono hT.size)
        clear hb11
        have htr := flB_trans hN (good_out hOd Xa Ya ka).wi (good_out hOd Xb Yb kb).wi (Q := outP N M Xc Yc kc)
        have Htr := hide htr
        clear htr
        have hle := fun x => @rdB_le N hN _ (outP N M Xb Yb kb) (good_out hOd Xa Ya ka).wi x
        have Hle := hide hle
        clear hle
        clear px py pz Hxo Hlx Hly Hnab
        go_upto_region 20 with fail
        go_cut [138] (fun s wc => s = .bool false ∧ u11 = wc)
        case first =>
          generalize flB (outP N M Xa Ya ka) (outP N M Xb Yb kb) = vab at *
          generalize flB (outP N M Xb Yb kb) (outP N M Xa Ya ka) = vba at *
          generalize flB (outP N M Xb Yb kb) (outP N M Xc Yc kc) = vbc at *
          generalize flB (outP N M Xa Ya ka) (outP N M Xc Yc kc) = vac at *
          have htr := unhide Htr
          clear Htr Hle hO pa pb pc hT
          cases vab with
          | false => (clear htr; go_wp2; go_meet; exact ⟨rfl, rfl⟩)
          | true =>
            cases vbc with
            | false => (clear htr; go_wp2; go_meet; exact ⟨rfl, rfl⟩)
            | true =>
              have hv : vac = true := htr rfl rfl
              subst hv
              clear htr
              go_wp2
              go_meet
              exact ⟨rfl, rfl⟩
        case rest =>
          obtain ⟨rfl, rfl⟩ := hcut
          generalize flB (outP N M Xa Ya ka) (outP N M Xb Yb kb) = vab at *
          generalize flB (outP N M Xb Yb kb) (outP N M Xa Ya ka) = vba at *
          generalize hvbc : flB (outP N M Xb Yb kb) (outP N M Xc Yc kc) = vbc at *
          generalize hvac : flB (outP N M Xa Ya ka) (outP N M Xc Yc kc) = vac at *
          have Hvbc := hide hvbc
          have Hvac := hide hvac
          clear hvbc hvac Htr
          go_wp2_with fail
          refine (joinP_any p N hN A M hC oa ka ca Xa Ya (by omega) ob kb cb Xb Yb (by omega) _ hO pa pb).mono ?_
          rintro e u12 ⟨vj, rfl, hvj, hb12⟩
          replace hO := hO.later hb12
          replace pa := pa.later hb12
          replace pb := pb.later hb12
          replace pc := pc.later hb12
          replace hT := hT.trans (hb12.mono hT.size)
          clear hb12
          obtain ⟨oj, cj, rfl, _, pj⟩ := own_pol hvj
          clear hvj
          have hlj6 := normTo_len N M (fun k who => outP N M Xa Ya ka k who || outP N M Xb Yb kb k who) N
          have hjo := norm_out hN hOd (good_or (good_out hOd Xa Ya ka) (good_out hOd Xb Yb kb))
          have hcm : (fun k who => outP N M Xb Yb kb k who || outP N M Xa Ya ka k who) = (fun k who => outP N M Xa Ya ka k who || outP N M Xb Yb kb k who) := by funext k who; exact Bool.or_comm _ _
          generalize hlj : normTo N M (fun k who => outP N M Xa Ya ka k who || outP N M Xb Yb kb k who) N = lj at *
          have Hlj := hide hlj
          have Hjo := hide hjo
          have Hcm := hide hcm
          clear hlj hjo hcm
          go_wp2_with fail
          refine (joinP_any p N hN A M hC ob kb cb Xb Yb (by omega) oa ka ca Xa Ya (by omega) _ hO pb pa).mono ?_
          rintro e u13 ⟨vk, rfl, hvk, hb13⟩
          replace hO := hO.later hb13
          replace pa := pa.later hb13
          replace pb := pb.later hb13
          replace pc := pc.later hb13
          replace pj := pj.later hb13
          replace hT := hT.trans (hb13.mono hT.size)
          clear hb13
          rw [unhide Hcm, unhide Hlj] at hvk
          obtain ⟨ok, ck, rfl, _, pk⟩ := own_pol hvk
          clear hvk
          go_wp2_with fail
          refine (flowsP_any p N hN A M hC oa ka ca Xa Ya (by omega) oj lj.length cj (XX lj) (YY lj) (by omega) _ hO pa pj).mono ?_
          rintro e u14 ⟨rfl, hb14⟩
          rw [unhide Hjo, flB_left]
          replace hO := hO.later hb14
          replace pa := pa.later hb14
          replace pb := pb.later hb14
          replace pc := pc.later hb14
          replace pj := pj.later hb14
          replace pk := pk.later hb14
          replace hT := hT.trans (hb14.mono hT.size)
          clear hb14
          go_wp2_with fail
          refine (flowsP_any p N hN A M hC ob kb cb Xb Yb (by omega) oj lj.length cj (XX lj) (YY lj) (by omega) _ hO pb pj).mono ?_
          rintro e u15 ⟨rfl, hb15⟩
          rw [unhide Hjo, flB_right]
          replace hO := hO.later hb15
          replace pa := pa.later hb15
          replace pb := pb.later hb15
          replace pc := pc.later hb15
          replace pj := pj.later hb15
          replace pk := pk.later hb15
          replace hT := hT.trans (hb15.mono hT.size)
          clear hb15
          go_wp2_with fail
          refine (flowsP_any p N hN A M hC oj lj.length cj (XX lj) (YY lj) (by omega) oc kc cc Xc Yc (by omega) _ hO pj pc).mono ?_
          rintro e u16 ⟨rfl, hb16⟩
          rw [unhide Hjo, flB_or, unhide Hvac, unhide Hvbc]
          replace hO := hO.later hb16
          replace pa := pa.later hb16
          replace pb := pb.later hb16
          replace pc := pc.later hb16
          replace pj := pj.later hb16
          replace pk := pk.later hb16
          replace hT := hT.trans (hb16.mono hT.size)
          clear hb16
          go_wp2_with fail
          refine (sameK_any lj lj oj cj ok ck (by omega) (by omega) _ pj pk true (by simp)).mono ?_
          rintro e u17 ⟨rfl, hb17⟩
          replace hO := hO.later hb17
          replace pa := pa.later hb17
          replace pb := pb.later hb17
          replace pc := pc.later hb17
          replace pj := pj.later hb17
          replace pk := pk.later hb17
          replace hT := hT.trans (hb17.mono hT.size)
          clear hb17
          clear pk
          go_upto_region 28 with fail
          go_cut [179] (fun s wc => s = .bool false ∧ u17 = wc)
          case first =>
            clear Hle hO pa pb pc pj hT Hvbc Hvac
            cases vac with
            | false => (go_wp2; go_meet; exact ⟨rfl, rfl⟩)
            | true => (go_wp2; go_meet; exact ⟨rfl, rfl⟩)
          case rest =>
            obtain ⟨rfl, rfl⟩ := hcut
            have pnil : Prs u17 none 0 (fun _ => 0) (fun _ => 0) := fun k hk => by omega
            go_wp2_with fail
            refine (flowsP_any p N hN A M hC none 0 0 (fun _ => 0) (fun _ => 0) (by omega) oa ka ca Xa Ya (by omega) _ hO pnil pa).mono ?_
            rintro e u18 ⟨rfl, hb18⟩
            rw [show outP N M (fun _ => 0) (fun _ => 0) 0 = (fun _ _ => false) from rfl, flB_none]
            replace hO := hO.later hb18
            replace pa := pa.later hb18
            replace pb := pb.later hb18
            replace pc := pc.later hb18
            replace pj := pj.later hb18
            replace hT := hT.trans (hb18.mono hT.size)
            clear hb18
            clear pnil
            go_wp2
            go_loopw [35] (fun t wr => ∃ (k : Nat), k ≤ N ∧ t = .int .i64 (k : Int) ∧ Below u18.heap.size u18 wr) (fun t _ => N - (intOf t).toNat)
            case atStart => exact ⟨0, by omega, rfl, Below.refl _ _⟩
            case round =>
              obtain ⟨k, hk, rfl, hBl⟩ := hrel
              replace hO := hO.later hBl
              replace pa := pa.later hBl
              replace pb := pb.later hBl
              replace pc := pc.later hBl
              replace pj := pj.later hBl
              replace hT := hT.trans (hBl.mono hT.size)
              have hQ := hBl
              clear hBl
              by_cases hlt : k < N
              · have b1 : (0 : Int) ≤ (k : Int) := by omega
                have b2 : (k : Int) < (N : Int) := by omega
                have hin : inB N (k : Int) = true := by simp [inB]; omega
                have Hin := hide hin
                clear hin
                go_wp2_with fail
                refine (actorsP_any p N A _ hO).mono ?_
                rintro e u19 ⟨rfl, hb19⟩
                replace hO := hO.later hb19
                replace pa := pa.later hb19
                replace pb := pb.later hb19
                replace pc := pc.later hb19
                replace pj := pj.later hb19
                replace hT := hT.trans (hb19.mono hT.size)
                replace hQ := hQ.trans (hb19.mono hQ.size)
                clear hb19
                go_wp2_with fail
                refine (readsP_any p N hN A M hC oa ka ca Xa Ya (by omega) (k : Int) _ hO pa).mono ?_
                rintro e u20 ⟨rfl, hb20⟩
                replace hO := hO.later hb20
                replace pa := pa.later hb20
                replace pb := pb.later hb20
                replace pc := pc.later hb20
                replace pj := pj.later hb20
                replace hT := hT.trans (hb20.mono hT.size)
                replace hQ := hQ.trans (hb20.mono hQ.size)
                clear hb20
                go_wp2_with fail
                refine (readsP_any p N hN A M hC ob kb cb Xb Yb (by omega) (k : Int) _ hO pb).mono ?_
                rintro e u21 ⟨rfl, hb21⟩
                replace hO := hO.later hb21
                replace pa := pa.later hb21
                replace pb := pb.later hb21
                replace pc := pc.later hb21
                replace pj := pj.later hb21
                replace hT := hT.trans (hb21.mono hT.size)
                replace hQ := hQ.trans (hb21.mono hQ.size)
                clear hb21
                go_wp2_with fail
                refine (readsP_any p N hN A M hC oj lj.length cj (XX lj) (YY lj) (by omega) (k : Int) _ hO pj).mono ?_
                rintro e u22 ⟨rfl, hb22⟩
                rw [unhide Hjo, rdB_or]
                replace hO := hO.later hb22
                replace pa := pa.later hb22
                replace pb := pb.later hb22
                replace pc := pc.later hb22
                replace pj := pj.later hb22
                replace hT := hT.trans (hb22.mono hT.size)
                replace hQ := hQ.trans (hb22.mono hQ.size)
                clear hb22
                have pnil : Prs u22 none 0 (fun _ => 0) (fun _ => 0) := fun k hk => by omega
                go_wp2_with fail
                refine (readsP_any p N hN A M hC none 0 0 (fun _ => 0) (fun _ => 0) (by omega) (k : Int) _ hO pnil).mono ?_
                rintro e u23 ⟨rfl, hb23⟩
                rw [show outP N M (fun _ => 0) (fun _ => 0) 0 = (fun _ _ => false) from rfl, rdB_none (unhide Hin)]
                replace hO := hO.later hb23
                replace pa := pa.later hb23
                replace pb := pb.later hb23
                replace pc := pc.later hb23
                replace pj := pj.later hb23
                replace hT := hT.trans (hb23.mono hT.size)
                replace hQ := hQ.trans (hb23.mono hQ.size)
                clear hb23
                clear pnil
                have hle := unhide Hle (k : Int)
                generalize rdB N (outP N M Xa Ya ka) (k : Int) = ra at *
                generalize rdB N (outP N M Xb Yb kb) (k : Int) = rb at *
                go_upto_region 40 with fail
                go_cut [225] (fun s wc => s = .bool false ∧ u23 = wc)
                case first =>
                  clear hO pa pb pc pj hT hQ Hle Hjo Hlj Hcm
                  cases vab with
                  | false =>
                    clear hle
                    cases ra with
                    | false => (go_wp2; go_meet; exact ⟨rfl, rfl⟩)
                    | true => (go_wp2; go_meet; exact ⟨rfl, rfl⟩)
                  | true =>
                    cases rb with
                    | false =>
                      clear hle
                      cases ra with
                      | false => (go_wp2; go_meet; exact ⟨rfl, rfl⟩)
                      | true => (go_wp2; go_meet; exact ⟨rfl, rfl⟩)
                    | true =>
                      have hv : ra = true := hle rfl rfl
                      subst hv
                      clear hle
                      go_wp2
                      go_meet
                      exact ⟨rfl, rfl⟩
                case rest =>
                  clear hle
                  obtain ⟨rfl, rfl⟩ := hcut
                  go_wp2
                  go_roundw
                  case rel =>
                    exact ⟨k + 1, by omega, by go_num, hQ⟩
                  case measure => simp [intOf]; omega
              · have hkN : k = N := by omega
                subst hkN
                go_wp2_with fail
                refine (actorsP_any p k A _ hO).mono ?_
                rintro e u25 ⟨rfl, hb25⟩
                replace hO := hO.later hb25
                replace pa := pa.later hb25
                replace pb := pb.later hb25
                replace pc := pc.later hb25
                replace pj := pj.later hb25
                replace hT := hT.trans (hb25.mono hT.size)
                replace hQ := hQ.trans (hb25.mono hQ.size)
                clear hb25
                go_wp2_with fail
                refine (aloneK_any p k hN A M hC hOd _ hO).mono ?_
                rintro e ul ⟨rfl, hbl⟩
                go_wp2
                go_ret
                exact ⟨rfl, hT.trans (hbl.mono hT.size)⟩
      · have t2 : decide ((1048576 : Int) < (m3 : Int)) = true := by simp; omega
        go_enter Try.func5, Try.ntmps5
        go_wp2_with fail
        refine (smallK_any _ rfl ao m c a1 m1 c1 _).mono ?_
        rintro e w1 ⟨rfl, rfl⟩
        rw [unhide Hd]
        go_wp2
        go_ret
        exact ⟨rfl, Below.refl _ _⟩
    · have t1 : decide ((1048576 : Int) < (m2 : Int)) = true := by simp; omega
      go_enter Try.func5, Try.ntmps5
      go_wp2_with fail
      refine (smallK_any _ rfl ao m c a1 m1 c1 _).mono ?_
      rintro e w1 ⟨rfl, rfl⟩
      rw [unhide Hd]
      go_wp2
      go_ret
      exact ⟨rfl, Below.refl _ _⟩
end Go.Proofs.Ytkpkbhgplpmkoaa
