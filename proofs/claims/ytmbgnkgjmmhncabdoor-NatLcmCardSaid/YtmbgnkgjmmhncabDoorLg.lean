/- The law NatLcm: the walk. -/
import Derived.Test.YtmbgnkgjmmhncabDoorVa
import Derived.Test.YtmbgnkgjmmhncabDoorLd
namespace Go.Proofs.YtmbgnkgjmmhncabDoor
open Go Go.RowKit Gu

theorem lcm_num {a b : Nat} : a.gcd b * (a / a.gcd b * b) = a * b := by
  rw [← Nat.mul_assoc, Nat.mul_div_cancel' (Nat.gcd_dvd_left a b)]
set_option maxHeartbeats 4000000 in
set_option maxRecDepth 100000 in
theorem natLcm_walk (u v : Value) (xs ys : List Nat) (w : World) (hu : IsRaw w u xs) (hv : IsRaw w v ys) (hl1 : xs.length ≤ maxLen) (hl2 : ys.length ≤ maxLen) (he : Env w) :
    Calls Tryd.prog 8 #[u, v] w fun e w' => e = .returned (.bool true) ∧ Below w.heap.size w w' := by
  have HR1 := Lib.hid (fun W (h : IsRaw W u xs) => Raw_any u xs 200 W h hl1 (by decide))
  have HR2 := Lib.hid (fun W (h : IsRaw W v ys) => Raw_any v ys 200 W h hl2 (by decide))
  have hna := rawN_nd hu.1 200
  have hnb := rawN_nd hv.1 200
  generalize rawN xs 200 = a at *
  generalize rawN ys 200 = b at *
  have HU := Lib.hid hu
  have HV := Lib.hid hv
  have HS0 := Lib.hid (Kp.start he)
  obtain ⟨uo, uc, rfl, -⟩ := hu.shape
  obtain ⟨vo, vc, rfl, -⟩ := hv.shape
  have ha32 := nd_32 hna
  have hb32 := nd_32 hnb
  clear hu hv he hl1 hl2
  go_enter Tryd.func8, Tryd.ntmps8
  go_wp2_with fail
  refine (HR1.out _ HU.out).mono ?_
  rintro e w1 ⟨cv, rfl, hc, hb1⟩
  obtain ⟨co, cc, rfl, -⟩ := hc.shape
  have HV1 := Lib.hid (IsRaw.below HV.out hb1)
  have HS1 := Lib.hid ((HS0.out.next hb1).addDig hc)
  clear hc hb1 HS0 HV HU
  go_wp2_with fail
  refine (HR2.out _ HV1.out).mono ?_
  rintro e w2 ⟨dv, rfl, hd, hb2⟩
  obtain ⟨d0, dc, rfl, -⟩ := hd.shape
  have HS2 := Lib.hid ((HS1.out.next hb2).addDig hd)
  clear hd hb2 HS1 HV1 HR1 HR2
  go_wp2_with fail
  refine (two_any _ _ a b w2 (HS2.out.dig _ (.tail _ (.head _))) (HS2.out.dig _ (.head _)) (by omega) (by omega)).mono ?_
  rintro e w3 ⟨vx, vy, rfl, hx, hy, hb⟩
  obtain ⟨xo, xc, rfl, -⟩ := hx.shape
  obtain ⟨yo, yc, rfl, -⟩ := hy.shape
  have hs := ((((HS2.out.next hb).addNum hx).addNum hy).boxed (.slice xo (nd 4294967296 (a)) xc) 26).boxed (.slice yo (nd 4294967296 (b)) yc) 26
  simp only [World.size_alloc] at hs
  have HS3 := Lib.hid hs
  clear hs hb hx hy HS2
  have cx := HS3.out.cell (.tail _ (.head _))
  go_wp2_with fail
  refine (BitLen_K HS3.out (.tail _ (.head _)) (by omega)).mono ?_
  rintro e w4 ⟨rfl, hs⟩
  have HS4 := Lib.hid hs
  clear hs HS3
  clear cx
  by_cases ha0 : a = 0
  · skip
    have h1 : nd 2 a = 0 := by rw [ha0, nd_zero]
    rw [h1]
    clear h1 ha0
    have cx := HS4.out.cell (.tail _ (.head _))
    have cy := HS4.out.cell (.head _)
    go_wp2_with fail
    refine (awake_K HS4.out).mono ?_
    rintro e w5 ⟨rfl, hs⟩
    have HS5 := Lib.hid hs
    clear hs HS4
    clear cx cy
    go_wp2
    go_ret
    exact ⟨by simp, HS5.out.bel⟩
  · skip
    have h1 : 0 < nd 2 a := nd_pos (by decide) (Nat.pos_of_ne_zero ha0)
    have h2 : (((nd 2 a : Nat) : Int) == 0) = false := by simp; omega
    generalize nd 2 a = la at *
    have cy := HS4.out.cell (.head _)
    have cx := HS4.out.cell (.tail _ (.head _))
    go_wp2_with fail
    refine (BitLen_K HS4.out (.head _) (by omega)).mono ?_
    rintro e w5 ⟨rfl, hs⟩
    have HS5 := Lib.hid hs
    clear hs HS4
    clear cy cx
    by_cases hb0 : b = 0
    · skip
      have h3 : nd 2 b = 0 := by rw [hb0, nd_zero]
      rw [h3]
      clear h3 hb0 ha0
      have cx := HS5.out.cell (.tail _ (.head _))
      have cy := HS5.out.cell (.head _)
      go_wp2_with fail
      refine (awake_K HS5.out).mono ?_
      rintro e w6 ⟨rfl, hs⟩
      have HS6 := Lib.hid hs
      clear hs HS5
      clear cx cy
      go_wp2
      go_ret
      exact ⟨by simp, HS6.out.bel⟩
    · skip
      have h3 : 0 < nd 2 b := nd_pos (by decide) (Nat.pos_of_ne_zero hb0)
      have h4 : (((nd 2 b : Nat) : Int) == 0) = false := by simp; omega
      have hg0 : 0 < a.gcd b := Nat.gcd_pos_of_pos_left _ (Nat.pos_of_ne_zero ha0)
      have hgd : divE (a.gcd b) = 0 := if_neg (by omega)
      have hga : modN a (a.gcd b) = 0 := by unfold modN; rw [if_neg (by omega)]; exact Nat.mod_eq_zero_of_dvd (Nat.gcd_dvd_left a b)
      have hgb : modN b (a.gcd b) = 0 := by unfold modN; rw [if_neg (by omega)]; exact Nat.mod_eq_zero_of_dvd (Nat.gcd_dvd_right a b)
      have hgl : a.gcd b ≤ a := Nat.gcd_le_left _ (Nat.pos_of_ne_zero ha0)
      have hg32 := Nat.le_trans (nd_mono (B := 4294967296) (by decide) hgl) ha32
      have hq32 := Nat.le_trans (nd_mono (B := 4294967296) (by decide) (Nat.div_le_self a (a.gcd b))) ha32
      have hv32 := Nat.le_trans (nd_mono (B := 4294967296) (by decide) (Nat.div_le_self b (a.gcd b))) hb32
      have hab : nd 65536 (a * b) ≤ 400 := nd_rmul hna hnb
      have hqb : a / a.gcd b * b ≤ a * b := Nat.mul_le_mul_right _ (Nat.div_le_self _ _)
      have hqn : nd 65536 (a / a.gcd b * b) ≤ 400 := Nat.le_trans (nd_mono (by decide) hqb) hab
      have hm32 := nd_32 hqn
      have hp32 := nd_32 hab
      have hfm : fitE (a / a.gcd b * b) = 0 ∧ fitN (a / a.gcd b * b) = a / a.gcd b * b := ⟨if_pos (fit_ok (by omega)), if_pos (fit_ok (by omega))⟩
      have hfp : fitE (a * b) = 0 ∧ fitN (a * b) = a * b := ⟨if_pos (fit_ok (by omega)), if_pos (fit_ok (by omega))⟩
      have hone : Nat.gcd (a / a.gcd b) (b / a.gcd b) = 1 := Nat.gcd_div_gcd_div_gcd_of_pos_left (Nat.pos_of_ne_zero ha0)
      have HGC := Lib.hid (fun W v u (h1 : D W v a) (h2 : D W u b) => NGcd_any v u a b W h1 h2 (by omega) (by omega))
      have HD1 := Lib.hid (fun W v u (h1 : D W v a) (h2 : D W u (a.gcd b)) => NDivMod_any v u a _ W h1 h2 (by omega) (by omega))
      have HD2 := Lib.hid (fun W v u (h1 : D W v b) (h2 : D W u (a.gcd b)) => NDivMod_any v u b _ W h1 h2 (by omega) (by omega))
      rw [hgd, hga] at HD1
      rw [hgd, hgb] at HD2
      have HM1 := Lib.hid (fun W v u (h1 : D W v (a / a.gcd b)) (h2 : D W u b) => NMul_any v u _ _ W h1 h2 (by omega) (by omega))
      rw [hfm.1, hfm.2] at HM1
      have HM2 := Lib.hid (fun W v u (h1 : D W v (a.gcd b)) (h2 : D W u (a / a.gcd b * b)) => NMul_any v u _ _ W h1 h2 (by omega) (by omega))
      rw [lcm_num, hfp.1, hfp.2] at HM2
      have HM3 := Lib.hid (fun W v u (h1 : D W v a) (h2 : D W u b) => NMul_any v u _ _ W h1 h2 (by omega) (by omega))
      rw [hfp.1, hfp.2] at HM3
      have HG2 := Lib.hid (fun W v u (h1 : D W v (a / a.gcd b)) (h2 : D W u (b / a.gcd b)) => NGcd_any v u _ _ W h1 h2 (by omega) (by omega))
      rw [hone] at HG2
      clear hone hfm hfp hgd hga hgb hgl hqb ha0 hb0 hg0
      generalize a / a.gcd b * b = mm at *
      generalize a / a.gcd b = qq at *
      generalize b / a.gcd b = vv at *
      generalize a.gcd b = gg at *
      generalize a * b = pp at *
      generalize nd 2 b = lb at *
      have cx := HS5.out.cell (.tail _ (.head _))
      have cy := HS5.out.cell (.head _)
      go_wp2_with fail
      refine (HGC.out _ _ _ (HS5.out.num _ (.tail _ (.head _))) (HS5.out.num _ (.head _))).mono ?_
      rintro e w6 ⟨vg, rfl, hg, hb⟩
      obtain ⟨go, gc, rfl, -⟩ := hg.shape
      have hs := ((HS5.out.next hb).addNum hg).boxed (.slice go (nd 4294967296 (gg)) gc) 26
      have HS6 := Lib.hid hs
      clear hs hb hg HS5
      clear cx cy
      have cx := HS6.out.cell (.tail _ (.tail _ (.head _)))
      have cg := HS6.out.cell (.head _)
      go_wp2_with fail
      refine (HD1.out _ _ _ (HS6.out.num _ (.tail _ (.tail _ (.head _)))) (HS6.out.num _ (.head _))).mono ?_
      rintro e w7 ⟨vq, vr, rfl, hq, hr, hb⟩
      obtain ⟨qo, qc, rfl, -⟩ := hq.shape
      obtain ⟨ro, rc, rfl, -⟩ := hr.shape
      have hs := ((((HS6.out.next hb).addNum hq).addNum hr).boxed (.slice qo (nd 4294967296 (qq)) qc) 26).boxed (.slice ro (nd 4294967296 (0)) rc) 26
      simp only [World.size_alloc] at hs
      have HS7 := Lib.hid hs
      clear hs hb hq hr HS6
      clear cx cg
      have cy := HS7.out.cell (.tail _ (.tail _ (.tail _ (.head _))))
      have cg := HS7.out.cell (.tail _ (.tail _ (.head _)))
      go_wp2_with fail
      refine (HD2.out _ _ _ (HS7.out.num _ (.tail _ (.tail _ (.tail _ (.head _))))) (HS7.out.num _ (.tail _ (.tail _ (.head _))))).mono ?_
      rintro e w8 ⟨vv, vw, rfl, hv, hw, hb⟩
      obtain ⟨vo, vc, rfl, -⟩ := hv.shape
      obtain ⟨wo, wc, rfl, -⟩ := hw.shape
      have hs := ((((HS7.out.next hb).addNum hv).addNum hw).boxed (.slice vo (nd 4294967296 (vv)) vc) 26).boxed (.slice wo (nd 4294967296 (0)) wc) 26
      simp only [World.size_alloc] at hs
      have HS8 := Lib.hid hs
      clear hs hb hv hw HS7
      clear cy cg
      have cq := HS8.out.cell (.tail _ (.tail _ (.tail _ (.head _))))
      have cy := HS8.out.cell (.tail _ (.tail _ (.tail _ (.tail _ (.tail _ (.head _))))))
      go_wp2_with fail
      refine (HM1.out _ _ _ (HS8.out.num _ (.tail _ (.tail _ (.tail _ (.head _))))) (HS8.out.num _ (.tail _ (.tail _ (.tail _ (.tail _ (.tail _ (.head _)))))))).mono ?_
      rintro e w9 ⟨vm, rfl, hm, hb⟩
      obtain ⟨mo, mc, rfl, -⟩ := hm.shape
      have hs := ((HS8.out.next hb).addNum hm).boxed (.slice mo (nd 4294967296 (mm)) mc) 26
      have HS9 := Lib.hid hs
      clear hs hb hm HS8
      clear cq cy
      have cg := HS9.out.cell (.tail _ (.tail _ (.tail _ (.tail _ (.tail _ (.head _))))))
      have cm := HS9.out.cell (.head _)
      go_wp2_with fail
      refine (HM2.out _ _ _ (HS9.out.num _ (.tail _ (.tail _ (.tail _ (.tail _ (.tail _ (.head _))))))) (HS9.out.num _ (.head _))).mono ?_
      rintro e w10 ⟨vl, rfl, hl, hb⟩
      obtain ⟨lo, lc, rfl, -⟩ := hl.shape
      have hs := ((HS9.out.next hb).addNum hl).boxed (.slice lo (nd 4294967296 (pp)) lc) 26
      have HS10 := Lib.hid hs
      clear hs hb hl HS9
      clear cg cm
      have cx := HS10.out.cell (.tail _ (.tail _ (.tail _ (.tail _ (.tail _ (.tail _ (.tail _ (.tail _ (.head _)))))))))
      have cy := HS10.out.cell (.tail _ (.tail _ (.tail _ (.tail _ (.tail _ (.tail _ (.tail _ (.head _))))))))
      go_wp2_with fail
      refine (HM3.out _ _ _ (HS10.out.num _ (.tail _ (.tail _ (.tail _ (.tail _ (.tail _ (.tail _ (.tail _ (.tail _ (.head _)))))))))) (HS10.out.num _ (.tail _ (.tail _ (.tail _ (.tail _ (.tail _ (.tail _ (.tail _ (.head _)))))))))).mono ?_
      rintro e w11 ⟨vp, rfl, hp, hb⟩
      obtain ⟨po, pc, rfl, -⟩ := hp.shape
      have hs := ((HS10.out.next hb).addNum hp).boxed (.slice po (nd 4294967296 (pp)) pc) 26
      have HS11 := Lib.hid hs
      clear hs hb hp HS10
      clear cx cy
      have cq := HS11.out.cell (.tail _ (.tail _ (.tail _ (.tail _ (.tail _ (.tail _ (.head _)))))))
      have cv := HS11.out.cell (.tail _ (.tail _ (.tail _ (.tail _ (.head _)))))
      go_wp2_with fail
      refine (HG2.out _ _ _ (HS11.out.num _ (.tail _ (.tail _ (.tail _ (.tail _ (.tail _ (.tail _ (.head _)))))))) (HS11.out.num _ (.tail _ (.tail _ (.tail _ (.tail _ (.head _))))))).mono ?_
      rintro e w12 ⟨vone, rfl, hone, hb⟩
      obtain ⟨oneo, onec, rfl, -⟩ := hone.shape
      have hs := ((HS11.out.next hb).addNum hone).boxed (.slice oneo (nd 4294967296 (1)) onec) 26
      have HS12 := Lib.hid hs
      clear hs hb hone HS11
      clear cq cv
      have hbl := BitLen_K HS12.out (n := 0) (.tail _ (.tail _ (.tail _ (.tail _ (.tail _ (.tail _ (.head _))))))) (by rw [nd_zero]; omega)
      rw [nd_zero 2] at hbl
      have HBZ := Lib.hid hbl
      clear hbl
      have cr := HS12.out.cell (.tail _ (.tail _ (.tail _ (.tail _ (.tail _ (.tail _ (.head _)))))))
      have cw := HS12.out.cell (.tail _ (.tail _ (.tail _ (.tail _ (.head _)))))
      have cl := HS12.out.cell (.tail _ (.tail _ (.head _)))
      have cp := HS12.out.cell (.tail _ (.head _))
      have cone := HS12.out.cell (.head _)
      go_wp2_with fail
      refine (HBZ.out).mono ?_
      rintro e w13 ⟨rfl, hs⟩
      have HS13 := Lib.hid hs
      clear hs HS12
      clear cr cw cl cp cone HBZ
      have hbl := BitLen_K HS13.out (n := 0) (.tail _ (.tail _ (.tail _ (.tail _ (.head _))))) (by rw [nd_zero]; omega)
      rw [nd_zero 2] at hbl
      have HBZ := Lib.hid hbl
      clear hbl
      have cw := HS13.out.cell (.tail _ (.tail _ (.tail _ (.tail _ (.head _)))))
      have cl := HS13.out.cell (.tail _ (.tail _ (.head _)))
      have cp := HS13.out.cell (.tail _ (.head _))
      have cone := HS13.out.cell (.head _)
      go_wp2_with fail
      refine (HBZ.out).mono ?_
      rintro e w14 ⟨rfl, hs⟩
      have HS14 := Lib.hid hs
      clear hs HS13
      clear cw cl cp cone HBZ
      have hcm := NCmp_K HS14.out (.tail _ (.tail _ (.head _))) (.tail _ (.head _)) (by omega) (by omega)
      rw [cmpN_eq rfl] at hcm
      have HCM := Lib.hid hcm
      clear hcm
      have cl := HS14.out.cell (.tail _ (.tail _ (.head _)))
      have cp := HS14.out.cell (.tail _ (.head _))
      have cone := HS14.out.cell (.head _)
      go_wp2_with fail
      refine (HCM.out).mono ?_
      rintro e w15 ⟨rfl, hs⟩
      have HS15 := Lib.hid hs
      clear hs HS14
      clear cl cp cone HCM
      have hst := String_K HS15.out (n := 1) (.head _) (by rw [nd_one (by decide) (by decide)]; omega)
      rw [show Lib.decDigits 1 = [49] from decDigits_small (by decide)] at hst
      have HST := Lib.hid hst
      clear hst
      have cone := HS15.out.cell (.head _)
      go_wp2_with fail
      refine (HST.out).mono ?_
      rintro e w16 ⟨rfl, hs⟩
      have HS16 := Lib.hid hs
      clear hs HS15
      clear cone HST
      go_wp2_with fail
      refine (awake_K HS16.out).mono ?_
      rintro e w17 ⟨rfl, hs⟩
      have HS17 := Lib.hid hs
      clear hs HS16
      go_wp2
      go_ret
      exact ⟨by simp, HS17.out.bel⟩
end Go.Proofs.YtmbgnkgjmmhncabDoor
