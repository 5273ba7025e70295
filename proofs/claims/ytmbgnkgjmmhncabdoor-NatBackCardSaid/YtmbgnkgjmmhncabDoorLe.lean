/- The law NatBack: the walk. -/
import Derived.Test.YtmbgnkgjmmhncabDoorVa
import Derived.Test.YtmbgnkgjmmhncabDoorLd
namespace Go.Proofs.YtmbgnkgjmmhncabDoor
open Go Go.RowKit Gu

set_option maxHeartbeats 4000000 in
set_option maxRecDepth 100000 in
theorem natBack_walk (u v : Value) (xs ys : List Nat) (w : World) (hu : IsRaw w u xs) (hv : IsRaw w v ys) (hl1 : xs.length ≤ maxLen) (hl2 : ys.length ≤ maxLen) (he : Env w) :
    Calls Tryd.prog 5 #[u, v] w fun e w' => e = .returned (.bool true) ∧ Below w.heap.size w w' := by
  have HR1 := Lib.hid (fun W (h : IsRaw W u xs) => Raw_any u xs 500 W h hl1 (by decide))
  have HR2 := Lib.hid (fun W (h : IsRaw W v ys) => Raw_any v ys 500 W h hl2 (by decide))
  have hna := rawN_nd hu.1 500
  have hnb := rawN_nd hv.1 500
  generalize rawN xs 500 = a at *
  generalize rawN ys 500 = b at *
  have HU := Lib.hid hu
  have HV := Lib.hid hv
  have HS0 := Lib.hid (Kp.start he)
  obtain ⟨uo, uc, rfl, -⟩ := hu.shape
  obtain ⟨vo, vc, rfl, -⟩ := hv.shape
  have ha32 := nd_32 hna
  have hb32 := nd_32 hnb
  clear hu hv he hl1 hl2
  go_enter Tryd.func5, Tryd.ntmps5
  go_wp2_with fail
  refine (HR1.out _ HU.out).mono ?_
  rintro e w1 ⟨cv, rfl, hc, hb1⟩
  obtain ⟨co, cc, rfl, -⟩ := hc.shape
  have HV1 := Lib.hid (IsRaw.below HV.out hb1)
  have HS1 := Lib.hid ((HS0.out.next hb1).addDig hc)
  clear hc hb1 HS0 HV HU
  go_wp2_with fail
  refine (HR2.out _ HV1.out).mono ?_
  rintro e w2 ⟨dv, rfl, hd, hb2⟩
  obtain ⟨d0, dc, rfl, -⟩ := hd.shape
  have HS2 := Lib.hid ((HS1.out.next hb2).addDig hd)
  clear hd hb2 HS1 HV1 HR1 HR2
  go_wp2_with fail
  refine (two_any _ _ a b w2 (HS2.out.dig _ (.tail _ (.head _))) (HS2.out.dig _ (.head _)) (by omega) (by omega)).mono ?_
  rintro e w3 ⟨xv, yv, rfl, hx, hy, hb3⟩
  obtain ⟨xo, xc, rfl, -⟩ := hx.shape
  obtain ⟨yo, yc, rfl, -⟩ := hy.shape
  have hs4 := ((((HS2.out.next hb3).addNum hx).addNum hy).boxed (.slice xo (nd 4294967296 a) xc) 26).boxed (.slice yo (nd 4294967296 b) yc) 26
  simp only [World.size_alloc] at hs4
  have HS4 := Lib.hid hs4
  clear hx hy hb3 hs4 HS2
  go_wp2_with fail
  refine (NDivMod_any _ _ a b _ (HS4.out.num _ (.tail _ (.head _))) (HS4.out.num _ (.head _)) (by omega) (by omega)).mono ?_
  rintro e w4 ⟨qv, rv, rfl, hq, hr, hb4⟩
  obtain ⟨qo, qc, rfl, -⟩ := hq.shape
  obtain ⟨ro, rc, rfl, -⟩ := hr.shape
  have hs5 := ((((HS4.out.next hb4).addNum hq).addNum hr).boxed (.slice qo (nd 4294967296 (a / b)) qc) 26).boxed (.slice ro (nd 4294967296 (modN a b)) rc) 26
  simp only [World.size_alloc] at hs5
  have HS5 := Lib.hid hs5
  have x5 := hs5.cell (.tail _ (.tail _ (.tail _ (.head _))))
  have y5 := hs5.cell (.tail _ (.tail _ (.head _)))
  clear hq hr hb4 HS4 hs5
  obtain ⟨S, hS⟩ : ∃ S : ByteArray, S = ⟨(Lib.decDigits a).toArray⟩ := ⟨_, rfl⟩
  have HST := Lib.hid (String_K HS5.out (.tail _ (.tail _ (.tail _ (.head _)))) (n := a) (by omega))
  have HPA := Lib.hid (fun W => Parse_dec (W := W) a (by omega))
  rw [← hS] at HST HPA
  clear hS
  go_wp2_with fail
  refine HST.out.mono ?_
  rintro e w5 ⟨rfl, hs⟩
  have HS6 := Lib.hid hs
  clear hs HS5 x5 y5 HST
  go_wp2_with fail
  refine (HPA.out _).mono ?_
  rintro e w6 ⟨pv, rfl, hp, hb6⟩
  obtain ⟨po, pc, rfl, -⟩ := hp.shape
  have hs7 := ((HS6.out.next hb6).addNum hp).boxed (.slice po (nd 4294967296 a) pc) 26
  have HS7 := Lib.hid hs7
  clear hp hb6 HS6 hs7 HPA
  have cp := HS7.out.cell (.head _)
  have cx := HS7.out.cell (.tail _ (.tail _ (.tail _ (.tail _ (.head _)))))
  have cy := HS7.out.cell (.tail _ (.tail _ (.tail _ (.head _))))
  have HC0 := Lib.hid (NCmp_K HS7.out (.head _) (.tail _ (.tail _ (.tail _ (.tail _ (.head _))))) (by omega) (by omega))
  rw [cmpN_eq rfl] at HC0
  go_wp2_with fail
  refine HC0.out.mono ?_
  rintro e w7 ⟨rfl, hs⟩
  have HS8 := Lib.hid hs
  clear hs HS7 HC0 cp cx cy
  have cx := HS8.out.cell (.tail _ (.tail _ (.tail _ (.tail _ (.head _)))))
  have cy := HS8.out.cell (.tail _ (.tail _ (.tail _ (.head _))))
  have cq := HS8.out.cell (.tail _ (.tail _ (.head _)))
  have cr := HS8.out.cell (.tail _ (.head _))
  have HBL := Lib.hid (BitLen_K HS8.out (.tail _ (.tail _ (.tail _ (.head _)))) (by omega))
  go_wp2_with fail
  refine HBL.out.mono ?_
  rintro e w8 ⟨rfl, hs⟩
  have HS9 := Lib.hid hs
  clear hs HS8 HBL cx cy cq cr
  by_cases hb0 : b = 0
  · have h1 : divE b = 11 := if_pos hb0
    have h2 : nd 2 b = 0 := by rw [hb0, nd_zero]
    have HAW := Lib.hid (awake_K HS9.out)
    rw [h1, h2]
    clear h1 h2 hb0
    go_wp2_with fail
    refine HAW.out.mono ?_
    rintro e w9 ⟨rfl, hs⟩
    have HS10 := Lib.hid hs
    clear hs
    go_wp2
    go_ret
    exact ⟨by simp, HS10.out.bel⟩
  · have h1 : divE b = 0 := if_neg hb0
    have h2 : 0 < nd 2 b := nd_pos (by decide) (Nat.pos_of_ne_zero hb0)
    have h3 : ((nd 2 b : Nat) : Int) ≠ 0 := by omega
    have h4 : modN a b = a % b := if_neg hb0
    have hqb : a / b * b ≤ a := Nat.div_mul_le_self _ _
    have hfq : nd 65536 (a / b * b) ≤ 500 := Nat.le_trans (nd_mono (by decide) hqb) hna
    have hfs : fitE (a / b * b) = 0 ∧ fitN (a / b * b) = a / b * b := ⟨if_pos (fit_ok (by omega)), if_pos (fit_ok (by omega))⟩
    have hsum : a / b * b + modN a b = a := by rw [h4]; exact Nat.div_add_mod' a b
    have hfa : fitE a = 0 ∧ fitN a = a := ⟨if_pos (fit_ok (by omega)), if_pos (fit_ok (by omega))⟩
    have hlt : modN a b < b := by rw [h4]; exact Nat.mod_lt _ (Nat.pos_of_ne_zero hb0)
    have hq32 : nd 4294967296 (a / b) ≤ 500 := Nat.le_trans (nd_mono (by decide) (Nat.div_le_self _ _)) ha32
    have hr32 : nd 4294967296 (modN a b) ≤ 500 := Nat.le_trans (nd_mono (by decide) (by rw [h4]; exact Nat.mod_le _ _)) ha32
    have hm32 : nd 4294967296 (a / b * b) ≤ 500 := nd_32 hfq
    have HMU := Lib.hid (NMul_any _ _ (a / b) b w8 (HS9.out.num _ (.tail _ (.tail _ (.head _)))) (HS9.out.num _ (.tail _ (.tail _ (.tail _ (.head _))))) (by omega) (by omega))
    rw [hfs.1, hfs.2] at HMU
    have HAD := Lib.hid (fun W v u (h1 : D W v (a / b * b)) (h2 : D W u (modN a b)) => Add_any v u _ _ W h1 h2 (by omega) (by omega))
    rw [hsum, hfa.1, hfa.2] at HAD
    have HLT : Hid (cmpN (modN a b) b = -1) := cmpN_lt (by omega)
    rw [h1]
    clear h1 hfs hsum hfa hqb h4 hlt hfq
    generalize nd 2 b = bl at *
    have cx := HS9.out.cell (.tail _ (.tail _ (.tail _ (.tail _ (.head _)))))
    have cy := HS9.out.cell (.tail _ (.tail _ (.tail _ (.head _))))
    have cq := HS9.out.cell (.tail _ (.tail _ (.head _)))
    have cr := HS9.out.cell (.tail _ (.head _))
    go_wp2_with fail
    refine HMU.out.mono ?_
    rintro e w9 ⟨mv, rfl, hm, hb9⟩
    obtain ⟨mo, mc, rfl, -⟩ := hm.shape
    have HS10 := Lib.hid (((HS9.out.next hb9).addNum hm).boxed (.slice mo (nd 4294967296 (a / b * b)) mc) 26)
    clear hm hb9 HS9 HMU cx cy cq cr
    have cm := HS10.out.cell (.head _)
    have cr := HS10.out.cell (.tail _ (.tail _ (.head _)))
    go_wp2_with fail
    refine (HAD.out _ _ _ (HS10.out.num _ (.head _)) (HS10.out.num _ (.tail _ (.tail _ (.head _))))).mono ?_
    rintro e w10 ⟨sv, rfl, hs, hb10⟩
    obtain ⟨so, sc, rfl, -⟩ := hs.shape
    have HS11 := Lib.hid (((HS10.out.next hb10).addNum hs).boxed (.slice so (nd 4294967296 a) sc) 26)
    clear hs hb10 HS10 HAD cm cr
    have cs := HS11.out.cell (.head _)
    have cx := HS11.out.cell (.tail _ (.tail _ (.tail _ (.tail _ (.tail _ (.tail _ (.head _)))))))
    have cr := HS11.out.cell (.tail _ (.tail _ (.tail _ (.head _))))
    have cy := HS11.out.cell (.tail _ (.tail _ (.tail _ (.tail _ (.tail _ (.head _))))))
    have HC1 := Lib.hid (NCmp_K HS11.out (.head _) (.tail _ (.tail _ (.tail _ (.tail _ (.tail _ (.tail _ (.head _))))))) (by omega) (by omega))
    rw [cmpN_eq rfl] at HC1
    go_wp2_with fail
    refine HC1.out.mono ?_
    rintro e w11 ⟨rfl, hs⟩
    have HS12 := Lib.hid hs
    clear hs HS11 HC1 cs cx cr cy
    have cr := HS12.out.cell (.tail _ (.tail _ (.tail _ (.head _))))
    have cy := HS12.out.cell (.tail _ (.tail _ (.tail _ (.tail _ (.tail _ (.head _))))))
    have HC2 := Lib.hid (NCmp_K HS12.out (.tail _ (.tail _ (.tail _ (.head _)))) (.tail _ (.tail _ (.tail _ (.tail _ (.tail _ (.head _)))))) (by omega) (by omega))
    rw [HLT.out] at HC2
    go_wp2_with fail
    refine HC2.out.mono ?_
    rintro e w12 ⟨rfl, hs⟩
    have HS13 := Lib.hid hs
    clear hs HS12 HC2 cr cy
    have HAW := Lib.hid (awake_K HS13.out)
    go_wp2_with fail
    refine HAW.out.mono ?_
    rintro e w13 ⟨rfl, hs⟩
    have HS14 := Lib.hid hs
    clear hs
    go_wp2
    go_ret
    exact ⟨by simp, HS14.out.bel⟩
end Go.Proofs.YtmbgnkgjmmhncabDoor
