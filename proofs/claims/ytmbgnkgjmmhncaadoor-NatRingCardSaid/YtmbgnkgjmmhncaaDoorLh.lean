/- The law NatRing: the walk. -/
import Derived.Test.YtmbgnkgjmmhncaaDoorLc
import Derived.Test.YtmbgnkgjmmhncaaDoorLd
namespace Go.Proofs.YtmbgnkgjmmhncaaDoor
open Go Go.RowKit Gu

theorem Add_fit (v u : Value) (a b : Nat) (W : World) (hv : D W v a) (hu : D W u b) (ha : nd 65536 a ≤ 1024) (hb : nd 65536 b ≤ 1024) (hs : nd 65536 (a + b) ≤ 1024) :
    Calls Tryd.prog 11 #[.agg #[v], .agg #[u]] W fun e w' => ∃ r, e = .returned (.tuple #[.agg #[r], .int .i64 0]) ∧ D w' r (a + b) ∧ Below W.heap.size W w' := by
  have h := Add_any v u a b W hv hu (by have := nd_32 ha; omega) (by have := nd_32 hb; omega)
  rw [show fitE (a + b) = 0 from if_pos (fit_ok hs), show fitN (a + b) = a + b from if_pos (fit_ok hs)] at h
  exact h
theorem Mul_fit (v u : Value) (a b : Nat) (W : World) (hv : D W v a) (hu : D W u b) (ha : nd 65536 a ≤ 1024) (hb : nd 65536 b ≤ 1024) (hs : nd 65536 (a * b) ≤ 1024) :
    Calls Tryd.prog 20 #[.agg #[v], .agg #[u]] W fun e w' => ∃ r, e = .returned (.tuple #[.agg #[r], .int .i64 0]) ∧ D w' r (a * b) ∧ Below W.heap.size W w' := by
  have h := NMul_any v u a b W hv hu (by have := nd_32 ha; omega) (by have := nd_32 hb; omega)
  rw [show fitE (a * b) = 0 from if_pos (fit_ok hs), show fitN (a * b) = a * b from if_pos (fit_ok hs)] at h
  exact h
theorem nd_rsum {a b m k n : Nat} (ha : nd 65536 a ≤ m) (hb : nd 65536 b ≤ k) (hm : m + 1 ≤ n) (hk : k + 1 ≤ n) : nd 65536 (a + b) ≤ n := by
  have := nd_radd (m := n - 1) (a := a) (b := b) (by omega) (by omega)
  omega
set_option maxHeartbeats 8000000 in
set_option maxRecDepth 100000 in
theorem natRing_walk (u v t : Value) (xs ys zs : List Nat) (w : World) (hu : IsRaw w u xs) (hv : IsRaw w v ys) (ht : IsRaw w t zs) (hl1 : xs.length ≤ maxLen) (hl2 : ys.length ≤ maxLen) (hl3 : zs.length ≤ maxLen) (he : Env w) :
    Calls Tryd.prog 5 #[u, v, t] w fun e w' => e = .returned (.bool true) ∧ Below w.heap.size w w' := by
  have HR1 := Lib.hid (fun W (h : IsRaw W u xs) => Raw_any u xs 200 W h hl1 (by decide))
  have HR2 := Lib.hid (fun W (h : IsRaw W v ys) => Raw_any v ys 200 W h hl2 (by decide))
  have HR3 := Lib.hid (fun W (h : IsRaw W t zs) => Raw_any t zs 200 W h hl3 (by decide))
  have hna := rawN_nd hu.1 200
  have hnb := rawN_nd hv.1 200
  have hnc := rawN_nd ht.1 200
  generalize rawN xs 200 = a at *
  generalize rawN ys 200 = b at *
  generalize rawN zs 200 = c at *
  have HU := Lib.hid hu
  have HV := Lib.hid hv
  have HT := Lib.hid ht
  have HS0 := Lib.hid (Kp.start he)
  obtain ⟨uo, uc, rfl, -⟩ := hu.shape
  obtain ⟨vo, vc, rfl, -⟩ := hv.shape
  obtain ⟨t0, tc, rfl, -⟩ := ht.shape
  clear hu hv ht he hl1 hl2 hl3
  have hs1 := nd_rsum hna hnb (n := 201) (by omega) (by omega)
  have hs2 := nd_rsum hnb hnc (n := 201) (by omega) (by omega)
  have hs3 := nd_rsum hs1 hnc (n := 202) (by omega) (by omega)
  have hp1 := nd_rmul hna hnb
  have hp2 := nd_rmul hnb hnc
  have hp3 := nd_rmul hp1 hnc
  have hp4 := nd_rmul hs1 hnc
  have hp5 := nd_rmul hna hnc
  have HA1 := Lib.hid (fun W v u (h1 : D W v a) (h2 : D W u b) => Add_fit v u a b W h1 h2 (by omega) (by omega) (by omega))
  have HA2 := Lib.hid (fun W v u (h1 : D W v b) (h2 : D W u a) => Add_fit v u b a W h1 h2 (by omega) (by omega) (by rw [Nat.add_comm]; omega))
  have HA3 := Lib.hid (fun W v u (h1 : D W v (a + b)) (h2 : D W u c) => Add_fit v u (a + b) c W h1 h2 (by omega) (by omega) (by omega))
  have HA4 := Lib.hid (fun W v u (h1 : D W v b) (h2 : D W u c) => Add_fit v u b c W h1 h2 (by omega) (by omega) (by omega))
  have HA5 := Lib.hid (fun W v u (h1 : D W v a) (h2 : D W u (b + c)) => Add_fit v u a (b + c) W h1 h2 (by omega) (by omega) (by rw [← Nat.add_assoc]; omega))
  have HM1 := Lib.hid (fun W v u (h1 : D W v a) (h2 : D W u b) => Mul_fit v u a b W h1 h2 (by omega) (by omega) (by omega))
  have HM2 := Lib.hid (fun W v u (h1 : D W v b) (h2 : D W u a) => Mul_fit v u b a W h1 h2 (by omega) (by omega) (by rw [Nat.mul_comm]; omega))
  have HM3 := Lib.hid (fun W v u (h1 : D W v (a * b)) (h2 : D W u c) => Mul_fit v u (a * b) c W h1 h2 (by omega) (by omega) (by omega))
  have HM4 := Lib.hid (fun W v u (h1 : D W v b) (h2 : D W u c) => Mul_fit v u b c W h1 h2 (by omega) (by omega) (by omega))
  have HM5 := Lib.hid (fun W v u (h1 : D W v a) (h2 : D W u (b * c)) => Mul_fit v u a (b * c) W h1 h2 (by omega) (by omega) (by rw [← Nat.mul_assoc]; omega))
  have HM6 := Lib.hid (fun W v u (h1 : D W v (a + b)) (h2 : D W u c) => Mul_fit v u (a + b) c W h1 h2 (by omega) (by omega) (by omega))
  have HM7 := Lib.hid (fun W v u (h1 : D W v a) (h2 : D W u c) => Mul_fit v u a c W h1 h2 (by omega) (by omega) (by omega))
  have hk : nd 65536 (a * c + b * c) ≤ 1024 := by rw [← Nat.add_mul]; omega
  have HA6 := Lib.hid (fun W v u (h1 : D W v (a * c)) (h2 : D W u (b * c)) => Add_fit v u (a * c) (b * c) W h1 h2 (by omega) (by omega) hk)
  rw [Nat.add_comm b a] at HA2
  rw [← Nat.add_assoc] at HA5
  rw [Nat.mul_comm b a] at HM2
  rw [← Nat.mul_assoc] at HM5
  rw [← Nat.add_mul] at HA6
  have HMD := Lib.hid (fun W v (h : R W v c) => made_any v c W h (by omega))
  have HTW := Lib.hid (fun W v u (h1 : R W v a) (h2 : R W u b) => two_any v u a b W h1 h2 (by omega) (by omega))
  have HCM := Lib.hid (fun (cs : List (Nat × Value)) (ns rs : List (Value × Nat)) W v u n (h : Kp cs ns rs w W) (h1 : (v, n) ∈ ns) (h2 : (u, n) ∈ ns) (hn : nd 65536 n ≤ 1024) =>
    (by have h3 := NCmp_K h h1 h2 (by have := nd_32 hn; omega) (by have := nd_32 hn; omega); rw [cmpN_eq rfl] at h3; exact h3 :
      Calls Tryd.prog 13 #[.agg #[v], .agg #[u]] W fun e w' => e = .returned (.int .i64 0) ∧ Kp cs ns rs w w'))
  have h4 : nd 65536 (a + b) ≤ 1024 := by omega
  have h5 : nd 65536 (a + b + c) ≤ 1024 := by omega
  have h6 : nd 65536 (a * b) ≤ 1024 := by omega
  have h7 : nd 65536 (a * b * c) ≤ 1024 := by omega
  have h8 : nd 65536 ((a + b) * c) ≤ 1024 := by omega
  have H4 := Lib.hid h4; have H5 := Lib.hid h5; have H6 := Lib.hid h6; have H7 := Lib.hid h7; have H8 := Lib.hid h8
  clear hs1 hs2 hs3 hp1 hp2 hp3 hp4 hp5 hk hna hnb hnc h4 h5 h6 h7 h8
  generalize a + b + c = Nabc at *
  generalize (a + b) * c = Nsc at *
  generalize a * b * c = Npc at *
  generalize a + b = Ns at *
  generalize b + c = Nbc at *
  generalize a * b = Np at *
  generalize b * c = Nm at *
  generalize a * c = Nj at *
  go_enter Tryd.func5, Tryd.ntmps5
  go_wp2_with fail
  refine (HR1.out _ HU.out).mono ?_
  rintro e w1 ⟨cv, rfl, hc, hb1⟩
  obtain ⟨co, cc, rfl, -⟩ := hc.shape
  have HV1 := Lib.hid (IsRaw.below HV.out hb1)
  have HT1 := Lib.hid (IsRaw.below HT.out hb1)
  have HS1 := Lib.hid ((HS0.out.next hb1).addDig hc)
  clear hc hb1 HS0 HV HU HT
  go_wp2_with fail
  refine (HR2.out _ HV1.out).mono ?_
  rintro e w2 ⟨dv, rfl, hd, hb2⟩
  obtain ⟨d0, dc, rfl, -⟩ := hd.shape
  have HT2 := Lib.hid (IsRaw.below HT1.out hb2)
  have HS2 := Lib.hid ((HS1.out.next hb2).addDig hd)
  clear hd hb2 HS1 HV1 HR1 HR2 HT1
  have HT3 := Lib.hid (fun W (hb : Below w2.heap.size w2 W) => HR3.out W (IsRaw.below HT2.out hb))
  clear HT2 HR3
  have HTWO := Lib.hid (HTW.out _ _ _ (HS2.out.dig _ (.tail _ (.head _))) (HS2.out.dig _ (.head _)))
  go_wp2_with fail
  refine HTWO.out.mono ?_
  rintro e w3 ⟨vx, vy, rfl, hx, hy, hb⟩
  obtain ⟨xo, xc, rfl, -⟩ := hx.shape
  obtain ⟨yo, yc, rfl, -⟩ := hy.shape
  have hs := ((((HS2.out.next hb).addNum hx).addNum hy).boxed (.slice xo (nd 4294967296 a) xc) 28).boxed (.slice yo (nd 4294967296 b) yc) 28
  simp only [World.size_alloc] at hs
  have HS3 := Lib.hid hs
  have HT4 := Lib.hid (HT3.out _ ((hb.alloc hb.size (.cells #[.slice xo (nd 4294967296 a) xc] 28)).alloc (by simp; exact Nat.le_succ_of_le hb.size) (.cells #[.slice yo (nd 4294967296 b) yc] 28)))
  clear hs hb hx hy HS2 HTWO HT3
  go_wp2_with fail
  refine HT4.out.mono ?_
  rintro e w4 ⟨ev, rfl, hz, hb⟩
  obtain ⟨e0, ec, rfl, -⟩ := hz.shape
  have HS4 := Lib.hid ((HS3.out.next hb).addDig hz)
  clear hz hb HS3 HT4
  go_wp2_with fail
  refine (HMD.out _ _ (HS4.out.dig _ (.head _))).mono ?_
  rintro e w5 ⟨vz, rfl, hz, hb⟩
  obtain ⟨zo, zc, rfl, -⟩ := hz.shape
  have hs := ((HS4.out.next hb).addNum hz).boxed (.slice zo (nd 4294967296 (c)) zc) 28
  have HS5 := Lib.hid hs
  clear hs hb hz HS4
  have cx := HS5.out.cell (.tail _ (.tail _ (.head _)))
  have cy := HS5.out.cell (.tail _ (.head _))
  go_wp2_with fail
  refine (HA1.out _ _ _ (HS5.out.num _ (.tail _ (.tail _ (.head _)))) (HS5.out.num _ (.tail _ (.head _)))).mono ?_
  rintro e w6 ⟨vss, rfl, hss, hb⟩
  obtain ⟨sso, ssc, rfl, -⟩ := hss.shape
  have hs := ((HS5.out.next hb).addNum hss).boxed (.slice sso (nd 4294967296 (Ns)) ssc) 28
  have HS6 := Lib.hid hs
  clear hs hb hss HS5
  clear cx cy
  have cy := HS6.out.cell (.tail _ (.tail _ (.head _)))
  have cx := HS6.out.cell (.tail _ (.tail _ (.tail _ (.head _))))
  go_wp2_with fail
  refine (HA2.out _ _ _ (HS6.out.num _ (.tail _ (.tail _ (.head _)))) (HS6.out.num _ (.tail _ (.tail _ (.tail _ (.head _)))))).mono ?_
  rintro e w7 ⟨vtt, rfl, htt, hb⟩
  obtain ⟨tto, ttc, rfl, -⟩ := htt.shape
  have hs := ((HS6.out.next hb).addNum htt).boxed (.slice tto (nd 4294967296 (Ns)) ttc) 28
  have HS7 := Lib.hid hs
  clear hs hb htt HS6
  clear cy cx
  have css := HS7.out.cell (.tail _ (.head _))
  have cz := HS7.out.cell (.tail _ (.tail _ (.head _)))
  go_wp2_with fail
  refine (HA3.out _ _ _ (HS7.out.num _ (.tail _ (.head _))) (HS7.out.num _ (.tail _ (.tail _ (.head _))))).mono ?_
  rintro e w8 ⟨vu, rfl, hu, hb⟩
  obtain ⟨uo, uc, rfl, -⟩ := hu.shape
  have hs := ((HS7.out.next hb).addNum hu).boxed (.slice uo (nd 4294967296 (Nabc)) uc) 28
  have HS8 := Lib.hid hs
  clear hs hb hu HS7
  clear css cz
  have cy := HS8.out.cell (.tail _ (.tail _ (.tail _ (.tail _ (.head _)))))
  have cz := HS8.out.cell (.tail _ (.tail _ (.tail _ (.head _))))
  go_wp2_with fail
  refine (HA4.out _ _ _ (HS8.out.num _ (.tail _ (.tail _ (.tail _ (.tail _ (.head _)))))) (HS8.out.num _ (.tail _ (.tail _ (.tail _ (.head _)))))).mono ?_
  rintro e w9 ⟨vv, rfl, hv, hb⟩
  obtain ⟨vo, vc, rfl, -⟩ := hv.shape
  have hs := ((HS8.out.next hb).addNum hv).boxed (.slice vo (nd 4294967296 (Nbc)) vc) 28
  have HS9 := Lib.hid hs
  clear hs hb hv HS8
  clear cy cz
  have cx := HS9.out.cell (.tail _ (.tail _ (.tail _ (.tail _ (.tail _ (.tail _ (.head _)))))))
  have cv := HS9.out.cell (.head _)
  go_wp2_with fail
  refine (HA5.out _ _ _ (HS9.out.num _ (.tail _ (.tail _ (.tail _ (.tail _ (.tail _ (.tail _ (.head _)))))))) (HS9.out.num _ (.head _))).mono ?_
  rintro e w10 ⟨vw, rfl, hw, hb⟩
  obtain ⟨wo, wc, rfl, -⟩ := hw.shape
  have hs := ((HS9.out.next hb).addNum hw).boxed (.slice wo (nd 4294967296 (Nabc)) wc) 28
  have HS10 := Lib.hid hs
  clear hs hb hw HS9
  clear cx cv
  have cx := HS10.out.cell (.tail _ (.tail _ (.tail _ (.tail _ (.tail _ (.tail _ (.tail _ (.head _))))))))
  have cy := HS10.out.cell (.tail _ (.tail _ (.tail _ (.tail _ (.tail _ (.tail _ (.head _)))))))
  go_wp2_with fail
  refine (HM1.out _ _ _ (HS10.out.num _ (.tail _ (.tail _ (.tail _ (.tail _ (.tail _ (.tail _ (.tail _ (.head _))))))))) (HS10.out.num _ (.tail _ (.tail _ (.tail _ (.tail _ (.tail _ (.tail _ (.head _))))))))).mono ?_
  rintro e w11 ⟨vp, rfl, hp, hb⟩
  obtain ⟨po, pc, rfl, -⟩ := hp.shape
  have hs := ((HS10.out.next hb).addNum hp).boxed (.slice po (nd 4294967296 (Np)) pc) 28
  have HS11 := Lib.hid hs
  clear hs hb hp HS10
  clear cx cy
  have cy := HS11.out.cell (.tail _ (.tail _ (.tail _ (.tail _ (.tail _ (.tail _ (.tail _ (.head _))))))))
  have cx := HS11.out.cell (.tail _ (.tail _ (.tail _ (.tail _ (.tail _ (.tail _ (.tail _ (.tail _ (.head _)))))))))
  go_wp2_with fail
  refine (HM2.out _ _ _ (HS11.out.num _ (.tail _ (.tail _ (.tail _ (.tail _ (.tail _ (.tail _ (.tail _ (.head _))))))))) (HS11.out.num _ (.tail _ (.tail _ (.tail _ (.tail _ (.tail _ (.tail _ (.tail _ (.tail _ (.head _))))))))))).mono ?_
  rintro e w12 ⟨vq, rfl, hq, hb⟩
  obtain ⟨qo, qc, rfl, -⟩ := hq.shape
  have hs := ((HS11.out.next hb).addNum hq).boxed (.slice qo (nd 4294967296 (Np)) qc) 28
  have HS12 := Lib.hid hs
  clear hs hb hq HS11
  clear cy cx
  have cp := HS12.out.cell (.tail _ (.head _))
  have cz := HS12.out.cell (.tail _ (.tail _ (.tail _ (.tail _ (.tail _ (.tail _ (.tail _ (.head _))))))))
  go_wp2_with fail
  refine (HM3.out _ _ _ (HS12.out.num _ (.tail _ (.head _))) (HS12.out.num _ (.tail _ (.tail _ (.tail _ (.tail _ (.tail _ (.tail _ (.tail _ (.head _)))))))))).mono ?_
  rintro e w13 ⟨vl, rfl, hl, hb⟩
  obtain ⟨lo, lc, rfl, -⟩ := hl.shape
  have hs := ((HS12.out.next hb).addNum hl).boxed (.slice lo (nd 4294967296 (Npc)) lc) 28
  have HS13 := Lib.hid hs
  clear hs hb hl HS12
  clear cp cz
  have cy := HS13.out.cell (.tail _ (.tail _ (.tail _ (.tail _ (.tail _ (.tail _ (.tail _ (.tail _ (.tail _ (.head _))))))))))
  have cz := HS13.out.cell (.tail _ (.tail _ (.tail _ (.tail _ (.tail _ (.tail _ (.tail _ (.tail _ (.head _)))))))))
  go_wp2_with fail
  refine (HM4.out _ _ _ (HS13.out.num _ (.tail _ (.tail _ (.tail _ (.tail _ (.tail _ (.tail _ (.tail _ (.tail _ (.tail _ (.head _))))))))))) (HS13.out.num _ (.tail _ (.tail _ (.tail _ (.tail _ (.tail _ (.tail _ (.tail _ (.tail _ (.head _))))))))))).mono ?_
  rintro e w14 ⟨vm, rfl, hm, hb⟩
  obtain ⟨mo, mc, rfl, -⟩ := hm.shape
  have hs := ((HS13.out.next hb).addNum hm).boxed (.slice mo (nd 4294967296 (Nm)) mc) 28
  have HS14 := Lib.hid hs
  clear hs hb hm HS13
  clear cy cz
  have cx := HS14.out.cell (.tail _ (.tail _ (.tail _ (.tail _ (.tail _ (.tail _ (.tail _ (.tail _ (.tail _ (.tail _ (.tail _ (.head _))))))))))))
  have cm := HS14.out.cell (.head _)
  go_wp2_with fail
  refine (HM5.out _ _ _ (HS14.out.num _ (.tail _ (.tail _ (.tail _ (.tail _ (.tail _ (.tail _ (.tail _ (.tail _ (.tail _ (.tail _ (.tail _ (.head _))))))))))))) (HS14.out.num _ (.head _))).mono ?_
  rintro e w15 ⟨vn, rfl, hn, hb⟩
  obtain ⟨no, nc, rfl, -⟩ := hn.shape
  have hs := ((HS14.out.next hb).addNum hn).boxed (.slice no (nd 4294967296 (Npc)) nc) 28
  have HS15 := Lib.hid hs
  clear hs hb hn HS14
  clear cx cm
  have css := HS15.out.cell (.tail _ (.tail _ (.tail _ (.tail _ (.tail _ (.tail _ (.tail _ (.tail _ (.tail _ (.head _))))))))))
  have cz := HS15.out.cell (.tail _ (.tail _ (.tail _ (.tail _ (.tail _ (.tail _ (.tail _ (.tail _ (.tail _ (.tail _ (.head _)))))))))))
  go_wp2_with fail
  refine (HM6.out _ _ _ (HS15.out.num _ (.tail _ (.tail _ (.tail _ (.tail _ (.tail _ (.tail _ (.tail _ (.tail _ (.tail _ (.head _))))))))))) (HS15.out.num _ (.tail _ (.tail _ (.tail _ (.tail _ (.tail _ (.tail _ (.tail _ (.tail _ (.tail _ (.tail _ (.head _))))))))))))).mono ?_
  rintro e w16 ⟨vi, rfl, hi, hb⟩
  obtain ⟨io, ic, rfl, -⟩ := hi.shape
  have hs := ((HS15.out.next hb).addNum hi).boxed (.slice io (nd 4294967296 (Nsc)) ic) 28
  have HS16 := Lib.hid hs
  clear hs hb hi HS15
  clear css cz
  have cx := HS16.out.cell (.tail _ (.tail _ (.tail _ (.tail _ (.tail _ (.tail _ (.tail _ (.tail _ (.tail _ (.tail _ (.tail _ (.tail _ (.tail _ (.head _))))))))))))))
  have cz := HS16.out.cell (.tail _ (.tail _ (.tail _ (.tail _ (.tail _ (.tail _ (.tail _ (.tail _ (.tail _ (.tail _ (.tail _ (.head _))))))))))))
  go_wp2_with fail
  refine (HM7.out _ _ _ (HS16.out.num _ (.tail _ (.tail _ (.tail _ (.tail _ (.tail _ (.tail _ (.tail _ (.tail _ (.tail _ (.tail _ (.tail _ (.tail _ (.tail _ (.head _))))))))))))))) (HS16.out.num _ (.tail _ (.tail _ (.tail _ (.tail _ (.tail _ (.tail _ (.tail _ (.tail _ (.tail _ (.tail _ (.tail _ (.head _)))))))))))))).mono ?_
  rintro e w17 ⟨vj, rfl, hj, hb⟩
  obtain ⟨jo, jc, rfl, -⟩ := hj.shape
  have hs := ((HS16.out.next hb).addNum hj).boxed (.slice jo (nd 4294967296 (Nj)) jc) 28
  have HS17 := Lib.hid hs
  clear hs hb hj HS16
  clear cx cz
  have cj := HS17.out.cell (.head _)
  have cm := HS17.out.cell (.tail _ (.tail _ (.tail _ (.head _))))
  go_wp2_with fail
  refine (HA6.out _ _ _ (HS17.out.num _ (.head _)) (HS17.out.num _ (.tail _ (.tail _ (.tail _ (.head _)))))).mono ?_
  rintro e w18 ⟨vk, rfl, hk, hb⟩
  obtain ⟨ko, kc, rfl, -⟩ := hk.shape
  have hs := ((HS17.out.next hb).addNum hk).boxed (.slice ko (nd 4294967296 (Nsc)) kc) 28
  have HS18 := Lib.hid hs
  clear hs hb hk HS17
  clear cj cm
  have hsE := HS18.out.alloc (.cells #[.int .i64 0, .int .i64 0, .int .i64 0, .int .i64 0, .int .i64 0, .int .i64 0, .int .i64 0, .int .i64 0, .int .i64 0, .int .i64 0, .int .i64 0, .int .i64 0, .int .i64 0] 31)
  have hcE : ∀ k, k < 13 → ((w18.alloc (.cells #[.slice ko (nd 4294967296 Nsc) kc] 28)).alloc (.cells #[.int .i64 0, .int .i64 0, .int .i64 0, .int .i64 0, .int .i64 0, .int .i64 0, .int .i64 0, .int .i64 0, .int .i64 0, .int .i64 0, .int .i64 0, .int .i64 0, .int .i64 0] 31)).cell? ⟨w18.heap.size + 1, k, none⟩ = some (.int .i64 0) := fun k hk => by
    rw [World.cell?_alloc_at _ _ _ _ (by simp)]
    match k, hk with
    | 0, _ | 1, _ | 2, _ | 3, _ | 4, _ | 5, _ | 6, _ | 7, _ | 8, _ | 9, _ | 10, _ | 11, _ | 12, _ => rfl
  clear HA1 HA2 HA3 HA4 HA5 HA6 HM1 HM2 HM3 HM4 HM5 HM6 HM7 HMD HTW
  go_wp2
  generalize (w18.alloc (.cells #[.slice ko (nd 4294967296 Nsc) kc] 28)).alloc (.cells #[.int .i64 0, .int .i64 0, .int .i64 0, .int .i64 0, .int .i64 0, .int .i64 0, .int .i64 0, .int .i64 0, .int .i64 0, .int .i64 0, .int .i64 0, .int .i64 0, .int .i64 0] 31) = WE at *
  have HSE := Lib.hid hsE
  have HCE := Lib.hid hcE
  clear hsE hcE HS18
  go_loop [150] (fun t => ∃ k : Nat, k ≤ 13 ∧ t = .int .i64 k) (fun t => 13 - (intOf t).toNat)
  case atStart => exact ⟨0, by omega, rfl⟩
  case round =>
    obtain ⟨k, hk, rfl⟩ := hrel
    by_cases hlt : k < 13
    · have hce := HCE.out k hlt
      have hk1 : (k : Int) < 13 := by omega
      go_wp2
      go_round
      case rel => exact ⟨k + 1, by omega, by go_num⟩
      case measure => simp [intOf]; omega
    · obtain rfl : k = 13 := by omega
      clear hlt hk
      have HS19 := HSE
      have css := HS19.out.cell (.tail _ (.tail _ (.tail _ (.tail _ (.tail _ (.tail _ (.tail _ (.tail _ (.tail _ (.tail _ (.tail _ (.tail _ (.head _)))))))))))))
      have ctt := HS19.out.cell (.tail _ (.tail _ (.tail _ (.tail _ (.tail _ (.tail _ (.tail _ (.tail _ (.tail _ (.tail _ (.tail _ (.head _))))))))))))
      go_wp2_with fail
      refine (HCM.out _ _ _ _ _ _ _ HS19.out (.tail _ (.tail _ (.tail _ (.tail _ (.tail _ (.tail _ (.tail _ (.tail _ (.tail _ (.tail _ (.tail _ (.tail _ (.head _))))))))))))) (.tail _ (.tail _ (.tail _ (.tail _ (.tail _ (.tail _ (.tail _ (.tail _ (.tail _ (.tail _ (.tail _ (.head _)))))))))))) H4.out).mono ?_
      rintro e w19 ⟨rfl, hs⟩
      have HS20 := Lib.hid hs
      clear hs HS19
      clear css ctt
      have cu := HS20.out.cell (.tail _ (.tail _ (.tail _ (.tail _ (.tail _ (.tail _ (.tail _ (.tail _ (.tail _ (.tail _ (.head _)))))))))))
      have cw := HS20.out.cell (.tail _ (.tail _ (.tail _ (.tail _ (.tail _ (.tail _ (.tail _ (.tail _ (.head _)))))))))
      go_wp2_with fail
      refine (HCM.out _ _ _ _ _ _ _ HS20.out (.tail _ (.tail _ (.tail _ (.tail _ (.tail _ (.tail _ (.tail _ (.tail _ (.tail _ (.tail _ (.head _))))))))))) (.tail _ (.tail _ (.tail _ (.tail _ (.tail _ (.tail _ (.tail _ (.tail _ (.head _))))))))) H5.out).mono ?_
      rintro e w20 ⟨rfl, hs⟩
      have HS21 := Lib.hid hs
      clear hs HS20
      clear cu cw
      have cp := HS21.out.cell (.tail _ (.tail _ (.tail _ (.tail _ (.tail _ (.tail _ (.tail _ (.head _))))))))
      have cq := HS21.out.cell (.tail _ (.tail _ (.tail _ (.tail _ (.tail _ (.tail _ (.head _)))))))
      go_wp2_with fail
      refine (HCM.out _ _ _ _ _ _ _ HS21.out (.tail _ (.tail _ (.tail _ (.tail _ (.tail _ (.tail _ (.tail _ (.head _)))))))) (.tail _ (.tail _ (.tail _ (.tail _ (.tail _ (.tail _ (.head _))))))) H6.out).mono ?_
      rintro e w21 ⟨rfl, hs⟩
      have HS22 := Lib.hid hs
      clear hs HS21
      clear cp cq
      have cl := HS22.out.cell (.tail _ (.tail _ (.tail _ (.tail _ (.tail _ (.head _))))))
      have cn := HS22.out.cell (.tail _ (.tail _ (.tail _ (.head _))))
      go_wp2_with fail
      refine (HCM.out _ _ _ _ _ _ _ HS22.out (.tail _ (.tail _ (.tail _ (.tail _ (.tail _ (.head _)))))) (.tail _ (.tail _ (.tail _ (.head _)))) H7.out).mono ?_
      rintro e w22 ⟨rfl, hs⟩
      have HS23 := Lib.hid hs
      clear hs HS22
      clear cl cn
      have ci := HS23.out.cell (.tail _ (.tail _ (.head _)))
      have ck := HS23.out.cell (.head _)
      go_wp2_with fail
      refine (HCM.out _ _ _ _ _ _ _ HS23.out (.tail _ (.tail _ (.head _))) (.head _) H8.out).mono ?_
      rintro e w23 ⟨rfl, hs⟩
      have HS24 := Lib.hid hs
      clear hs HS23
      clear ci ck
      go_wp2_with fail
      refine (awake_K HS24.out).mono ?_
      rintro e w24 ⟨rfl, hs⟩
      have HS25 := Lib.hid hs
      clear hs HS24
      go_wp2
      go_ret
      exact ⟨by simp, HS25.out.bel⟩
end Go.Proofs.YtmbgnkgjmmhncaaDoor
