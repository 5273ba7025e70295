/- The law NatExponents: the walk. -/
import Derived.Test.YtgidmlffjelpnaaDoorVg
import Derived.Test.YtgidmlffjelpnaaDoorVa
import Derived.Test.YtgidmlffjelpnaaDoorLd
import Derived.Test.YtgidmlffjelpnaaDoorKp
namespace Go.Proofs.YtgidmlffjelpnaaDoor
open Go Go.RowKit Gu

theorem nd_rsum' {a b m : Nat} (ha : nd 65536 a ≤ m) (hb : nd 65536 b ≤ m) : nd 65536 (a + b) ≤ m + 1 := by
  have h1 := (nd_le (by decide : 2 ≤ 65536)).1 ha
  have h2 := (nd_le (by decide : 2 ≤ 65536)).1 hb
  apply (nd_le (by decide : 2 ≤ 65536)).2
  have h3 : 65536 ^ m * 2 ≤ 65536 ^ m * 65536 := Nat.mul_le_mul_left _ (by decide)
  rw [Nat.pow_succ]; omega
theorem exp_mod (a i j m : Nat) : (a ^ i % m) * (a ^ j % m) % m = a ^ (i + j) % m := by
  rw [← Nat.mul_mod, Nat.pow_add]
set_option maxHeartbeats 4000000 in
set_option maxRecDepth 100000 in
theorem natExponents_zero (u0 u1 u2 u3 : Value) (xs0 xs1 xs2 xs3 : List Nat) (w : World) (hu0 : IsRaw w u0 xs0) (hu1 : IsRaw w u1 xs1) (hu2 : IsRaw w u2 xs2) (hu3 : IsRaw w u3 xs3) (hl0 : xs0.length ≤ maxLen) (hl1 : xs1.length ≤ maxLen) (hl2 : xs2.length ≤ maxLen) (hl3 : xs3.length ≤ maxLen) (hm0 : rawN xs3 12 = 0) (he : Env w) :
    Calls Tryd.prog 9 #[u0, u1, u2, u3] w fun e w' => e = .returned (.bool true) ∧ Below w.heap.size w w' := by
  have HR0 := Lib.hid (fun W (h : IsRaw W u0 xs0) => Raw_any u0 xs0 12 W h hl0 (by decide))
  have hna := rawN_nd hu0.1 12
  generalize rawN xs0 12 = a at *
  have HU0 := Lib.hid hu0
  have h32a := nd_32 hna
  have HR1 := Lib.hid (fun W (h : IsRaw W u1 xs1) => Raw_any u1 xs1 12 W h hl1 (by decide))
  have hni := rawN_nd hu1.1 12
  generalize rawN xs1 12 = i at *
  have HU1 := Lib.hid hu1
  have h32i := nd_32 hni
  have HR2 := Lib.hid (fun W (h : IsRaw W u2 xs2) => Raw_any u2 xs2 12 W h hl2 (by decide))
  have hnj := rawN_nd hu2.1 12
  generalize rawN xs2 12 = j at *
  have HU2 := Lib.hid hu2
  have h32j := nd_32 hnj
  have HR3 := Lib.hid (fun W (h : IsRaw W u3 xs3) => Raw_any u3 xs3 12 W h hl3 (by decide))
  have hnm := rawN_nd hu3.1 12
  generalize rawN xs3 12 = m at *
  have HU3 := Lib.hid hu3
  have h32m := nd_32 hnm
  have HS0 := Lib.hid (Kp.start he)
  obtain ⟨uo0, uc0, rfl, -⟩ := hu0.shape
  obtain ⟨uo1, uc1, rfl, -⟩ := hu1.shape
  obtain ⟨uo2, uc2, rfl, -⟩ := hu2.shape
  obtain ⟨uo3, uc3, rfl, -⟩ := hu3.shape
  clear he hu0 hl0 hu1 hl1 hu2 hl2 hu3 hl3
  have hl0 : nd 2 m = 0 := by rw [hm0, nd_zero]
  have HBL := Lib.hid (fun W v (h : D W v m) => BitLen_any v m W h (by omega))
  rw [hl0] at HBL
  clear hm0 hl0
  go_enter Tryd.func9, Tryd.ntmps9
  go_wp2_with fail
  refine (HR0.out _ (IsRaw.below HU0.out HS0.out.bel)).mono ?_
  rintro e w1 ⟨cv, rfl, hc, hb⟩
  obtain ⟨co, cc, rfl, -⟩ := hc.shape
  have HS1 := Lib.hid ((HS0.out.next hb).addDig hc)
  clear hc hb HS0 HU0 HR0
  go_wp2_with fail
  refine (HR3.out _ (IsRaw.below HU3.out HS1.out.bel)).mono ?_
  rintro e w2 ⟨lv, rfl, hl, hb⟩
  obtain ⟨lo, lc, rfl, -⟩ := hl.shape
  have HS2 := Lib.hid ((HS1.out.next hb).addDig hl)
  clear hl hb HS1 HU3 HR3
  go_wp2_with fail
  refine (two_any _ _ a m _ (HS2.out.dig _ (.tail _ (.head _))) (HS2.out.dig _ (.head _)) (by omega) (by omega)).mono ?_
  rintro e w3 ⟨vx, vn, rfl, hx, hn, hb⟩
  obtain ⟨xo, xc, rfl, -⟩ := hx.shape
  obtain ⟨no, nc, rfl, -⟩ := hn.shape
  have hs := ((((HS2.out.next hb).addNum hx).addNum hn).boxed (.slice xo (nd 4294967296 (a)) xc) 26).boxed (.slice no (nd 4294967296 (m)) nc) 26
  simp only [World.size_alloc] at hs
  have HS3 := Lib.hid hs
  clear hs hb hx hn HS2
  go_wp2_with fail
  refine (HR1.out _ (IsRaw.below HU1.out HS3.out.bel)).mono ?_
  rintro e w4 ⟨kv, rfl, hk, hb⟩
  obtain ⟨ko, kc, rfl, -⟩ := hk.shape
  have HS4 := Lib.hid ((HS3.out.next hb).addDig hk)
  clear hk hb HS3 HU1 HR1
  go_wp2_with fail
  refine (HR2.out _ (IsRaw.below HU2.out HS4.out.bel)).mono ?_
  rintro e w5 ⟨kkv, rfl, hkk, hb⟩
  obtain ⟨kko, kkc, rfl, -⟩ := hkk.shape
  have HS5 := Lib.hid ((HS4.out.next hb).addDig hkk)
  clear hkk hb HS4 HU2 HR2
  go_wp2_with fail
  refine (two_any _ _ i j _ (HS5.out.dig _ (.tail _ (.head _))) (HS5.out.dig _ (.head _)) (by omega) (by omega)).mono ?_
  rintro e w6 ⟨vp, vq, rfl, hp, hq, hb⟩
  obtain ⟨po, pc, rfl, -⟩ := hp.shape
  obtain ⟨qo, qc, rfl, -⟩ := hq.shape
  have hs := ((((HS5.out.next hb).addNum hp).addNum hq).boxed (.slice po (nd 4294967296 (i)) pc) 26).boxed (.slice qo (nd 4294967296 (j)) qc) 26
  simp only [World.size_alloc] at hs
  have HS6 := Lib.hid hs
  clear hs hb hp hq HS5
  have hto := HBL.out _ _ (HS6.out.num _ (.tail _ (.tail _ (.head _))))
  have HTO := Lib.hid (hto.mono fun e w' h => And.intro h.1 (HS6.out.next h.2))
  clear hto
  have cn := HS6.out.cell (.tail _ (.tail _ (.head _)))
  go_wp2_with fail
  refine (HTO.out).mono ?_
  rintro e w7 ⟨rfl, hs⟩
  have HS7 := Lib.hid hs
  clear hs HS6
  clear cn HTO
  go_wp2_with fail
  refine (awake_K HS7.out).mono ?_
  rintro e w8 ⟨rfl, hs⟩
  have HS8 := Lib.hid hs
  clear hs HS7
  go_wp2
  go_ret
  exact ⟨by simp, HS8.out.bel⟩
set_option maxHeartbeats 4000000 in
set_option maxRecDepth 100000 in
theorem natExponents_pos (u0 u1 u2 u3 : Value) (xs0 xs1 xs2 xs3 : List Nat) (w : World) (hu0 : IsRaw w u0 xs0) (hu1 : IsRaw w u1 xs1) (hu2 : IsRaw w u2 xs2) (hu3 : IsRaw w u3 xs3) (hl0 : xs0.length ≤ maxLen) (hl1 : xs1.length ≤ maxLen) (hl2 : xs2.length ≤ maxLen) (hl3 : xs3.length ≤ maxLen) (hm0 : 0 < rawN xs3 12) (he : Env w) :
    Calls Tryd.prog 9 #[u0, u1, u2, u3] w fun e w' => e = .returned (.bool true) ∧ Below w.heap.size w w' := by
  have HR0 := Lib.hid (fun W (h : IsRaw W u0 xs0) => Raw_any u0 xs0 12 W h hl0 (by decide))
  have hna := rawN_nd hu0.1 12
  generalize rawN xs0 12 = a at *
  have HU0 := Lib.hid hu0
  have h32a := nd_32 hna
  have HR1 := Lib.hid (fun W (h : IsRaw W u1 xs1) => Raw_any u1 xs1 12 W h hl1 (by decide))
  have hni := rawN_nd hu1.1 12
  generalize rawN xs1 12 = i at *
  have HU1 := Lib.hid hu1
  have h32i := nd_32 hni
  have HR2 := Lib.hid (fun W (h : IsRaw W u2 xs2) => Raw_any u2 xs2 12 W h hl2 (by decide))
  have hnj := rawN_nd hu2.1 12
  generalize rawN xs2 12 = j at *
  have HU2 := Lib.hid hu2
  have h32j := nd_32 hnj
  have HR3 := Lib.hid (fun W (h : IsRaw W u3 xs3) => Raw_any u3 xs3 12 W h hl3 (by decide))
  have hnm := rawN_nd hu3.1 12
  generalize rawN xs3 12 = m at *
  have HU3 := Lib.hid hu3
  have h32m := nd_32 hnm
  have HS0 := Lib.hid (Kp.start he)
  obtain ⟨uo0, uc0, rfl, -⟩ := hu0.shape
  obtain ⟨uo1, uc1, rfl, -⟩ := hu1.shape
  obtain ⟨uo2, uc2, rfl, -⟩ := hu2.shape
  obtain ⟨uo3, uc3, rfl, -⟩ := hu3.shape
  clear he hu0 hl0 hu1 hl1 hu2 hl2 hu3 hl3
  have hm2 := nd_pos (B := 2) (by decide) hm0
  have HBL := Lib.hid (fun W v (h : D W v m) => BitLen_any v m W h (by omega))
  have hmq : ((((nd 2 m : Nat)) : Int) == 0) = false := beq_eq_false_iff_ne.2 (by omega)
  generalize nd 2 m = bm at *
  have hs16 := nd_rsum' hni hnj
  have hs32 := nd_32 hs16
  have HP1 := Lib.hid (fun W v u t (h1 : D W v a) (h2 : D W u i) (h3 : D W t m) => PowMod_pos v u t a i m W h1 h2 h3 hm0 (by omega) (by omega) (by omega))
  have HP2 := Lib.hid (fun W v u t (h1 : D W v a) (h2 : D W u j) (h3 : D W t m) => PowMod_pos v u t a j m W h1 h2 h3 hm0 (by omega) (by omega) (by omega))
  have HP3 := Lib.hid (fun W v u t (h1 : D W v a) (h2 : D W u (i + j)) (h3 : D W t m) => PowMod_pos v u t a (i + j) m W h1 h2 h3 hm0 (by omega) (by omega) (by omega))
  have HAD := Lib.hid (fun W v u (h1 : D W v i) (h2 : D W u j) => Add_any v u i j W h1 h2 (by omega) (by omega))
  rw [show fitE (i + j) = 0 from if_pos (fit_ok (by omega)), show fitN (i + j) = i + j from if_pos (fit_ok (by omega))] at HAD
  have hlt : ∀ y, nd 65536 (a ^ y % m) ≤ 12 := fun y => Nat.le_trans (nd_mono (by decide) (Nat.le_of_lt (Nat.mod_lt _ hm0))) hnm
  have g1 := hlt i
  have g2 := hlt j
  have g3 := hlt (i + j)
  have k1 := nd_32 g1
  have k2 := nd_32 g2
  have k3 := nd_32 g3
  have ht16 := nd_rmul g1 g2
  have ht32 := nd_32 ht16
  have HML := Lib.hid (fun W v u (h1 : D W v (a ^ i % m)) (h2 : D W u (a ^ j % m)) => NMul_any v u _ _ W h1 h2 (by omega) (by omega))
  rw [show fitE ((a ^ i % m) * (a ^ j % m)) = 0 from if_pos (fit_ok (by omega)), show fitN ((a ^ i % m) * (a ^ j % m)) = (a ^ i % m) * (a ^ j % m) from if_pos (fit_ok (by omega))] at HML
  have HDM := Lib.hid (fun W v u (h1 : D W v ((a ^ i % m) * (a ^ j % m))) (h2 : D W u m) => NDivMod_any v u _ _ W h1 h2 (by omega) (by omega))
  rw [show divE m = 0 from if_neg (by omega), show modN ((a ^ i % m) * (a ^ j % m)) m = a ^ (i + j) % m from (if_neg (by omega)).trans (exp_mod a i j m)] at HDM
  have hc3 : cmpN ((a ^ (i + j) % m : Nat) : Int) ((m : Nat) : Int) = -1 := cmpN_lt (by have := Nat.mod_lt (a ^ (i + j)) hm0; omega)
  have HC3 := Lib.hid hc3
  clear hlt hm2 hc3
  generalize a ^ (i + j) % m = E3 at *
  generalize (a ^ i % m) * (a ^ j % m) / m = Q at *
  generalize (a ^ i % m) * (a ^ j % m) = T at *
  generalize a ^ i % m = E1 at *
  generalize a ^ j % m = E2 at *
  generalize i + j = S at *
  go_enter Tryd.func9, Tryd.ntmps9
  go_wp2_with fail
  refine (HR0.out _ (IsRaw.below HU0.out HS0.out.bel)).mono ?_
  rintro e w1 ⟨cv, rfl, hc, hb⟩
  obtain ⟨co, cc, rfl, -⟩ := hc.shape
  have HS1 := Lib.hid ((HS0.out.next hb).addDig hc)
  clear hc hb HS0 HU0 HR0
  go_wp2_with fail
  refine (HR3.out _ (IsRaw.below HU3.out HS1.out.bel)).mono ?_
  rintro e w2 ⟨lv, rfl, hl, hb⟩
  obtain ⟨lo, lc, rfl, -⟩ := hl.shape
  have HS2 := Lib.hid ((HS1.out.next hb).addDig hl)
  clear hl hb HS1 HU3 HR3
  go_wp2_with fail
  refine (two_any _ _ a m _ (HS2.out.dig _ (.tail _ (.head _))) (HS2.out.dig _ (.head _)) (by omega) (by omega)).mono ?_
  rintro e w3 ⟨vx, vn, rfl, hx, hn, hb⟩
  obtain ⟨xo, xc, rfl, -⟩ := hx.shape
  obtain ⟨no, nc, rfl, -⟩ := hn.shape
  have hs := ((((HS2.out.next hb).addNum hx).addNum hn).boxed (.slice xo (nd 4294967296 (a)) xc) 26).boxed (.slice no (nd 4294967296 (m)) nc) 26
  simp only [World.size_alloc] at hs
  have HS3 := Lib.hid hs
  clear hs hb hx hn HS2
  go_wp2_with fail
  refine (HR1.out _ (IsRaw.below HU1.out HS3.out.bel)).mono ?_
  rintro e w4 ⟨kv, rfl, hk, hb⟩
  obtain ⟨ko, kc, rfl, -⟩ := hk.shape
  have HS4 := Lib.hid ((HS3.out.next hb).addDig hk)
  clear hk hb HS3 HU1 HR1
  go_wp2_with fail
  refine (HR2.out _ (IsRaw.below HU2.out HS4.out.bel)).mono ?_
  rintro e w5 ⟨kkv, rfl, hkk, hb⟩
  obtain ⟨kko, kkc, rfl, -⟩ := hkk.shape
  have HS5 := Lib.hid ((HS4.out.next hb).addDig hkk)
  clear hkk hb HS4 HU2 HR2
  go_wp2_with fail
  refine (two_any _ _ i j _ (HS5.out.dig _ (.tail _ (.head _))) (HS5.out.dig _ (.head _)) (by omega) (by omega)).mono ?_
  rintro e w6 ⟨vp, vq, rfl, hp, hq, hb⟩
  obtain ⟨po, pc, rfl, -⟩ := hp.shape
  obtain ⟨qo, qc, rfl, -⟩ := hq.shape
  have hs := ((((HS5.out.next hb).addNum hp).addNum hq).boxed (.slice po (nd 4294967296 (i)) pc) 26).boxed (.slice qo (nd 4294967296 (j)) qc) 26
  simp only [World.size_alloc] at hs
  have HS6 := Lib.hid hs
  clear hs hb hp hq HS5
  have hto := HBL.out _ _ (HS6.out.num _ (.tail _ (.tail _ (.head _))))
  have HTO := Lib.hid (hto.mono fun e w' h => And.intro h.1 (HS6.out.next h.2))
  clear hto
  have cn := HS6.out.cell (.tail _ (.tail _ (.head _)))
  go_wp2_with fail
  refine (HTO.out).mono ?_
  rintro e w7 ⟨rfl, hs⟩
  have HS7 := Lib.hid hs
  clear hs HS6
  clear cn HTO
  have cp := HS7.out.cell (.tail _ (.head _))
  have cq := HS7.out.cell (.head _)
  go_wp2_with fail
  refine (HAD.out _ _ _ (HS7.out.num _ (.tail _ (.head _))) (HS7.out.num _ (.head _))).mono ?_
  rintro e w8 ⟨vz, rfl, hz, hb⟩
  obtain ⟨zo, zc, rfl, -⟩ := hz.shape
  have hs := ((HS7.out.next hb).addNum hz).boxed (.slice zo (nd 4294967296 (S)) zc) 26
  have HS8 := Lib.hid hs
  clear hs hb hz HS7
  clear cp cq
  have cx := HS8.out.cell (.tail _ (.tail _ (.tail _ (.tail _ (.head _)))))
  have cp := HS8.out.cell (.tail _ (.tail _ (.head _)))
  have cn := HS8.out.cell (.tail _ (.tail _ (.tail _ (.head _))))
  go_wp2_with fail
  refine (HP1.out _ _ _ _ (HS8.out.num _ (.tail _ (.tail _ (.tail _ (.tail _ (.head _)))))) (HS8.out.num _ (.tail _ (.tail _ (.head _)))) (HS8.out.num _ (.tail _ (.tail _ (.tail _ (.head _)))))).mono ?_
  rintro e w9 ⟨vu, rfl, hu, hb⟩
  obtain ⟨uo, uc, rfl, -⟩ := hu.shape
  have hs := ((HS8.out.next hb).addNum hu).boxed (.slice uo (nd 4294967296 (E1)) uc) 26
  have HS9 := Lib.hid hs
  clear hs hb hu HS8
  clear cx cp cn
  have cx := HS9.out.cell (.tail _ (.tail _ (.tail _ (.tail _ (.tail _ (.head _))))))
  have cq := HS9.out.cell (.tail _ (.tail _ (.head _)))
  have cn := HS9.out.cell (.tail _ (.tail _ (.tail _ (.tail _ (.head _)))))
  go_wp2_with fail
  refine (HP2.out _ _ _ _ (HS9.out.num _ (.tail _ (.tail _ (.tail _ (.tail _ (.tail _ (.head _))))))) (HS9.out.num _ (.tail _ (.tail _ (.head _)))) (HS9.out.num _ (.tail _ (.tail _ (.tail _ (.tail _ (.head _))))))).mono ?_
  rintro e w10 ⟨vv, rfl, hv, hb⟩
  obtain ⟨vo, vc, rfl, -⟩ := hv.shape
  have hs := ((HS9.out.next hb).addNum hv).boxed (.slice vo (nd 4294967296 (E2)) vc) 26
  have HS10 := Lib.hid hs
  clear hs hb hv HS9
  clear cx cq cn
  have cx := HS10.out.cell (.tail _ (.tail _ (.tail _ (.tail _ (.tail _ (.tail _ (.head _)))))))
  have cz := HS10.out.cell (.tail _ (.tail _ (.head _)))
  have cn := HS10.out.cell (.tail _ (.tail _ (.tail _ (.tail _ (.tail _ (.head _))))))
  go_wp2_with fail
  refine (HP3.out _ _ _ _ (HS10.out.num _ (.tail _ (.tail _ (.tail _ (.tail _ (.tail _ (.tail _ (.head _)))))))) (HS10.out.num _ (.tail _ (.tail _ (.head _)))) (HS10.out.num _ (.tail _ (.tail _ (.tail _ (.tail _ (.tail _ (.head _)))))))).mono ?_
  rintro e w11 ⟨vy, rfl, hy, hb⟩
  obtain ⟨yo, yc, rfl, -⟩ := hy.shape
  have hs := ((HS10.out.next hb).addNum hy).boxed (.slice yo (nd 4294967296 (E3)) yc) 26
  have HS11 := Lib.hid hs
  clear hs hb hy HS10
  clear cx cz cn
  have cu := HS11.out.cell (.tail _ (.tail _ (.head _)))
  have cv := HS11.out.cell (.tail _ (.head _))
  go_wp2_with fail
  refine (HML.out _ _ _ (HS11.out.num _ (.tail _ (.tail _ (.head _)))) (HS11.out.num _ (.tail _ (.head _)))).mono ?_
  rintro e w12 ⟨vt0, rfl, ht0, hb⟩
  obtain ⟨t0o, t0c, rfl, -⟩ := ht0.shape
  have hs := ((HS11.out.next hb).addNum ht0).boxed (.slice t0o (nd 4294967296 (T)) t0c) 26
  have HS12 := Lib.hid hs
  clear hs hb ht0 HS11
  clear cu cv
  have ct0 := HS12.out.cell (.head _)
  have cn := HS12.out.cell (.tail _ (.tail _ (.tail _ (.tail _ (.tail _ (.tail _ (.tail _ (.head _))))))))
  go_wp2_with fail
  refine (HDM.out _ _ _ (HS12.out.num _ (.head _)) (HS12.out.num _ (.tail _ (.tail _ (.tail _ (.tail _ (.tail _ (.tail _ (.tail _ (.head _)))))))))).mono ?_
  rintro e w13 ⟨vqq, vr, rfl, hqq, hr, hb⟩
  obtain ⟨qqo, qqc, rfl, -⟩ := hqq.shape
  obtain ⟨ro, rc, rfl, -⟩ := hr.shape
  have hs := ((((HS12.out.next hb).addNum hqq).addNum hr).boxed (.slice qqo (nd 4294967296 (Q)) qqc) 26).boxed (.slice ro (nd 4294967296 (E3)) rc) 26
  simp only [World.size_alloc] at hs
  have HS13 := Lib.hid hs
  clear hs hb hqq hr HS12
  clear ct0 cn
  have hcm := NCmp_K HS13.out (.head _) (.tail _ (.tail _ (.tail _ (.head _)))) (by omega) (by omega)
  rw [cmpN_eq rfl] at hcm
  have HCM := Lib.hid hcm
  clear hcm
  have cr := HS13.out.cell (.head _)
  have cy := HS13.out.cell (.tail _ (.tail _ (.tail _ (.head _))))
  go_wp2_with fail
  refine (HCM.out).mono ?_
  rintro e w14 ⟨rfl, hs⟩
  have HS14 := Lib.hid hs
  clear hs HS13
  clear cr cy HCM
  have hcm := NCmp_K HS14.out (.tail _ (.tail _ (.tail _ (.head _)))) (.tail _ (.tail _ (.tail _ (.tail _ (.tail _ (.tail _ (.tail _ (.tail _ (.tail _ (.head _)))))))))) (by omega) (by omega)
  rw [HC3.out] at hcm
  have HCM := Lib.hid hcm
  clear hcm
  have cy := HS14.out.cell (.tail _ (.tail _ (.tail _ (.head _))))
  have cn := HS14.out.cell (.tail _ (.tail _ (.tail _ (.tail _ (.tail _ (.tail _ (.tail _ (.tail _ (.tail _ (.head _))))))))))
  go_wp2_with fail
  refine (HCM.out).mono ?_
  rintro e w15 ⟨rfl, hs⟩
  have HS15 := Lib.hid hs
  clear hs HS14
  clear cy cn HCM
  go_wp2_with fail
  refine (awake_K HS15.out).mono ?_
  rintro e w16 ⟨rfl, hs⟩
  have HS16 := Lib.hid hs
  clear hs HS15
  go_wp2
  go_ret
  exact ⟨by simp, HS16.out.bel⟩
theorem natExponents_walk (u0 u1 u2 u3 : Value) (xs0 xs1 xs2 xs3 : List Nat) (w : World) (hu0 : IsRaw w u0 xs0) (hu1 : IsRaw w u1 xs1) (hu2 : IsRaw w u2 xs2) (hu3 : IsRaw w u3 xs3) (hl0 : xs0.length ≤ maxLen) (hl1 : xs1.length ≤ maxLen) (hl2 : xs2.length ≤ maxLen) (hl3 : xs3.length ≤ maxLen) (he : Env w) :
    Calls Tryd.prog 9 #[u0, u1, u2, u3] w fun e w' => e = .returned (.bool true) ∧ Below w.heap.size w w' := by
  rcases Nat.eq_zero_or_pos (rawN xs3 12) with h | h
  · exact natExponents_zero u0 u1 u2 u3 xs0 xs1 xs2 xs3 w hu0 hu1 hu2 hu3 hl0 hl1 hl2 hl3 h he
  · exact natExponents_pos u0 u1 u2 u3 xs0 xs1 xs2 xs3 w hu0 hu1 hu2 hu3 hl0 hl1 hl2 hl3 h he
end Go.Proofs.YtgidmlffjelpnaaDoor
