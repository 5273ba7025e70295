/- The law NatDivides: the walk. -/
import Derived.Test.YtmbgnkgjmmhncabDoorVa
import Derived.Test.YtmbgnkgjmmhncabDoorSh
namespace Go.Proofs.YtmbgnkgjmmhncabDoor
open Go Go.RowKit Gu

set_option maxHeartbeats 4000000 in
set_option maxRecDepth 100000 in
theorem natDivides_walk (u v : Value) (xs ys : List Nat) (w : World) (hu : IsRaw w u xs) (hv : IsRaw w v ys) (hl1 : xs.length ≤ maxLen) (hl2 : ys.length ≤ maxLen) (he : Env w) :
    Calls Tryd.prog 4 #[u, v] w fun e w' => e = .returned (.bool true) ∧ Below w.heap.size w w' := by
  have HR1 := Lib.hid (fun W (h : IsRaw W u xs) => Raw_any u xs 80 W h hl1 (by decide))
  have HR2 := Lib.hid (fun W (h : IsRaw W v ys) => Raw_any v ys 80 W h hl2 (by decide))
  have hna := rawN_nd hu.1 80
  have hnb := rawN_nd hv.1 80
  generalize rawN xs 80 = a at *
  generalize rawN ys 80 = b at *
  have HU := Lib.hid hu
  have HV := Lib.hid hv
  have HS0 := Lib.hid (Kp.start he)
  obtain ⟨uo, uc, rfl, -⟩ := hu.shape
  obtain ⟨vo, vc, rfl, -⟩ := hv.shape
  have ha32 := nd_32 hna
  have hb32 := nd_32 hnb
  clear hu hv he hl1 hl2
  go_enter Tryd.func4, Tryd.ntmps4
  go_wp2_with fail
  refine (HR1.out _ HU.out).mono ?_
  rintro e w1 ⟨cv, rfl, hc, hb1⟩
  obtain ⟨co, cc, rfl, -⟩ := hc.shape
  have HV1 := Lib.hid (IsRaw.below HV.out hb1)
  have HS1 := Lib.hid ((HS0.out.next hb1).addDig hc)
  clear hc hb1 HS0 HV HU
  go_wp2_with fail
  refine (HR2.out _ HV1.out).mono ?_
  rintro e w2 ⟨dv, rfl, hd, hb2⟩
  obtain ⟨d0, dc, rfl, -⟩ := hd.shape
  have HS2 := Lib.hid ((HS1.out.next hb2).addDig hd)
  clear hd hb2 HS1 HV1 HR1 HR2
  go_wp2_with fail
  refine (two_any _ _ a b w2 (HS2.out.dig _ (.tail _ (.head _))) (HS2.out.dig _ (.head _)) (by omega) (by omega)).mono ?_
  rintro e w3 ⟨xv, yv, rfl, hx, hy, hb3⟩
  obtain ⟨xo, xc, rfl, -⟩ := hx.shape
  obtain ⟨yo, yc, rfl, -⟩ := hy.shape
  have hs4 := ((((HS2.out.next hb3).addNum hx).addNum hy).boxed (.slice xo (nd 4294967296 a) xc) 26).boxed (.slice yo (nd 4294967296 b) yc) 26
  simp only [World.size_alloc] at hs4
  have HS4 := Lib.hid hs4
  clear hx hy hb3 hs4 HS2
  go_wp2_with fail
  refine (NDivMod_any _ _ a b _ (HS4.out.num _ (.tail _ (.head _))) (HS4.out.num _ (.head _)) (by omega) (by omega)).mono ?_
  rintro e w4 ⟨qv, rv, rfl, hq, hr, hb4⟩
  obtain ⟨qo, qc, rfl, -⟩ := hq.shape
  obtain ⟨ro, rc, rfl, -⟩ := hr.shape
  have hs5 := ((((HS4.out.next hb4).addNum hq).addNum hr).boxed (.slice qo (nd 4294967296 (a / b)) qc) 26).boxed (.slice ro (nd 4294967296 (modN a b)) rc) 26
  simp only [World.size_alloc] at hs5
  have HS5 := Lib.hid hs5
  clear hq hr hb4 HS4 hs5
  by_cases hb0 : b = 0
  · skip
    have hE : divE b = 11 := if_pos hb0
    have hq0 : a / b = 0 := by rw [hb0, Nat.div_zero]
    have hr0 : modN a b = 0 := if_pos hb0
    have hl0 : nd 65536 b = 0 := by rw [hb0, nd_zero]
    have HT1 := Lib.hid (fun W (h : D W (.slice qo (nd 4294967296 (a / b)) qc) (a / b)) (he : Env W) => (by rw [hq0] at h ⊢; exact told_err2 _ (.slice none 0 0) 11 W h (by decide) he :
      Calls Tryd.prog 16 #[.agg #[.slice qo (nd 4294967296 (a / b)) qc], .int .i64 11, .slice none 0 0, .int .i64 11] W fun e w' => e = .returned (.bool true) ∧ Below W.heap.size W w'))
    have HT2 := Lib.hid (fun W (h : D W (.slice ro (nd 4294967296 (modN a b)) rc) (modN a b)) (he : Env W) => (by rw [hr0] at h ⊢; exact told_err2 _ (.slice none 0 0) 11 W h (by decide) he :
      Calls Tryd.prog 16 #[.agg #[.slice ro (nd 4294967296 (modN a b)) rc], .int .i64 11, .slice none 0 0, .int .i64 11] W fun e w' => e = .returned (.bool true) ∧ Below W.heap.size W w'))
    rw [hE, hl0]
    clear hE hq0 hr0 hl0 hb0
    have hto := HT1.out _ (HS5.out.num _ (.tail _ (.head _))) HS5.out.env
    have HTO := Lib.hid (hto.mono fun e w' h => And.intro h.1 (HS5.out.next h.2))
    clear hto
    have cq := HS5.out.cell (.tail _ (.head _))
    have cr := HS5.out.cell (.head _)
    go_wp2_with fail
    refine (HTO.out).mono ?_
    rintro e w5 ⟨rfl, hs⟩
    have HS6 := Lib.hid hs
    clear hs HS5
    clear cq cr HTO
    have hto := HT2.out _ (HS6.out.num _ (.head _)) HS6.out.env
    have HTO := Lib.hid (hto.mono fun e w' h => And.intro h.1 (HS6.out.next h.2))
    clear hto
    have cr := HS6.out.cell (.head _)
    go_wp2_with fail
    refine (HTO.out).mono ?_
    rintro e w6 ⟨rfl, hs⟩
    have HS7 := Lib.hid hs
    clear hs HS6
    clear cr HTO
    go_wp2_with fail
    refine (awake_K HS7.out).mono ?_
    rintro e w7 ⟨rfl, hs⟩
    have HS8 := Lib.hid hs
    clear hs HS7
    go_wp2
    go_ret
    exact ⟨by simp, HS8.out.bel⟩
  · skip
    have hE : divE b = 0 := if_neg hb0
    have hr0 : modN a b = a % b := if_neg hb0
    have hl0 : ¬ ((nd 65536 b : Nat) : Int) = 0 := by have := nd_pos (B := 65536) (by decide) (Nat.pos_of_ne_zero hb0); omega
    have hl1 : (((nd 65536 b : Nat) : Int) == 0) = false := by simp; omega
    have hq16 : nd 65536 (a / b) ≤ 80 := Nat.le_trans (nd_mono (by decide) (Nat.div_le_self _ _)) hna
    have hr16 : nd 65536 (modN a b) ≤ 80 := Nat.le_trans (nd_mono (by decide) (by rw [hr0]; exact Nat.mod_le _ _)) hna
    have hq32 := nd_32 hq16
    have hr32 := nd_32 hr16
    have HDM := Lib.hid (RDivMod_any _ _ a b _ (HS5.out.dig _ (.tail _ (.head _))) (HS5.out.dig _ (.head _)) (Nat.pos_of_ne_zero hb0) (by omega) (by omega))
    rw [← hr0] at HDM
    rw [hE]
    clear hE hr0 hb0
    go_wp2_with fail
    refine HDM.out.mono ?_
    rintro e w5 ⟨q2, r2, rfl, hq2, hr2, hb⟩
    obtain ⟨q2o, q2c, rfl, -⟩ := hq2.shape
    obtain ⟨r2o, r2c, rfl, -⟩ := hr2.shape
    have HS6 := Lib.hid (((HS5.out.next hb).addDig hq2).addDig hr2)
    clear hq2 hr2 hb HS5 HDM
    have hto := told_is (.slice qo (nd 4294967296 (a / b)) qc) (.slice q2o (nd 65536 (a / b)) q2c) (a / b) _ (HS6.out.num _ (.tail _ (.head _))) (HS6.out.dig _ (.tail _ (.head _))) (by omega) (by omega) HS6.out.env
    have HTO := Lib.hid (hto.mono fun e w' h => And.intro h.1 (HS6.out.next h.2))
    clear hto
    have cq := HS6.out.cell (.tail _ (.head _))
    have cr := HS6.out.cell (.head _)
    go_wp2_with fail
    refine (HTO.out).mono ?_
    rintro e w6 ⟨rfl, hs⟩
    have HS7 := Lib.hid hs
    clear hs HS6
    clear cq cr HTO
    have hto := told_is (.slice ro (nd 4294967296 (modN a b)) rc) (.slice r2o (nd 65536 (modN a b)) r2c) (modN a b) _ (HS7.out.num _ (.head _)) (HS7.out.dig _ (.head _)) (by omega) (by omega) HS7.out.env
    have HTO := Lib.hid (hto.mono fun e w' h => And.intro h.1 (HS7.out.next h.2))
    clear hto
    have cr := HS7.out.cell (.head _)
    go_wp2_with fail
    refine (HTO.out).mono ?_
    rintro e w7 ⟨rfl, hs⟩
    have HS8 := Lib.hid hs
    clear hs HS7
    clear cr HTO
    go_wp2_with fail
    refine (awake_K HS8.out).mono ?_
    rintro e w8 ⟨rfl, hs⟩
    have HS9 := Lib.hid hs
    clear hs HS8
    go_wp2
    go_ret
    exact ⟨by simp, HS9.out.bel⟩
end Go.Proofs.YtmbgnkgjmmhncabDoor
