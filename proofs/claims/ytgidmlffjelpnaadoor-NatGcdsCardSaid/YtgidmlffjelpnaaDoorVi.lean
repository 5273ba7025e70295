/- The law NatGcds: the walk. -/
import Derived.Test.YtgidmlffjelpnaaDoorVa
import Derived.Test.YtgidmlffjelpnaaDoorSm
import Derived.Test.YtgidmlffjelpnaaDoorKp
namespace Go.Proofs.YtgidmlffjelpnaaDoor
open Go Go.RowKit Gu

set_option maxHeartbeats 4000000 in
set_option maxRecDepth 100000 in
theorem natGcds_walk (u0 u1 : Value) (xs0 xs1 : List Nat) (w : World) (hu0 : IsRaw w u0 xs0) (hu1 : IsRaw w u1 xs1) (hl0 : xs0.length ≤ maxLen) (hl1 : xs1.length ≤ maxLen) (he : Env w) :
    Calls Tryd.prog 8 #[u0, u1] w fun e w' => e = .returned (.bool true) ∧ Below w.heap.size w w' := by
  have HR0 := Lib.hid (fun W (h : IsRaw W u0 xs0) => Raw_any u0 xs0 40 W h hl0 (by decide))
  have hna := rawN_nd hu0.1 40
  generalize rawN xs0 40 = a at *
  have HU0 := Lib.hid hu0
  have h32a := nd_32 hna
  have HR1 := Lib.hid (fun W (h : IsRaw W u1 xs1) => Raw_any u1 xs1 40 W h hl1 (by decide))
  have hnb := rawN_nd hu1.1 40
  generalize rawN xs1 40 = b at *
  have HU1 := Lib.hid hu1
  have h32b := nd_32 hnb
  have HS0 := Lib.hid (Kp.start he)
  obtain ⟨uo0, uc0, rfl, -⟩ := hu0.shape
  obtain ⟨uo1, uc1, rfl, -⟩ := hu1.shape
  clear he hu0 hl0 hu1 hl1
  have hG16 : nd 65536 (Nat.gcd a b) ≤ 40 := by
    rcases Nat.eq_zero_or_pos a with h | h
    · subst h; rw [Nat.gcd_zero_left]; exact hnb
    · exact Nat.le_trans (nd_mono (by decide) (Nat.gcd_le_left _ h)) hna
  have hG32 := nd_32 hG16
  have HRG := Lib.hid (fun W v u (h1 : R W v a) (h2 : R W u b) => RGcd_any v u a b W h1 h2 (by omega) (by omega))
  have HG1 := Lib.hid (fun W v u (h1 : D W v a) (h2 : D W u b) => NGcd_any v u a b W h1 h2 (by omega) (by omega))
  have HG2 := Lib.hid (fun W v u (h1 : D W v b) (h2 : D W u a) => NGcd_any v u b a W h1 h2 (by omega) (by omega))
  rw [Nat.gcd_comm b a] at HG2
  generalize Nat.gcd a b = G at *
  go_enter Tryd.func8, Tryd.ntmps8
  go_wp2_with fail
  refine (HR0.out _ HU0.out).mono ?_
  rintro e w1 ⟨cv, rfl, hc, hb⟩
  obtain ⟨co, cc, rfl, -⟩ := hc.shape
  have hu := IsRaw.below HU1.out hb
  clear HU1
  have HU1 := Lib.hid hu
  clear hu
  have HS1 := Lib.hid ((HS0.out.next hb).addDig hc)
  clear hc hb HS0 HU0 HR0
  go_wp2_with fail
  refine (HR1.out _ HU1.out).mono ?_
  rintro e w2 ⟨lv, rfl, hl, hb⟩
  obtain ⟨lo, lc, rfl, -⟩ := hl.shape
  have HS2 := Lib.hid ((HS1.out.next hb).addDig hl)
  clear hl hb HS1 HU1 HR1
  go_wp2_with fail
  refine (two_any _ _ a b _ (HS2.out.dig _ (.tail _ (.head _))) (HS2.out.dig _ (.head _)) (by omega) (by omega)).mono ?_
  rintro e w3 ⟨vx, vy, rfl, hx, hy, hb⟩
  obtain ⟨xo, xc, rfl, -⟩ := hx.shape
  obtain ⟨yo, yc, rfl, -⟩ := hy.shape
  have hs := ((((HS2.out.next hb).addNum hx).addNum hy).boxed (.slice xo (nd 4294967296 (a)) xc) 26).boxed (.slice yo (nd 4294967296 (b)) yc) 26
  simp only [World.size_alloc] at hs
  have HS3 := Lib.hid hs
  clear hs hb hx hy HS2
  go_wp2_with fail
  refine (HRG.out _ _ _ (HS3.out.dig _ (.tail _ (.head _))) (HS3.out.dig _ (.head _))).mono ?_
  rintro e w4 ⟨vg, rfl, hg, hb⟩
  obtain ⟨go, gc, rfl, -⟩ := hg.shape
  have HS4 := Lib.hid ((HS3.out.next hb).addDig hg)
  clear hb hg HS3
  have cx := HS4.out.cell (.tail _ (.head _))
  have cy := HS4.out.cell (.head _)
  go_wp2_with fail
  refine (HG1.out _ _ _ (HS4.out.num _ (.tail _ (.head _))) (HS4.out.num _ (.head _))).mono ?_
  rintro e w5 ⟨vp, rfl, hp, hb⟩
  obtain ⟨po, pc, rfl, -⟩ := hp.shape
  have hs := (HS4.out.next hb).addNum hp
  have HS5 := Lib.hid hs
  clear hs hb hp HS4
  clear cx cy
  have hto := is_any _ _ (G) _ (HS5.out.num _ (.head _)) (HS5.out.dig _ (.head _)) (by omega) (by omega) HS5.out.env
  have HTO := Lib.hid (hto.mono fun e w' h => And.intro h.1 (HS5.out.next h.2))
  clear hto
  have cx := HS5.out.cell (.tail _ (.head _))
  have cy := HS5.out.cell (.head _)
  go_wp2_with fail
  refine (HTO.out).mono ?_
  rintro e w6 ⟨rfl, hs⟩
  have HS6 := Lib.hid hs
  clear hs HS5
  clear cx cy HTO
  have cx := HS6.out.cell (.tail _ (.head _))
  have cy := HS6.out.cell (.head _)
  go_wp2_with fail
  refine (HG2.out _ _ _ (HS6.out.num _ (.tail _ (.head _))) (HS6.out.num _ (.tail _ (.tail _ (.head _))))).mono ?_
  rintro e w7 ⟨vq, rfl, hq, hb⟩
  obtain ⟨qo, qc, rfl, -⟩ := hq.shape
  have hs := (HS6.out.next hb).addNum hq
  have HS7 := Lib.hid hs
  clear hs hb hq HS6
  clear cx cy
  have hto := is_any _ _ (G) _ (HS7.out.num _ (.head _)) (HS7.out.dig _ (.head _)) (by omega) (by omega) HS7.out.env
  have HTO := Lib.hid (hto.mono fun e w' h => And.intro h.1 (HS7.out.next h.2))
  clear hto
  have cx := HS7.out.cell (.tail _ (.head _))
  have cy := HS7.out.cell (.head _)
  go_wp2_with fail
  refine (HTO.out).mono ?_
  rintro e w8 ⟨rfl, hs⟩
  have HS8 := Lib.hid hs
  clear hs HS7
  clear cx cy HTO
  go_wp2_with fail
  refine (awake_K HS8.out).mono ?_
  rintro e w9 ⟨rfl, hs⟩
  have HS9 := Lib.hid hs
  clear hs HS8
  go_wp2
  go_ret
  exact ⟨by simp, HS9.out.bel⟩
end Go.Proofs.YtgidmlffjelpnaaDoor
