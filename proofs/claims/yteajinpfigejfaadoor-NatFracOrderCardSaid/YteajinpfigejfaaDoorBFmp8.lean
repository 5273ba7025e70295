/- WHAT IS PROVED: for any six slices of 16-bit digits (of which the first 8 count), the three fractions are compared as the document compares them, and adding a fraction keeps the order; and the few plain results of awake hold. Conditions: the listed tables of the library hold what the program's text lays (the card ties them). -/
import Derived.Test.YteajinpfigejfaaDoorBFmp7
import Derived.Test.YteajinpfigejfaaDoorBFmp2
import Derived.Test.YteajinpfigejfaaDoorRows
import Derived.ProofKit
import Derived.LaidMore
import Derived.LaidSub
import Derived.Lay
import Derived.OpenShut
import Derived.Lib.LaidTab
import Derived.Stop.Joined
import Derived.Test.YteajinpfigejfaaDoorBFmp3
import Derived.Carry
import Derived.Test.YteajinpfigejfaaDoorCards
import Derived.Test.YteajinpfigejfaaDoorTie
namespace Go.Proofs.YteajinpfigejfaaDoor
open Go Go.RowKit Gu
set_option maxHeartbeats 4000000 in
set_option maxRecDepth 100000 in
theorem natFracOrder_me (u0 u1 u2 u3 u4 u5 : Value) (xs0 xs1 xs2 xs3 xs4 xs5 : List Nat) (w : World) (hu0 : IsRaw w u0 xs0) (hu1 : IsRaw w u1 xs1) (hu2 : IsRaw w u2 xs2) (hu3 : IsRaw w u3 xs3) (hu4 : IsRaw w u4 xs4) (hu5 : IsRaw w u5 xs5) (hl0 : xs0.length ≤ maxLen) (hl1 : xs1.length ≤ maxLen) (hl2 : xs2.length ≤ maxLen) (hl3 : xs3.length ≤ maxLen) (hl4 : xs4.length ≤ maxLen) (hl5 : xs5.length ≤ maxLen) (h1 : 0 < rawN xs1 8) (h2 : 0 < rawN xs3 8) (h3 : 0 < rawN xs5 8) (hk : cmpN ((lowP (rawN xs0 8) (rawN xs1 8) * lowQ (rawN xs2 8) (rawN xs3 8) : Nat) : Int) ((lowP (rawN xs2 8) (rawN xs3 8) * lowQ (rawN xs0 8) (rawN xs1 8) : Nat) : Int) = 0) (he : Env w) :
    Calls Tryd.prog 5 #[u0, u1, u2, u3, u4, u5] w fun e w' => e = .returned (.bool true) ∧ Below w.heap.size w w' := by
  have HS0 := Lib.hid (Kq.start he)
  have hn0 := rawN_nd hu0.1 8
  have hn1 := rawN_nd hu1.1 8
  have hn2 := rawN_nd hu2.1 8
  have hn3 := rawN_nd hu3.1 8
  have hn4 := rawN_nd hu4.1 8
  have hn5 := rawN_nd hu5.1 8
  have HU0 := Lib.hid hu0
  have HU1 := Lib.hid hu1
  have HU2 := Lib.hid hu2
  have HU3 := Lib.hid hu3
  have HU4 := Lib.hid hu4
  have HU5 := Lib.hid hu5
  have HH1 := Lib.hid (fun W (i1 : IsRaw W u0 xs0) (i2 : IsRaw W u1 xs1) => half_pos u0 u1 xs0 xs1 8 W i1 i2 hl0 hl1 (by decide) h1)
  have HH2 := Lib.hid (fun W (i1 : IsRaw W u2 xs2) (i2 : IsRaw W u3 xs3) => half_pos u2 u3 xs2 xs3 8 W i1 i2 hl2 hl3 (by decide) h2)
  have HH3 := Lib.hid (fun W (i1 : IsRaw W u4 xs4) (i2 : IsRaw W u5 xs5) => half_pos u4 u5 xs4 xs5 8 W i1 i2 hl4 hl5 (by decide) h3)
  have q1 : 0 < lowQ (rawN xs0 8) (rawN xs1 8) := Nat.div_pos (Nat.gcd_le_right _ h1) (Nat.gcd_pos_of_pos_right _ h1)
  have g1 : nd 65536 (lowP (rawN xs0 8) (rawN xs1 8)) ≤ 8 := Nat.le_trans (nd_mono (by decide) (Nat.div_le_self _ _)) hn0
  have g1' : nd 65536 (lowQ (rawN xs0 8) (rawN xs1 8)) ≤ 8 := Nat.le_trans (nd_mono (by decide) (Nat.div_le_self _ _)) hn1
  have o1 : Nat.gcd (lowP (rawN xs0 8) (rawN xs1 8)) (lowQ (rawN xs0 8) (rawN xs1 8)) = 1 := low_coprime h1
  have q2 : 0 < lowQ (rawN xs2 8) (rawN xs3 8) := Nat.div_pos (Nat.gcd_le_right _ h2) (Nat.gcd_pos_of_pos_right _ h2)
  have g2 : nd 65536 (lowP (rawN xs2 8) (rawN xs3 8)) ≤ 8 := Nat.le_trans (nd_mono (by decide) (Nat.div_le_self _ _)) hn2
  have g2' : nd 65536 (lowQ (rawN xs2 8) (rawN xs3 8)) ≤ 8 := Nat.le_trans (nd_mono (by decide) (Nat.div_le_self _ _)) hn3
  have o2 : Nat.gcd (lowP (rawN xs2 8) (rawN xs3 8)) (lowQ (rawN xs2 8) (rawN xs3 8)) = 1 := low_coprime h2
  have q3 : 0 < lowQ (rawN xs4 8) (rawN xs5 8) := Nat.div_pos (Nat.gcd_le_right _ h3) (Nat.gcd_pos_of_pos_right _ h3)
  have g3 : nd 65536 (lowP (rawN xs4 8) (rawN xs5 8)) ≤ 8 := Nat.le_trans (nd_mono (by decide) (Nat.div_le_self _ _)) hn4
  have g3' : nd 65536 (lowQ (rawN xs4 8) (rawN xs5 8)) ≤ 8 := Nat.le_trans (nd_mono (by decide) (Nat.div_le_self _ _)) hn5
  have o3 : Nat.gcd (lowP (rawN xs4 8) (rawN xs5 8)) (lowQ (rawN xs4 8) (rawN xs5 8)) = 1 := low_coprime h3

  obtain ⟨uo0, uc0, rfl, -⟩ := hu0.shape
  obtain ⟨uo1, uc1, rfl, -⟩ := hu1.shape
  obtain ⟨uo2, uc2, rfl, -⟩ := hu2.shape
  obtain ⟨uo3, uc3, rfl, -⟩ := hu3.shape
  obtain ⟨uo4, uc4, rfl, -⟩ := hu4.shape
  obtain ⟨uo5, uc5, rfl, -⟩ := hu5.shape
  clear he hu0 hl0 hu1 hl1 hu2 hl2 hu3 hl3 hu4 hl4 hu5 hl5
  generalize rawN xs0 8 = a at *
  generalize rawN xs1 8 = b at *
  generalize rawN xs2 8 = c at *
  generalize rawN xs3 8 = d at *
  generalize rawN xs4 8 = m at *
  generalize rawN xs5 8 = n at *
  generalize lowP a b = P1 at *
  generalize lowQ a b = Q1 at *
  generalize lowP c d = P2 at *
  generalize lowQ c d = Q2 at *
  generalize lowP m n = P3 at *
  generalize lowQ m n = Q3 at *
  have k1 := nd_32 g1
  have k1' := nd_32 g1'
  have k2 := nd_32 g2
  have k2' := nd_32 g2'
  have k3 := nd_32 g3
  have k3' := nd_32 g3'
  obtain ⟨kx, hkx⟩ : ∃ k, k = cmpN ((P1 * Q2 : Nat) : Int) ((P2 * Q1 : Nat) : Int) := ⟨_, rfl⟩
  obtain ⟨ky, hky⟩ : ∃ k, k = cmpN ((P2 * Q3 : Nat) : Int) ((P3 * Q2 : Nat) : Int) := ⟨_, rfl⟩
  obtain ⟨kz, hkz⟩ : ∃ k, k = cmpN ((P1 * Q3 : Nat) : Int) ((P3 * Q1 : Nat) : Int) := ⟨_, rfl⟩
  obtain ⟨nx, hnx⟩ : ∃ k, k = -kx := ⟨_, rfl⟩
  have HX3 : Hid ((kx = -1 ∧ nx = 1) ∨ (kx = 0 ∧ nx = 0) ∨ (kx = 1 ∧ nx = -1)) := by
    show _ ∨ _
    rw [hnx, hkx]
    rcases cmp_three (P1 * Q2) (P2 * Q1) with h | h | h
    · exact .inl ⟨h, by rw [h]; rfl⟩
    · exact .inr (.inl ⟨h, by rw [h]; rfl⟩)
    · exact .inr (.inr ⟨h, by rw [h]⟩)
  have HY3 : Hid (ky = -1 ∨ ky = 0 ∨ ky = 1) := by rw [hky]; exact cmp_three _ _
  have HZ3 : Hid (kz = -1 ∨ kz = 0 ∨ kz = 1) := by rw [hkz]; exact cmp_three _ _
  have HTR : Hid ((kx ≤ 0 → ky ≤ 0 → kz ≤ 0) ∧ (0 ≤ kx → 0 ≤ ky → 0 ≤ kz)) := by
    refine ⟨fun h1 h2 => ?_, fun h1 h2 => ?_⟩
    · rw [hkx, cmp_le] at h1; rw [hky, cmp_le] at h2; rw [hkz, cmp_le]
      exact frac_trans q2 h1 h2
    · have e1 : -kx ≤ 0 := by omega
      have e2 : -ky ≤ 0 := by omega
      rw [hkx, ← cmp_neg, cmp_le] at e1; rw [hky, ← cmp_neg, cmp_le] at e2
      have e3 : -kz ≤ 0 := by rw [hkz, ← cmp_neg, cmp_le]; exact frac_trans q2 e2 e1
      omega
  have HST : Hid ((⟨(fracText P1 Q1).toArray⟩ : ByteArray) = ⟨(fracText P2 Q2).toArray⟩ ↔ kx = 0) := by rw [hkx]; exact frac_text_cmp o1 o2 q1 q2
  have mm1 := nd_rmul g1 g3'
  have mm2 := nd_rmul g3 g1'
  have mm3 := nd_rmul g1' g3'
  have mm4 := nd_radd' mm1 mm2
  have mm5 := nd_rmul g2 g3'
  have mm6 := nd_rmul g3 g2'
  have mm7 := nd_rmul g2' g3'
  have mm8 := nd_radd' mm5 mm6
  have p13 : 0 < Q1 * Q3 := Nat.mul_pos q1 q3
  have p23 : 0 < Q2 * Q3 := Nat.mul_pos q2 q3
  have HCS : cmpN ((lowP (P1 * Q3 + P3 * Q1) (Q1 * Q3) * lowQ (P2 * Q3 + P3 * Q2) (Q2 * Q3) : Nat) : Int) ((lowP (P2 * Q3 + P3 * Q2) (Q2 * Q3) * lowQ (P1 * Q3 + P3 * Q1) (Q1 * Q3) : Nat) : Int) = kx := by rw [cmp_low p13 p23, cmp_plus q3, hkx]
  have s2p : 0 < lowQ (P1 * Q3 + P3 * Q1) (Q1 * Q3) := Nat.div_pos (Nat.gcd_le_right _ p13) (Nat.gcd_pos_of_pos_right _ p13)
  have t2p : 0 < lowQ (P2 * Q3 + P3 * Q2) (Q2 * Q3) := Nat.div_pos (Nat.gcd_le_right _ p23) (Nat.gcd_pos_of_pos_right _ p23)
  have s1n : nd 65536 (lowP (P1 * Q3 + P3 * Q1) (Q1 * Q3)) ≤ 17 := Nat.le_trans (nd_mono (by decide) (Nat.div_le_self _ _)) mm4
  have s2n : nd 65536 (lowQ (P1 * Q3 + P3 * Q1) (Q1 * Q3)) ≤ 16 := Nat.le_trans (nd_mono (by decide) (Nat.div_le_self _ _)) mm3
  have t1n : nd 65536 (lowP (P2 * Q3 + P3 * Q2) (Q2 * Q3)) ≤ 17 := Nat.le_trans (nd_mono (by decide) (Nat.div_le_self _ _)) mm8
  have t2n : nd 65536 (lowQ (P2 * Q3 + P3 * Q2) (Q2 * Q3)) ≤ 16 := Nat.le_trans (nd_mono (by decide) (Nat.div_le_self _ _)) mm7
  have s1m := nd_32 s1n
  have s2m := nd_32 s2n
  have t1m := nd_32 t1n
  have t2m := nd_32 t2n
  have HXY := Lib.hid (fun W v u x y (h1 : D W v P1) (h2 : D W u Q1) (h3 : D W x P2) (h4 : D W y Q2) => FCmp_any v u x y P1 Q1 P2 Q2 W h1 h2 h3 h4 (by omega) (by omega) (by omega) (by omega))
  rw [dn_of q1, dn_of q2, show cmpN ((P1 * Q2 : Nat) : Int) ((P2 * Q1 : Nat) : Int) = kx from hkx.symm] at HXY
  have HYZ := Lib.hid (fun W v u x y (h1 : D W v P2) (h2 : D W u Q2) (h3 : D W x P3) (h4 : D W y Q3) => FCmp_any v u x y P2 Q2 P3 Q3 W h1 h2 h3 h4 (by omega) (by omega) (by omega) (by omega))
  rw [dn_of q2, dn_of q3, show cmpN ((P2 * Q3 : Nat) : Int) ((P3 * Q2 : Nat) : Int) = ky from hky.symm] at HYZ
  have HXZ := Lib.hid (fun W v u x y (h1 : D W v P1) (h2 : D W u Q1) (h3 : D W x P3) (h4 : D W y Q3) => FCmp_any v u x y P1 Q1 P3 Q3 W h1 h2 h3 h4 (by omega) (by omega) (by omega) (by omega))
  rw [dn_of q1, dn_of q3, show cmpN ((P1 * Q3 : Nat) : Int) ((P3 * Q1 : Nat) : Int) = kz from hkz.symm] at HXZ
  have HGF := Lib.hid (fun W v u x y (h1 : D W v P2) (h2 : D W u Q2) (h3 : D W x P1) (h4 : D W y Q1) => FCmp_any v u x y P2 Q2 P1 Q1 W h1 h2 h3 h4 (by omega) (by omega) (by omega) (by omega))
  rw [dn_of q2, dn_of q1, show cmpN ((P2 * Q1 : Nat) : Int) ((P1 * Q2 : Nat) : Int) = nx from by rw [cmp_neg, ← hkx, hnx]] at HGF
  have HFF := Lib.hid (fun W v u x y (h1 : D W v P1) (h2 : D W u Q1) (h3 : D W x P1) (h4 : D W y Q1) => FCmp_any v u x y P1 Q1 P1 Q1 W h1 h2 h3 h4 (by omega) (by omega) (by omega) (by omega))
  rw [dn_of q1, show cmpN ((P1 * Q1 : Nat) : Int) ((P1 * Q1 : Nat) : Int) = 0 from cmpN_eq rfl] at HFF

  have HAS := Lib.hid (fun W v u x y (h1 : D W v P1) (h2 : D W u Q1) (h3 : D W x P3) (h4 : D W y Q3) => FAdd_any v u x y P1 Q1 P3 Q3 W h1 h2 h3 h4 (by omega) (by omega) (by omega) (by omega))
  rw [dn_of q1, dn_of q3] at HAS
  unfold FRes at HAS
  rw [(sums_fit' (L := P1 * Q3 + P3 * Q1) (M := Q1 * Q3) (by omega) (by omega)).1, (sums_fit' (L := P1 * Q3 + P3 * Q1) (M := Q1 * Q3) (by omega) (by omega)).2.1, (sums_fit' (L := P1 * Q3 + P3 * Q1) (M := Q1 * Q3) (by omega) (by omega)).2.2] at HAS
  have HAT := Lib.hid (fun W v u x y (h1 : D W v P2) (h2 : D W u Q2) (h3 : D W x P3) (h4 : D W y Q3) => FAdd_any v u x y P2 Q2 P3 Q3 W h1 h2 h3 h4 (by omega) (by omega) (by omega) (by omega))
  rw [dn_of q2, dn_of q3] at HAT
  unfold FRes at HAT
  rw [(sums_fit' (L := P2 * Q3 + P3 * Q2) (M := Q2 * Q3) (by omega) (by omega)).1, (sums_fit' (L := P2 * Q3 + P3 * Q2) (M := Q2 * Q3) (by omega) (by omega)).2.1, (sums_fit' (L := P2 * Q3 + P3 * Q2) (M := Q2 * Q3) (by omega) (by omega)).2.2] at HAT

  have HSC := Lib.hid (fun W v u x y (h1 : D W v (lowP (P1 * Q3 + P3 * Q1) (Q1 * Q3))) (h2 : D W u (lowQ (P1 * Q3 + P3 * Q1) (Q1 * Q3))) (h3 : D W x (lowP (P2 * Q3 + P3 * Q2) (Q2 * Q3))) (h4 : D W y (lowQ (P2 * Q3 + P3 * Q2) (Q2 * Q3))) => FCmp_any v u x y _ _ _ _ W h1 h2 h3 h4 (by omega) (by omega) (by omega) (by omega))
  rw [dn_of s2p, dn_of t2p, HCS] at HSC
  obtain ⟨Sf, hSf⟩ : ∃ S : ByteArray, S = ⟨(fracText P1 Q1).toArray⟩ := ⟨_, rfl⟩
  obtain ⟨Sg, hSg⟩ : ∃ S : ByteArray, S = ⟨(fracText P2 Q2).toArray⟩ := ⟨_, rfl⟩
  have HTF := Lib.hid (fun W v u (h1 : D W v P1) (h2 : D W u Q1) (he : Env W) => FracString_any v u P1 Q1 W h1 h2 (by omega) (by omega) he)
  have HTG := Lib.hid (fun W v u (h1 : D W v P2) (h2 : D W u Q2) (he : Env W) => FracString_any v u P2 Q2 W h1 h2 (by omega) (by omega) he)
  rw [dn_of q1, ← hSf] at HTF
  rw [dn_of q2, ← hSg] at HTG
  rw [← hSf, ← hSg] at HST
  have hkb : -1 ≤ kx ∧ kx ≤ 1 := by have := HX3.out; omega
  have hwr : IntKind.i64.wrap (-kx) = nx := by rw [IntWalk.i64_in _ (by omega), hnx]
  have HWR := Lib.hid hwr
  have hkv : kx = 0 := hkx.trans hk
  have hnv : nx = 0 := by omega
  clear hk hkx hky hkz hnx hwr hkb HCS hSf hSg o1 o2 o3 hn0 hn1 hn2 hn3 hn4 hn5 mm1 mm2 mm3 mm4 mm5 mm6 mm7 mm8
  generalize lowP (P1 * Q3 + P3 * Q1) (Q1 * Q3) = S1 at *
  generalize lowQ (P1 * Q3 + P3 * Q1) (Q1 * Q3) = S2 at *
  generalize lowP (P2 * Q3 + P3 * Q2) (Q2 * Q3) = T1 at *
  generalize lowQ (P2 * Q3 + P3 * Q2) (Q2 * Q3) = T2 at *
  subst hkv
  subst hnv
  go_enter Tryd.func5, Tryd.ntmps5
  go_wp2_with fail
  refine (HH1.out _ (IsRaw.below HU0.out HS0.out.bel) (IsRaw.below HU1.out HS0.out.bel)).mono ?_
  rintro e w1 ⟨vf1, vf2, vp1, vp2, rfl, hf1, hf2, hp1, hp2, hb⟩
  obtain ⟨f1o, f1c, rfl, -⟩ := hf1.shape
  obtain ⟨f2o, f2c, rfl, -⟩ := hf2.shape
  obtain ⟨p1o, p1c, rfl, -⟩ := hp1.shape
  obtain ⟨p2o, p2c, rfl, -⟩ := hp2.shape
  have hs := ((((((HS0.out.next hb).addNum hf1).addNum hf2).addDig hp1).addDig hp2).boxed2 (.slice f1o (nd 4294967296 (P1)) f1c) (.slice f2o (nd 4294967296 (Q1)) f2c) 26).boxed2 (.slice p1o (nd 65536 (P1)) p1c) (.slice p2o (nd 65536 (Q1)) p2c) 32
  simp only [World.size_alloc] at hs
  have HS1 := Lib.hid hs
  clear hs hb hf1 hf2 hp1 hp2 HS0
  go_wp2_with fail
  refine (HH2.out _ (IsRaw.below HU2.out HS1.out.bel) (IsRaw.below HU3.out HS1.out.bel)).mono ?_
  rintro e w2 ⟨vg1, vg2, vq1, vq2, rfl, hg1, hg2, hq1, hq2, hb⟩
  obtain ⟨g1o, g1c, rfl, -⟩ := hg1.shape
  obtain ⟨g2o, g2c, rfl, -⟩ := hg2.shape
  obtain ⟨q1o, q1c, rfl, -⟩ := hq1.shape
  obtain ⟨q2o, q2c, rfl, -⟩ := hq2.shape
  have hs := ((((((HS1.out.next hb).addNum hg1).addNum hg2).addDig hq1).addDig hq2).boxed2 (.slice g1o (nd 4294967296 (P2)) g1c) (.slice g2o (nd 4294967296 (Q2)) g2c) 26).boxed2 (.slice q1o (nd 65536 (P2)) q1c) (.slice q2o (nd 65536 (Q2)) q2c) 32
  simp only [World.size_alloc] at hs
  have HS2 := Lib.hid hs
  clear hs hb hg1 hg2 hq1 hq2 HS1
  go_wp2_with fail
  refine (HH3.out _ (IsRaw.below HU4.out HS2.out.bel) (IsRaw.below HU5.out HS2.out.bel)).mono ?_
  rintro e w3 ⟨vk1, vk2, vr1, vr2, rfl, hk1, hk2, hr1, hr2, hb⟩
  obtain ⟨k1o, k1c, rfl, -⟩ := hk1.shape
  obtain ⟨k2o, k2c, rfl, -⟩ := hk2.shape
  obtain ⟨r1o, r1c, rfl, -⟩ := hr1.shape
  obtain ⟨r2o, r2c, rfl, -⟩ := hr2.shape
  have hs := ((((((HS2.out.next hb).addNum hk1).addNum hk2).addDig hr1).addDig hr2).boxed2 (.slice k1o (nd 4294967296 (P3)) k1c) (.slice k2o (nd 4294967296 (Q3)) k2c) 26).boxed2 (.slice r1o (nd 65536 (P3)) r1c) (.slice r2o (nd 65536 (Q3)) r2c) 32
  simp only [World.size_alloc] at hs
  have HS3 := Lib.hid hs
  clear hs hb hk1 hk2 hr1 hr2 HS2
  have hs := HS3.out
  obtain ⟨cs1, hcs⟩ : ∃ cs : List (Nat × Nat × Value), cs = (w3.heap.size + 1, 1, .slice r2o (nd 65536 (Q3)) r2c) :: (w3.heap.size + 1, 0, .slice r1o (nd 65536 (P3)) r1c) :: (w3.heap.size, 1, .slice k2o (nd 4294967296 (Q3)) k2c) :: (w3.heap.size, 0, .slice k1o (nd 4294967296 (P3)) k1c) :: (w2.heap.size + 1, 1, .slice q2o (nd 65536 (Q2)) q2c) :: (w2.heap.size + 1, 0, .slice q1o (nd 65536 (P2)) q1c) :: (w2.heap.size, 1, .slice g2o (nd 4294967296 (Q2)) g2c) :: (w2.heap.size, 0, .slice g1o (nd 4294967296 (P2)) g1c) :: (w1.heap.size + 1, 1, .slice p2o (nd 65536 (Q1)) p2c) :: (w1.heap.size + 1, 0, .slice p1o (nd 65536 (P1)) p1c) :: (w1.heap.size, 1, .slice f2o (nd 4294967296 (Q1)) f2c) :: (w1.heap.size, 0, .slice f1o (nd 4294967296 (P1)) f1c) :: [] := ⟨_, rfl⟩
  obtain ⟨ns1, hns⟩ : ∃ ns : List (Value × Nat), ns = (.slice k2o (nd 4294967296 (Q3)) k2c, Q3) :: (.slice k1o (nd 4294967296 (P3)) k1c, P3) :: (.slice g2o (nd 4294967296 (Q2)) g2c, Q2) :: (.slice g1o (nd 4294967296 (P2)) g1c, P2) :: (.slice f2o (nd 4294967296 (Q1)) f2c, Q1) :: (.slice f1o (nd 4294967296 (P1)) f1c, P1) :: [] := ⟨_, rfl⟩
  obtain ⟨rs1, hrs⟩ : ∃ rs : List (Value × Nat), rs = (.slice r2o (nd 65536 (Q3)) r2c, Q3) :: (.slice r1o (nd 65536 (P3)) r1c, P3) :: (.slice q2o (nd 65536 (Q2)) q2c, Q2) :: (.slice q1o (nd 65536 (P2)) q1c, P2) :: (.slice p2o (nd 65536 (Q1)) p2c, Q1) :: (.slice p1o (nd 65536 (P1)) p1c, P1) :: [] := ⟨_, rfl⟩
  rw [← hcs, ← hns, ← hrs] at hs
  have HC1_f1 : Hid (((w1.heap.size, 0, .slice f1o (nd 4294967296 (P1)) f1c) : Nat × Nat × Value) ∈ cs1) := by show _ ∈ _; rw [hcs]; exact (.tail _ (.tail _ (.tail _ (.tail _ (.tail _ (.tail _ (.tail _ (.tail _ (.tail _ (.tail _ (.tail _ (.head _))))))))))))
  have HC1_f2 : Hid (((w1.heap.size, 1, .slice f2o (nd 4294967296 (Q1)) f2c) : Nat × Nat × Value) ∈ cs1) := by show _ ∈ _; rw [hcs]; exact (.tail _ (.tail _ (.tail _ (.tail _ (.tail _ (.tail _ (.tail _ (.tail _ (.tail _ (.tail _ (.head _)))))))))))
  have HC1_g1 : Hid (((w2.heap.size, 0, .slice g1o (nd 4294967296 (P2)) g1c) : Nat × Nat × Value) ∈ cs1) := by show _ ∈ _; rw [hcs]; exact (.tail _ (.tail _ (.tail _ (.tail _ (.tail _ (.tail _ (.tail _ (.head _))))))))
  have HC1_g2 : Hid (((w2.heap.size, 1, .slice g2o (nd 4294967296 (Q2)) g2c) : Nat × Nat × Value) ∈ cs1) := by show _ ∈ _; rw [hcs]; exact (.tail _ (.tail _ (.tail _ (.tail _ (.tail _ (.tail _ (.head _)))))))
  have HC1_k1 : Hid (((w3.heap.size, 0, .slice k1o (nd 4294967296 (P3)) k1c) : Nat × Nat × Value) ∈ cs1) := by show _ ∈ _; rw [hcs]; exact (.tail _ (.tail _ (.tail _ (.head _))))
  have HC1_k2 : Hid (((w3.heap.size, 1, .slice k2o (nd 4294967296 (Q3)) k2c) : Nat × Nat × Value) ∈ cs1) := by show _ ∈ _; rw [hcs]; exact (.tail _ (.tail _ (.head _)))
  have HM1_f1 : Hid (((.slice f1o (nd 4294967296 (P1)) f1c, P1) : Value × Nat) ∈ ns1) := by show _ ∈ _; rw [hns]; exact (.tail _ (.tail _ (.tail _ (.tail _ (.tail _ (.head _))))))
  have HM1_f2 : Hid (((.slice f2o (nd 4294967296 (Q1)) f2c, Q1) : Value × Nat) ∈ ns1) := by show _ ∈ _; rw [hns]; exact (.tail _ (.tail _ (.tail _ (.tail _ (.head _)))))
  have HM1_g1 : Hid (((.slice g1o (nd 4294967296 (P2)) g1c, P2) : Value × Nat) ∈ ns1) := by show _ ∈ _; rw [hns]; exact (.tail _ (.tail _ (.tail _ (.head _))))
  have HM1_g2 : Hid (((.slice g2o (nd 4294967296 (Q2)) g2c, Q2) : Value × Nat) ∈ ns1) := by show _ ∈ _; rw [hns]; exact (.tail _ (.tail _ (.head _)))
  have HM1_k1 : Hid (((.slice k1o (nd 4294967296 (P3)) k1c, P3) : Value × Nat) ∈ ns1) := by show _ ∈ _; rw [hns]; exact (.tail _ (.head _))
  have HM1_k2 : Hid (((.slice k2o (nd 4294967296 (Q3)) k2c, Q3) : Value × Nat) ∈ ns1) := by show _ ∈ _; rw [hns]; exact (.head _)
  have HCL1 : Hid (∀ W', Kq cs1 ns1 rs1 w W' → W'.cell? ⟨w1.heap.size, 0, none⟩ = some (.slice f1o (nd 4294967296 (P1)) f1c) ∧ W'.cell? ⟨w1.heap.size, 1, none⟩ = some (.slice f2o (nd 4294967296 (Q1)) f2c) ∧ W'.cell? ⟨w2.heap.size, 0, none⟩ = some (.slice g1o (nd 4294967296 (P2)) g1c) ∧ W'.cell? ⟨w2.heap.size, 1, none⟩ = some (.slice g2o (nd 4294967296 (Q2)) g2c) ∧ W'.cell? ⟨w3.heap.size, 0, none⟩ = some (.slice k1o (nd 4294967296 (P3)) k1c) ∧ W'.cell? ⟨w3.heap.size, 1, none⟩ = some (.slice k2o (nd 4294967296 (Q3)) k2c)) := fun W' h => ⟨h.cell HC1_f1.out, h.cell HC1_f2.out, h.cell HC1_g1.out, h.cell HC1_g2.out, h.cell HC1_k1.out, h.cell HC1_k2.out⟩
  have hs2 := hs.drew
  have hcl := HCL1.out _ hs2
  have hc0 := HCL1.out _ hs
  have HAK1 := Lib.hid (fun W' (h : Kq cs1 ns1 rs1 w W') => awake_Q h)
  clear hcs hns hrs HS3
  have A1 : Hid (∀ W', Kq cs1 ns1 rs1 w W' → Calls Tryd.prog 26 #[.agg #[.slice f1o (nd 4294967296 (P1)) f1c, .slice f2o (nd 4294967296 (Q1)) f2c], .agg #[.slice g1o (nd 4294967296 (P2)) g1c, .slice g2o (nd 4294967296 (Q2)) g2c]] W' fun e w' => e = .returned (.int .i64 0) ∧ Kq cs1 ns1 rs1 w w') := fun W' h => (HXY.out _ _ _ _ _ (h.num _ (HM1_f1.out)) (h.num _ (HM1_f2.out)) (h.num _ (HM1_g1.out)) (h.num _ (HM1_g2.out))).mono fun e w' ⟨he, hB⟩ => ⟨he, h.next hB⟩
  have A2 : Hid (∀ W', Kq cs1 ns1 rs1 w W' → Calls Tryd.prog 26 #[.agg #[.slice g1o (nd 4294967296 (P2)) g1c, .slice g2o (nd 4294967296 (Q2)) g2c], .agg #[.slice k1o (nd 4294967296 (P3)) k1c, .slice k2o (nd 4294967296 (Q3)) k2c]] W' fun e w' => e = .returned (.int .i64 ky) ∧ Kq cs1 ns1 rs1 w w') := fun W' h => (HYZ.out _ _ _ _ _ (h.num _ (HM1_g1.out)) (h.num _ (HM1_g2.out)) (h.num _ (HM1_k1.out)) (h.num _ (HM1_k2.out))).mono fun e w' ⟨he, hB⟩ => ⟨he, h.next hB⟩
  have A3 : Hid (∀ W', Kq cs1 ns1 rs1 w W' → Calls Tryd.prog 26 #[.agg #[.slice f1o (nd 4294967296 (P1)) f1c, .slice f2o (nd 4294967296 (Q1)) f2c], .agg #[.slice k1o (nd 4294967296 (P3)) k1c, .slice k2o (nd 4294967296 (Q3)) k2c]] W' fun e w' => e = .returned (.int .i64 kz) ∧ Kq cs1 ns1 rs1 w w') := fun W' h => (HXZ.out _ _ _ _ _ (h.num _ (HM1_f1.out)) (h.num _ (HM1_f2.out)) (h.num _ (HM1_k1.out)) (h.num _ (HM1_k2.out))).mono fun e w' ⟨he, hB⟩ => ⟨he, h.next hB⟩
  go_wp2_with fail
  go_region_held3 (fun W' : World => (W'.cell? ⟨w1.heap.size, 0, none⟩ = some (.slice f1o (nd 4294967296 (P1)) f1c) ∧ W'.cell? ⟨w1.heap.size, 1, none⟩ = some (.slice f2o (nd 4294967296 (Q1)) f2c) ∧ W'.cell? ⟨w2.heap.size, 0, none⟩ = some (.slice g1o (nd 4294967296 (P2)) g1c) ∧ W'.cell? ⟨w2.heap.size, 1, none⟩ = some (.slice g2o (nd 4294967296 (Q2)) g2c) ∧ W'.cell? ⟨w3.heap.size, 0, none⟩ = some (.slice k1o (nd 4294967296 (P3)) k1c) ∧ W'.cell? ⟨w3.heap.size, 1, none⟩ = some (.slice k2o (nd 4294967296 (Q3)) k2c)) ∧ Kq cs1 ns1 rs1 w W') (first | (refine And.intro ?_ ?_ <;> assumption)) (first
    | (go_at_call 26; with_reducible refine (A1.out _ ?h).mono ?_; (case h => assumption); rintro e w' ⟨rfl, hs'⟩; have hc' := HCL1.out _ hs')
    | (go_at_call 26; with_reducible refine (A2.out _ ?h).mono ?_; (case h => assumption); rintro e w' ⟨rfl, hs'⟩; have hc' := HCL1.out _ hs')
    | (go_at_call 26; with_reducible refine (A3.out _ ?h).mono ?_; (case h => assumption); rintro e w' ⟨rfl, hs'⟩; have hc' := HCL1.out _ hs'))
  all_goals
    have hsx : Kq cs1 ns1 rs1 w w' := by assumption
    have HS4 := Lib.hid hsx
    clear hsx 
    have cf1 := HS4.out.cell (HC1_f1.out)
    have cf2 := HS4.out.cell (HC1_f2.out)
    have ck1 := HS4.out.cell (HC1_k1.out)
    have ck2 := HS4.out.cell (HC1_k2.out)
    go_wp2_with fail
    refine (HAS.out _ _ _ _ _ (HS4.out.num _ (HM1_f1.out)) (HS4.out.num _ (HM1_f2.out)) (HS4.out.num _ (HM1_k1.out)) (HS4.out.num _ (HM1_k2.out))).mono ?_
    rintro e w4 ⟨vsa1, vsa2, rfl, hsa1, hsa2, hb⟩
    obtain ⟨sa1o, sa1c, rfl, -⟩ := hsa1.shape
    obtain ⟨sa2o, sa2c, rfl, -⟩ := hsa2.shape
    have hs := (((HS4.out.next hb).addNum hsa1).addNum hsa2).boxed2 (.slice sa1o (nd 4294967296 (S1)) sa1c) (.slice sa2o (nd 4294967296 (S2)) sa2c) 26
    have HS5 := Lib.hid hs
    clear hs hb hsa1 hsa2 HS4
    clear cf1 cf2 ck1 ck2
    have cg1 := HS5.out.cell (.tail _ (.tail _ (HC1_g1.out)))
    have cg2 := HS5.out.cell (.tail _ (.tail _ (HC1_g2.out)))
    have ck1 := HS5.out.cell (.tail _ (.tail _ (HC1_k1.out)))
    have ck2 := HS5.out.cell (.tail _ (.tail _ (HC1_k2.out)))
    go_wp2_with fail
    refine (HAT.out _ _ _ _ _ (HS5.out.num _ (.tail _ (.tail _ (HM1_g1.out)))) (HS5.out.num _ (.tail _ (.tail _ (HM1_g2.out)))) (HS5.out.num _ (.tail _ (.tail _ (HM1_k1.out)))) (HS5.out.num _ (.tail _ (.tail _ (HM1_k2.out))))).mono ?_
    rintro e w5 ⟨vta1, vta2, rfl, hta1, hta2, hb⟩
    obtain ⟨ta1o, ta1c, rfl, -⟩ := hta1.shape
    obtain ⟨ta2o, ta2c, rfl, -⟩ := hta2.shape
    have hs := (((HS5.out.next hb).addNum hta1).addNum hta2).boxed2 (.slice ta1o (nd 4294967296 (T1)) ta1c) (.slice ta2o (nd 4294967296 (T2)) ta2c) 26
    have HS6 := Lib.hid hs
    clear hs hb hta1 hta2 HS5
    clear cg1 cg2 ck1 ck2
    have hs := HS6.out
    obtain ⟨cs2, hcs⟩ : ∃ cs : List (Nat × Nat × Value), cs = (w5.heap.size, 1, .slice ta2o (nd 4294967296 (T2)) ta2c) :: (w5.heap.size, 0, .slice ta1o (nd 4294967296 (T1)) ta1c) :: (w4.heap.size, 1, .slice sa2o (nd 4294967296 (S2)) sa2c) :: (w4.heap.size, 0, .slice sa1o (nd 4294967296 (S1)) sa1c) :: cs1 := ⟨_, rfl⟩
    obtain ⟨ns2, hns⟩ : ∃ ns : List (Value × Nat), ns = (.slice ta2o (nd 4294967296 (T2)) ta2c, T2) :: (.slice ta1o (nd 4294967296 (T1)) ta1c, T1) :: (.slice sa2o (nd 4294967296 (S2)) sa2c, S2) :: (.slice sa1o (nd 4294967296 (S1)) sa1c, S1) :: ns1 := ⟨_, rfl⟩
    obtain ⟨rs2, hrs⟩ : ∃ rs : List (Value × Nat), rs = rs1 := ⟨_, rfl⟩
    rw [← hcs, ← hns, ← hrs] at hs
    have HC2_f1 : Hid (((w1.heap.size, 0, .slice f1o (nd 4294967296 (P1)) f1c) : Nat × Nat × Value) ∈ cs2) := by show _ ∈ _; rw [hcs]; exact (.tail _ (.tail _ (.tail _ (.tail _ (HC1_f1.out)))))
    have HC2_f2 : Hid (((w1.heap.size, 1, .slice f2o (nd 4294967296 (Q1)) f2c) : Nat × Nat × Value) ∈ cs2) := by show _ ∈ _; rw [hcs]; exact (.tail _ (.tail _ (.tail _ (.tail _ (HC1_f2.out)))))
    have HC2_g1 : Hid (((w2.heap.size, 0, .slice g1o (nd 4294967296 (P2)) g1c) : Nat × Nat × Value) ∈ cs2) := by show _ ∈ _; rw [hcs]; exact (.tail _ (.tail _ (.tail _ (.tail _ (HC1_g1.out)))))
    have HC2_g2 : Hid (((w2.heap.size, 1, .slice g2o (nd 4294967296 (Q2)) g2c) : Nat × Nat × Value) ∈ cs2) := by show _ ∈ _; rw [hcs]; exact (.tail _ (.tail _ (.tail _ (.tail _ (HC1_g2.out)))))
    have HC2_sa1 : Hid (((w4.heap.size, 0, .slice sa1o (nd 4294967296 (S1)) sa1c) : Nat × Nat × Value) ∈ cs2) := by show _ ∈ _; rw [hcs]; exact (.tail _ (.tail _ (.tail _ (.head _))))
    have HC2_sa2 : Hid (((w4.heap.size, 1, .slice sa2o (nd 4294967296 (S2)) sa2c) : Nat × Nat × Value) ∈ cs2) := by show _ ∈ _; rw [hcs]; exact (.tail _ (.tail _ (.head _)))
    have HC2_ta1 : Hid (((w5.heap.size, 0, .slice ta1o (nd 4294967296 (T1)) ta1c) : Nat × Nat × Value) ∈ cs2) := by show _ ∈ _; rw [hcs]; exact (.tail _ (.head _))
    have HC2_ta2 : Hid (((w5.heap.size, 1, .slice ta2o (nd 4294967296 (T2)) ta2c) : Nat × Nat × Value) ∈ cs2) := by show _ ∈ _; rw [hcs]; exact (.head _)
    have HM2_f1 : Hid (((.slice f1o (nd 4294967296 (P1)) f1c, P1) : Value × Nat) ∈ ns2) := by show _ ∈ _; rw [hns]; exact (.tail _ (.tail _ (.tail _ (.tail _ (HM1_f1.out)))))
    have HM2_f2 : Hid (((.slice f2o (nd 4294967296 (Q1)) f2c, Q1) : Value × Nat) ∈ ns2) := by show _ ∈ _; rw [hns]; exact (.tail _ (.tail _ (.tail _ (.tail _ (HM1_f2.out)))))
    have HM2_g1 : Hid (((.slice g1o (nd 4294967296 (P2)) g1c, P2) : Value × Nat) ∈ ns2) := by show _ ∈ _; rw [hns]; exact (.tail _ (.tail _ (.tail _ (.tail _ (HM1_g1.out)))))
    have HM2_g2 : Hid (((.slice g2o (nd 4294967296 (Q2)) g2c, Q2) : Value × Nat) ∈ ns2) := by show _ ∈ _; rw [hns]; exact (.tail _ (.tail _ (.tail _ (.tail _ (HM1_g2.out)))))
    have HM2_sa1 : Hid (((.slice sa1o (nd 4294967296 (S1)) sa1c, S1) : Value × Nat) ∈ ns2) := by show _ ∈ _; rw [hns]; exact (.tail _ (.tail _ (.tail _ (.head _))))
    have HM2_sa2 : Hid (((.slice sa2o (nd 4294967296 (S2)) sa2c, S2) : Value × Nat) ∈ ns2) := by show _ ∈ _; rw [hns]; exact (.tail _ (.tail _ (.head _)))
    have HM2_ta1 : Hid (((.slice ta1o (nd 4294967296 (T1)) ta1c, T1) : Value × Nat) ∈ ns2) := by show _ ∈ _; rw [hns]; exact (.tail _ (.head _))
    have HM2_ta2 : Hid (((.slice ta2o (nd 4294967296 (T2)) ta2c, T2) : Value × Nat) ∈ ns2) := by show _ ∈ _; rw [hns]; exact (.head _)
    have HCL2 : Hid (∀ W', Kq cs2 ns2 rs2 w W' → W'.cell? ⟨w1.heap.size, 0, none⟩ = some (.slice f1o (nd 4294967296 (P1)) f1c) ∧ W'.cell? ⟨w1.heap.size, 1, none⟩ = some (.slice f2o (nd 4294967296 (Q1)) f2c) ∧ W'.cell? ⟨w2.heap.size, 0, none⟩ = some (.slice g1o (nd 4294967296 (P2)) g1c) ∧ W'.cell? ⟨w2.heap.size, 1, none⟩ = some (.slice g2o (nd 4294967296 (Q2)) g2c) ∧ W'.cell? ⟨w4.heap.size, 0, none⟩ = some (.slice sa1o (nd 4294967296 (S1)) sa1c) ∧ W'.cell? ⟨w4.heap.size, 1, none⟩ = some (.slice sa2o (nd 4294967296 (S2)) sa2c) ∧ W'.cell? ⟨w5.heap.size, 0, none⟩ = some (.slice ta1o (nd 4294967296 (T1)) ta1c) ∧ W'.cell? ⟨w5.heap.size, 1, none⟩ = some (.slice ta2o (nd 4294967296 (T2)) ta2c)) := fun W' h => ⟨h.cell HC2_f1.out, h.cell HC2_f2.out, h.cell HC2_g1.out, h.cell HC2_g2.out, h.cell HC2_sa1.out, h.cell HC2_sa2.out, h.cell HC2_ta1.out, h.cell HC2_ta2.out⟩
    have hs2 := hs.drew
    have hcl := HCL2.out _ hs2
    have hc0 := HCL2.out _ hs
    have HAK2 := Lib.hid (fun W' (h : Kq cs2 ns2 rs2 w W') => awake_Q h)
    clear hcs hns hrs HS6
    have B1 : Hid (∀ W', Kq cs2 ns2 rs2 w W' → Calls Tryd.prog 26 #[.agg #[.slice g1o (nd 4294967296 (P2)) g1c, .slice g2o (nd 4294967296 (Q2)) g2c], .agg #[.slice f1o (nd 4294967296 (P1)) f1c, .slice f2o (nd 4294967296 (Q1)) f2c]] W' fun e w' => e = .returned (.int .i64 0) ∧ Kq cs2 ns2 rs2 w w') := fun W' h => (HGF.out _ _ _ _ _ (h.num _ (HM2_g1.out)) (h.num _ (HM2_g2.out)) (h.num _ (HM2_f1.out)) (h.num _ (HM2_f2.out))).mono fun e w' ⟨he, hB⟩ => ⟨he, h.next hB⟩
    have B2 : Hid (∀ W', Kq cs2 ns2 rs2 w W' → Calls Tryd.prog 26 #[.agg #[.slice sa1o (nd 4294967296 (S1)) sa1c, .slice sa2o (nd 4294967296 (S2)) sa2c], .agg #[.slice ta1o (nd 4294967296 (T1)) ta1c, .slice ta2o (nd 4294967296 (T2)) ta2c]] W' fun e w' => e = .returned (.int .i64 0) ∧ Kq cs2 ns2 rs2 w w') := fun W' h => (HSC.out _ _ _ _ _ (h.num _ (HM2_sa1.out)) (h.num _ (HM2_sa2.out)) (h.num _ (HM2_ta1.out)) (h.num _ (HM2_ta2.out))).mono fun e w' ⟨he, hB⟩ => ⟨he, h.next hB⟩
    have B3 : Hid (∀ W', Kq cs2 ns2 rs2 w W' → Calls Tryd.prog 26 #[.agg #[.slice f1o (nd 4294967296 (P1)) f1c, .slice f2o (nd 4294967296 (Q1)) f2c], .agg #[.slice f1o (nd 4294967296 (P1)) f1c, .slice f2o (nd 4294967296 (Q1)) f2c]] W' fun e w' => e = .returned (.int .i64 0) ∧ Kq cs2 ns2 rs2 w w') := fun W' h => (HFF.out _ _ _ _ _ (h.num _ (HM2_f1.out)) (h.num _ (HM2_f2.out)) (h.num _ (HM2_f1.out)) (h.num _ (HM2_f2.out))).mono fun e w' ⟨he, hB⟩ => ⟨he, h.next hB⟩
    have B4 : Hid (∀ W', Kq cs2 ns2 rs2 w W' → Calls Tryd.prog 27 #[.agg #[.slice f1o (nd 4294967296 (P1)) f1c, .slice f2o (nd 4294967296 (Q1)) f2c]] W' fun e w' => e = .returned (.string Sf) ∧ Kq cs2 ns2 rs2 w w') := fun W' h => (HTF.out _ _ _ (h.num _ (HM2_f1.out)) (h.num _ (HM2_f2.out)) h.env).mono fun e w' ⟨he, hB⟩ => ⟨he, h.next hB⟩
    have B5 : Hid (∀ W', Kq cs2 ns2 rs2 w W' → Calls Tryd.prog 27 #[.agg #[.slice g1o (nd 4294967296 (P2)) g1c, .slice g2o (nd 4294967296 (Q2)) g2c]] W' fun e w' => e = .returned (.string Sg) ∧ Kq cs2 ns2 rs2 w w') := fun W' h => (HTG.out _ _ _ (h.num _ (HM2_g1.out)) (h.num _ (HM2_g2.out)) h.env).mono fun e w' ⟨he, hB⟩ => ⟨he, h.next hB⟩
    clear HXY HYZ HXZ HGF HFF HSC HTF HTG HAS HAT
    obtain rfl : Sf = Sg := HST.out.2 (by simp)
    rcases (show (ky < 0 ∧ kz ≤ 0) ∨ (0 < ky ∧ 0 ≤ kz) ∨ (ky = 0 ∧ kz = 0) from by have h1 := HTR.out.1 (by decide); have h2 := HTR.out.2 (by decide); omega) with ⟨hy, hz⟩ | ⟨hy, hz⟩ | ⟨rfl, rfl⟩
    all_goals (clear HX3 HY3 HZ3 HTR)
    all_goals (clear HST)
    all_goals (clear HWR)
    all_goals (have wf1 : IntKind.i64.wrap 1 = 1 := rfl)
    all_goals (have wf0 : IntKind.i64.wrap 0 = 0 := rfl)
    all_goals (have wfm : IntKind.i64.wrap (-1) = -1 := rfl)
    all_goals
      go_wp2_with fail
      go_region_held3 (fun W' : World => (W'.cell? ⟨w1.heap.size, 0, none⟩ = some (.slice f1o (nd 4294967296 (P1)) f1c) ∧ W'.cell? ⟨w1.heap.size, 1, none⟩ = some (.slice f2o (nd 4294967296 (Q1)) f2c) ∧ W'.cell? ⟨w2.heap.size, 0, none⟩ = some (.slice g1o (nd 4294967296 (P2)) g1c) ∧ W'.cell? ⟨w2.heap.size, 1, none⟩ = some (.slice g2o (nd 4294967296 (Q2)) g2c) ∧ W'.cell? ⟨w4.heap.size, 0, none⟩ = some (.slice sa1o (nd 4294967296 (S1)) sa1c) ∧ W'.cell? ⟨w4.heap.size, 1, none⟩ = some (.slice sa2o (nd 4294967296 (S2)) sa2c) ∧ W'.cell? ⟨w5.heap.size, 0, none⟩ = some (.slice ta1o (nd 4294967296 (T1)) ta1c) ∧ W'.cell? ⟨w5.heap.size, 1, none⟩ = some (.slice ta2o (nd 4294967296 (T2)) ta2c)) ∧ Kq cs2 ns2 rs2 w W') (first | (refine And.intro ?_ ?_ <;> assumption)) (first
        | (go_at_call 26; with_reducible refine (B1.out _ ?h).mono ?_; (case h => assumption); rintro e w' ⟨rfl, hs'⟩; have hc' := HCL2.out _ hs')
        | (go_at_call 26; with_reducible refine (B2.out _ ?h).mono ?_; (case h => assumption); rintro e w' ⟨rfl, hs'⟩; have hc' := HCL2.out _ hs')
        | (go_at_call 26; with_reducible refine (B3.out _ ?h).mono ?_; (case h => assumption); rintro e w' ⟨rfl, hs'⟩; have hc' := HCL2.out _ hs')
        | (go_at_call 27; with_reducible refine (B4.out _ ?h).mono ?_; (case h => assumption); rintro e w' ⟨rfl, hs'⟩; have hc' := HCL2.out _ hs')
        | (go_at_call 27; with_reducible refine (B5.out _ ?h).mono ?_; (case h => assumption); rintro e w' ⟨rfl, hs'⟩; have hc' := HCL2.out _ hs')
        | (go_at_call 6; with_reducible refine (HAK2.out _ ?h).mono ?_; (case h => assumption); rintro e w' ⟨rfl, hs'⟩; have hc' := HCL2.out _ hs'))
    all_goals go_wp2
    all_goals go_ret
    all_goals exact ⟨by simp, (by assumption : Kq cs2 ns2 rs2 w _).bel⟩
end Go.Proofs.YteajinpfigejfaaDoor
namespace Go.Proofs.YteajinpfigejfaaDoor
open Go Go.RowKit Gu
set_option maxHeartbeats 4000000 in
set_option maxRecDepth 100000 in
theorem natFracOrder_mg (u0 u1 u2 u3 u4 u5 : Value) (xs0 xs1 xs2 xs3 xs4 xs5 : List Nat) (w : World) (hu0 : IsRaw w u0 xs0) (hu1 : IsRaw w u1 xs1) (hu2 : IsRaw w u2 xs2) (hu3 : IsRaw w u3 xs3) (hu4 : IsRaw w u4 xs4) (hu5 : IsRaw w u5 xs5) (hl0 : xs0.length ≤ maxLen) (hl1 : xs1.length ≤ maxLen) (hl2 : xs2.length ≤ maxLen) (hl3 : xs3.length ≤ maxLen) (hl4 : xs4.length ≤ maxLen) (hl5 : xs5.length ≤ maxLen) (h1 : 0 < rawN xs1 8) (h2 : 0 < rawN xs3 8) (h3 : 0 < rawN xs5 8) (hk : cmpN ((lowP (rawN xs0 8) (rawN xs1 8) * lowQ (rawN xs2 8) (rawN xs3 8) : Nat) : Int) ((lowP (rawN xs2 8) (rawN xs3 8) * lowQ (rawN xs0 8) (rawN xs1 8) : Nat) : Int) = 1) (he : Env w) :
    Calls Tryd.prog 5 #[u0, u1, u2, u3, u4, u5] w fun e w' => e = .returned (.bool true) ∧ Below w.heap.size w w' := by
  have HS0 := Lib.hid (Kq.start he)
  have hn0 := rawN_nd hu0.1 8
  have hn1 := rawN_nd hu1.1 8
  have hn2 := rawN_nd hu2.1 8
  have hn3 := rawN_nd hu3.1 8
  have hn4 := rawN_nd hu4.1 8
  have hn5 := rawN_nd hu5.1 8
  have HU0 := Lib.hid hu0
  have HU1 := Lib.hid hu1
  have HU2 := Lib.hid hu2
  have HU3 := Lib.hid hu3
  have HU4 := Lib.hid hu4
  have HU5 := Lib.hid hu5
  have HH1 := Lib.hid (fun W (i1 : IsRaw W u0 xs0) (i2 : IsRaw W u1 xs1) => half_pos u0 u1 xs0 xs1 8 W i1 i2 hl0 hl1 (by decide) h1)
  have HH2 := Lib.hid (fun W (i1 : IsRaw W u2 xs2) (i2 : IsRaw W u3 xs3) => half_pos u2 u3 xs2 xs3 8 W i1 i2 hl2 hl3 (by decide) h2)
  have HH3 := Lib.hid (fun W (i1 : IsRaw W u4 xs4) (i2 : IsRaw W u5 xs5) => half_pos u4 u5 xs4 xs5 8 W i1 i2 hl4 hl5 (by decide) h3)
  have q1 : 0 < lowQ (rawN xs0 8) (rawN xs1 8) := Nat.div_pos (Nat.gcd_le_right _ h1) (Nat.gcd_pos_of_pos_right _ h1)
  have g1 : nd 65536 (lowP (rawN xs0 8) (rawN xs1 8)) ≤ 8 := Nat.le_trans (nd_mono (by decide) (Nat.div_le_self _ _)) hn0
  have g1' : nd 65536 (lowQ (rawN xs0 8) (rawN xs1 8)) ≤ 8 := Nat.le_trans (nd_mono (by decide) (Nat.div_le_self _ _)) hn1
  have o1 : Nat.gcd (lowP (rawN xs0 8) (rawN xs1 8)) (lowQ (rawN xs0 8) (rawN xs1 8)) = 1 := low_coprime h1
  have q2 : 0 < lowQ (rawN xs2 8) (rawN xs3 8) := Nat.div_pos (Nat.gcd_le_right _ h2) (Nat.gcd_pos_of_pos_right _ h2)
  have g2 : nd 65536 (lowP (rawN xs2 8) (rawN xs3 8)) ≤ 8 := Nat.le_trans (nd_mono (by decide) (Nat.div_le_self _ _)) hn2
  have g2' : nd 65536 (lowQ (rawN xs2 8) (rawN xs3 8)) ≤ 8 := Nat.le_trans (nd_mono (by decide) (Nat.div_le_self _ _)) hn3
  have o2 : Nat.gcd (lowP (rawN xs2 8) (rawN xs3 8)) (lowQ (rawN xs2 8) (rawN xs3 8)) = 1 := low_coprime h2
  have q3 : 0 < lowQ (rawN xs4 8) (rawN xs5 8) := Nat.div_pos (Nat.gcd_le_right _ h3) (Nat.gcd_pos_of_pos_right _ h3)
  have g3 : nd 65536 (lowP (rawN xs4 8) (rawN xs5 8)) ≤ 8 := Nat.le_trans (nd_mono (by decide) (Nat.div_le_self _ _)) hn4
  have g3' : nd 65536 (lowQ (rawN xs4 8) (rawN xs5 8)) ≤ 8 := Nat.le_trans (nd_mono (by decide) (Nat.div_le_self _ _)) hn5
  have o3 : Nat.gcd (lowP (rawN xs4 8) (rawN xs5 8)) (lowQ (rawN xs4 8) (rawN xs5 8)) = 1 := low_coprime h3

  obtain ⟨uo0, uc0, rfl, -⟩ := hu0.shape
  obtain ⟨uo1, uc1, rfl, -⟩ := hu1.shape
  obtain ⟨uo2, uc2, rfl, -⟩ := hu2.shape
  obtain ⟨uo3, uc3, rfl, -⟩ := hu3.shape
  obtain ⟨uo4, uc4, rfl, -⟩ := hu4.shape
  obtain ⟨uo5, uc5, rfl, -⟩ := hu5.shape
  clear he hu0 hl0 hu1 hl1 hu2 hl2 hu3 hl3 hu4 hl4 hu5 hl5
  generalize rawN xs0 8 = a at *
  generalize rawN xs1 8 = b at *
  generalize rawN xs2 8 = c at *
  generalize rawN xs3 8 = d at *
  generalize rawN xs4 8 = m at *
  generalize rawN xs5 8 = n at *
  generalize lowP a b = P1 at *
  generalize lowQ a b = Q1 at *
  generalize lowP c d = P2 at *
  generalize lowQ c d = Q2 at *
  generalize lowP m n = P3 at *
  generalize lowQ m n = Q3 at *
  have k1 := nd_32 g1
  have k1' := nd_32 g1'
  have k2 := nd_32 g2
  have k2' := nd_32 g2'
  have k3 := nd_32 g3
  have k3' := nd_32 g3'
  obtain ⟨kx, hkx⟩ : ∃ k, k = cmpN ((P1 * Q2 : Nat) : Int) ((P2 * Q1 : Nat) : Int) := ⟨_, rfl⟩
  obtain ⟨ky, hky⟩ : ∃ k, k = cmpN ((P2 * Q3 : Nat) : Int) ((P3 * Q2 : Nat) : Int) := ⟨_, rfl⟩
  obtain ⟨kz, hkz⟩ : ∃ k, k = cmpN ((P1 * Q3 : Nat) : Int) ((P3 * Q1 : Nat) : Int) := ⟨_, rfl⟩
  obtain ⟨nx, hnx⟩ : ∃ k, k = -kx := ⟨_, rfl⟩
  have HX3 : Hid ((kx = -1 ∧ nx = 1) ∨ (kx = 0 ∧ nx = 0) ∨ (kx = 1 ∧ nx = -1)) := by
    show _ ∨ _
    rw [hnx, hkx]
    rcases cmp_three (P1 * Q2) (P2 * Q1) with h | h | h
    · exact .inl ⟨h, by rw [h]; rfl⟩
    · exact .inr (.inl ⟨h, by rw [h]; rfl⟩)
    · exact .inr (.inr ⟨h, by rw [h]⟩)
  have HY3 : Hid (ky = -1 ∨ ky = 0 ∨ ky = 1) := by rw [hky]; exact cmp_three _ _
  have HZ3 : Hid (kz = -1 ∨ kz = 0 ∨ kz = 1) := by rw [hkz]; exact cmp_three _ _
  have HTR : Hid ((kx ≤ 0 → ky ≤ 0 → kz ≤ 0) ∧ (0 ≤ kx → 0 ≤ ky → 0 ≤ kz)) := by
    refine ⟨fun h1 h2 => ?_, fun h1 h2 => ?_⟩
    · rw [hkx, cmp_le] at h1; rw [hky, cmp_le] at h2; rw [hkz, cmp_le]
      exact frac_trans q2 h1 h2
    · have e1 : -kx ≤ 0 := by omega
      have e2 : -ky ≤ 0 := by omega
      rw [hkx, ← cmp_neg, cmp_le] at e1; rw [hky, ← cmp_neg, cmp_le] at e2
      have e3 : -kz ≤ 0 := by rw [hkz, ← cmp_neg, cmp_le]; exact frac_trans q2 e2 e1
      omega
  have HST : Hid ((⟨(fracText P1 Q1).toArray⟩ : ByteArray) = ⟨(fracText P2 Q2).toArray⟩ ↔ kx = 0) := by rw [hkx]; exact frac_text_cmp o1 o2 q1 q2
  have mm1 := nd_rmul g1 g3'
  have mm2 := nd_rmul g3 g1'
  have mm3 := nd_rmul g1' g3'
  have mm4 := nd_radd' mm1 mm2
  have mm5 := nd_rmul g2 g3'
  have mm6 := nd_rmul g3 g2'
  have mm7 := nd_rmul g2' g3'
  have mm8 := nd_radd' mm5 mm6
  have p13 : 0 < Q1 * Q3 := Nat.mul_pos q1 q3
  have p23 : 0 < Q2 * Q3 := Nat.mul_pos q2 q3
  have HCS : cmpN ((lowP (P1 * Q3 + P3 * Q1) (Q1 * Q3) * lowQ (P2 * Q3 + P3 * Q2) (Q2 * Q3) : Nat) : Int) ((lowP (P2 * Q3 + P3 * Q2) (Q2 * Q3) * lowQ (P1 * Q3 + P3 * Q1) (Q1 * Q3) : Nat) : Int) = kx := by rw [cmp_low p13 p23, cmp_plus q3, hkx]
  have s2p : 0 < lowQ (P1 * Q3 + P3 * Q1) (Q1 * Q3) := Nat.div_pos (Nat.gcd_le_right _ p13) (Nat.gcd_pos_of_pos_right _ p13)
  have t2p : 0 < lowQ (P2 * Q3 + P3 * Q2) (Q2 * Q3) := Nat.div_pos (Nat.gcd_le_right _ p23) (Nat.gcd_pos_of_pos_right _ p23)
  have s1n : nd 65536 (lowP (P1 * Q3 + P3 * Q1) (Q1 * Q3)) ≤ 17 := Nat.le_trans (nd_mono (by decide) (Nat.div_le_self _ _)) mm4
  have s2n : nd 65536 (lowQ (P1 * Q3 + P3 * Q1) (Q1 * Q3)) ≤ 16 := Nat.le_trans (nd_mono (by decide) (Nat.div_le_self _ _)) mm3
  have t1n : nd 65536 (lowP (P2 * Q3 + P3 * Q2) (Q2 * Q3)) ≤ 17 := Nat.le_trans (nd_mono (by decide) (Nat.div_le_self _ _)) mm8
  have t2n : nd 65536 (lowQ (P2 * Q3 + P3 * Q2) (Q2 * Q3)) ≤ 16 := Nat.le_trans (nd_mono (by decide) (Nat.div_le_self _ _)) mm7
  have s1m := nd_32 s1n
  have s2m := nd_32 s2n
  have t1m := nd_32 t1n
  have t2m := nd_32 t2n
  have HXY := Lib.hid (fun W v u x y (h1 : D W v P1) (h2 : D W u Q1) (h3 : D W x P2) (h4 : D W y Q2) => FCmp_any v u x y P1 Q1 P2 Q2 W h1 h2 h3 h4 (by omega) (by omega) (by omega) (by omega))
  rw [dn_of q1, dn_of q2, show cmpN ((P1 * Q2 : Nat) : Int) ((P2 * Q1 : Nat) : Int) = kx from hkx.symm] at HXY
  have HYZ := Lib.hid (fun W v u x y (h1 : D W v P2) (h2 : D W u Q2) (h3 : D W x P3) (h4 : D W y Q3) => FCmp_any v u x y P2 Q2 P3 Q3 W h1 h2 h3 h4 (by omega) (by omega) (by omega) (by omega))
  rw [dn_of q2, dn_of q3, show cmpN ((P2 * Q3 : Nat) : Int) ((P3 * Q2 : Nat) : Int) = ky from hky.symm] at HYZ
  have HXZ := Lib.hid (fun W v u x y (h1 : D W v P1) (h2 : D W u Q1) (h3 : D W x P3) (h4 : D W y Q3) => FCmp_any v u x y P1 Q1 P3 Q3 W h1 h2 h3 h4 (by omega) (by omega) (by omega) (by omega))
  rw [dn_of q1, dn_of q3, show cmpN ((P1 * Q3 : Nat) : Int) ((P3 * Q1 : Nat) : Int) = kz from hkz.symm] at HXZ
  have HGF := Lib.hid (fun W v u x y (h1 : D W v P2) (h2 : D W u Q2) (h3 : D W x P1) (h4 : D W y Q1) => FCmp_any v u x y P2 Q2 P1 Q1 W h1 h2 h3 h4 (by omega) (by omega) (by omega) (by omega))
  rw [dn_of q2, dn_of q1, show cmpN ((P2 * Q1 : Nat) : Int) ((P1 * Q2 : Nat) : Int) = nx from by rw [cmp_neg, ← hkx, hnx]] at HGF
  have HFF := Lib.hid (fun W v u x y (h1 : D W v P1) (h2 : D W u Q1) (h3 : D W x P1) (h4 : D W y Q1) => FCmp_any v u x y P1 Q1 P1 Q1 W h1 h2 h3 h4 (by omega) (by omega) (by omega) (by omega))
  rw [dn_of q1, show cmpN ((P1 * Q1 : Nat) : Int) ((P1 * Q1 : Nat) : Int) = 0 from cmpN_eq rfl] at HFF

  have HAS := Lib.hid (fun W v u x y (h1 : D W v P1) (h2 : D W u Q1) (h3 : D W x P3) (h4 : D W y Q3) => FAdd_any v u x y P1 Q1 P3 Q3 W h1 h2 h3 h4 (by omega) (by omega) (by omega) (by omega))
  rw [dn_of q1, dn_of q3] at HAS
  unfold FRes at HAS
  rw [(sums_fit' (L := P1 * Q3 + P3 * Q1) (M := Q1 * Q3) (by omega) (by omega)).1, (sums_fit' (L := P1 * Q3 + P3 * Q1) (M := Q1 * Q3) (by omega) (by omega)).2.1, (sums_fit' (L := P1 * Q3 + P3 * Q1) (M := Q1 * Q3) (by omega) (by omega)).2.2] at HAS
  have HAT := Lib.hid (fun W v u x y (h1 : D W v P2) (h2 : D W u Q2) (h3 : D W x P3) (h4 : D W y Q3) => FAdd_any v u x y P2 Q2 P3 Q3 W h1 h2 h3 h4 (by omega) (by omega) (by omega) (by omega))
  rw [dn_of q2, dn_of q3] at HAT
  unfold FRes at HAT
  rw [(sums_fit' (L := P2 * Q3 + P3 * Q2) (M := Q2 * Q3) (by omega) (by omega)).1, (sums_fit' (L := P2 * Q3 + P3 * Q2) (M := Q2 * Q3) (by omega) (by omega)).2.1, (sums_fit' (L := P2 * Q3 + P3 * Q2) (M := Q2 * Q3) (by omega) (by omega)).2.2] at HAT

  have HSC := Lib.hid (fun W v u x y (h1 : D W v (lowP (P1 * Q3 + P3 * Q1) (Q1 * Q3))) (h2 : D W u (lowQ (P1 * Q3 + P3 * Q1) (Q1 * Q3))) (h3 : D W x (lowP (P2 * Q3 + P3 * Q2) (Q2 * Q3))) (h4 : D W y (lowQ (P2 * Q3 + P3 * Q2) (Q2 * Q3))) => FCmp_any v u x y _ _ _ _ W h1 h2 h3 h4 (by omega) (by omega) (by omega) (by omega))
  rw [dn_of s2p, dn_of t2p, HCS] at HSC
  obtain ⟨Sf, hSf⟩ : ∃ S : ByteArray, S = ⟨(fracText P1 Q1).toArray⟩ := ⟨_, rfl⟩
  obtain ⟨Sg, hSg⟩ : ∃ S : ByteArray, S = ⟨(fracText P2 Q2).toArray⟩ := ⟨_, rfl⟩
  have HTF := Lib.hid (fun W v u (h1 : D W v P1) (h2 : D W u Q1) (he : Env W) => FracString_any v u P1 Q1 W h1 h2 (by omega) (by omega) he)
  have HTG := Lib.hid (fun W v u (h1 : D W v P2) (h2 : D W u Q2) (he : Env W) => FracString_any v u P2 Q2 W h1 h2 (by omega) (by omega) he)
  rw [dn_of q1, ← hSf] at HTF
  rw [dn_of q2, ← hSg] at HTG
  rw [← hSf, ← hSg] at HST
  have hkb : -1 ≤ kx ∧ kx ≤ 1 := by have := HX3.out; omega
  have hwr : IntKind.i64.wrap (-kx) = nx := by rw [IntWalk.i64_in _ (by omega), hnx]
  have HWR := Lib.hid hwr
  have hkv : kx = 1 := hkx.trans hk
  have hnv : nx = (-1) := by omega
  clear hk hkx hky hkz hnx hwr hkb HCS hSf hSg o1 o2 o3 hn0 hn1 hn2 hn3 hn4 hn5 mm1 mm2 mm3 mm4 mm5 mm6 mm7 mm8
  generalize lowP (P1 * Q3 + P3 * Q1) (Q1 * Q3) = S1 at *
  generalize lowQ (P1 * Q3 + P3 * Q1) (Q1 * Q3) = S2 at *
  generalize lowP (P2 * Q3 + P3 * Q2) (Q2 * Q3) = T1 at *
  generalize lowQ (P2 * Q3 + P3 * Q2) (Q2 * Q3) = T2 at *
  subst hkv
  subst hnv
  go_enter Tryd.func5, Tryd.ntmps5
  go_wp2_with fail
  refine (HH1.out _ (IsRaw.below HU0.out HS0.out.bel) (IsRaw.below HU1.out HS0.out.bel)).mono ?_
  rintro e w1 ⟨vf1, vf2, vp1, vp2, rfl, hf1, hf2, hp1, hp2, hb⟩
  obtain ⟨f1o, f1c, rfl, -⟩ := hf1.shape
  obtain ⟨f2o, f2c, rfl, -⟩ := hf2.shape
  obtain ⟨p1o, p1c, rfl, -⟩ := hp1.shape
  obtain ⟨p2o, p2c, rfl, -⟩ := hp2.shape
  have hs := ((((((HS0.out.next hb).addNum hf1).addNum hf2).addDig hp1).addDig hp2).boxed2 (.slice f1o (nd 4294967296 (P1)) f1c) (.slice f2o (nd 4294967296 (Q1)) f2c) 26).boxed2 (.slice p1o (nd 65536 (P1)) p1c) (.slice p2o (nd 65536 (Q1)) p2c) 32
  simp only [World.size_alloc] at hs
  have HS1 := Lib.hid hs
  clear hs hb hf1 hf2 hp1 hp2 HS0
  go_wp2_with fail
  refine (HH2.out _ (IsRaw.below HU2.out HS1.out.bel) (IsRaw.below HU3.out HS1.out.bel)).mono ?_
  rintro e w2 ⟨vg1, vg2, vq1, vq2, rfl, hg1, hg2, hq1, hq2, hb⟩
  obtain ⟨g1o, g1c, rfl, -⟩ := hg1.shape
  obtain ⟨g2o, g2c, rfl, -⟩ := hg2.shape
  obtain ⟨q1o, q1c, rfl, -⟩ := hq1.shape
  obtain ⟨q2o, q2c, rfl, -⟩ := hq2.shape
  have hs := ((((((HS1.out.next hb).addNum hg1).addNum hg2).addDig hq1).addDig hq2).boxed2 (.slice g1o (nd 4294967296 (P2)) g1c) (.slice g2o (nd 4294967296 (Q2)) g2c) 26).boxed2 (.slice q1o (nd 65536 (P2)) q1c) (.slice q2o (nd 65536 (Q2)) q2c) 32
  simp only [World.size_alloc] at hs
  have HS2 := Lib.hid hs
  clear hs hb hg1 hg2 hq1 hq2 HS1
  go_wp2_with fail
  refine (HH3.out _ (IsRaw.below HU4.out HS2.out.bel) (IsRaw.below HU5.out HS2.out.bel)).mono ?_
  rintro e w3 ⟨vk1, vk2, vr1, vr2, rfl, hk1, hk2, hr1, hr2, hb⟩
  obtain ⟨k1o, k1c, rfl, -⟩ := hk1.shape
  obtain ⟨k2o, k2c, rfl, -⟩ := hk2.shape
  obtain ⟨r1o, r1c, rfl, -⟩ := hr1.shape
  obtain ⟨r2o, r2c, rfl, -⟩ := hr2.shape
  have hs := ((((((HS2.out.next hb).addNum hk1).addNum hk2).addDig hr1).addDig hr2).boxed2 (.slice k1o (nd 4294967296 (P3)) k1c) (.slice k2o (nd 4294967296 (Q3)) k2c) 26).boxed2 (.slice r1o (nd 65536 (P3)) r1c) (.slice r2o (nd 65536 (Q3)) r2c) 32
  simp only [World.size_alloc] at hs
  have HS3 := Lib.hid hs
  clear hs hb hk1 hk2 hr1 hr2 HS2
  have hs := HS3.out
  obtain ⟨cs1, hcs⟩ : ∃ cs : List (Nat × Nat × Value), cs = (w3.heap.size + 1, 1, .slice r2o (nd 65536 (Q3)) r2c) :: (w3.heap.size + 1, 0, .slice r1o (nd 65536 (P3)) r1c) :: (w3.heap.size, 1, .slice k2o (nd 4294967296 (Q3)) k2c) :: (w3.heap.size, 0, .slice k1o (nd 4294967296 (P3)) k1c) :: (w2.heap.size + 1, 1, .slice q2o (nd 65536 (Q2)) q2c) :: (w2.heap.size + 1, 0, .slice q1o (nd 65536 (P2)) q1c) :: (w2.heap.size, 1, .slice g2o (nd 4294967296 (Q2)) g2c) :: (w2.heap.size, 0, .slice g1o (nd 4294967296 (P2)) g1c) :: (w1.heap.size + 1, 1, .slice p2o (nd 65536 (Q1)) p2c) :: (w1.heap.size + 1, 0, .slice p1o (nd 65536 (P1)) p1c) :: (w1.heap.size, 1, .slice f2o (nd 4294967296 (Q1)) f2c) :: (w1.heap.size, 0, .slice f1o (nd 4294967296 (P1)) f1c) :: [] := ⟨_, rfl⟩
  obtain ⟨ns1, hns⟩ : ∃ ns : List (Value × Nat), ns = (.slice k2o (nd 4294967296 (Q3)) k2c, Q3) :: (.slice k1o (nd 4294967296 (P3)) k1c, P3) :: (.slice g2o (nd 4294967296 (Q2)) g2c, Q2) :: (.slice g1o (nd 4294967296 (P2)) g1c, P2) :: (.slice f2o (nd 4294967296 (Q1)) f2c, Q1) :: (.slice f1o (nd 4294967296 (P1)) f1c, P1) :: [] := ⟨_, rfl⟩
  obtain ⟨rs1, hrs⟩ : ∃ rs : List (Value × Nat), rs = (.slice r2o (nd 65536 (Q3)) r2c, Q3) :: (.slice r1o (nd 65536 (P3)) r1c, P3) :: (.slice q2o (nd 65536 (Q2)) q2c, Q2) :: (.slice q1o (nd 65536 (P2)) q1c, P2) :: (.slice p2o (nd 65536 (Q1)) p2c, Q1) :: (.slice p1o (nd 65536 (P1)) p1c, P1) :: [] := ⟨_, rfl⟩
  rw [← hcs, ← hns, ← hrs] at hs
  have HC1_f1 : Hid (((w1.heap.size, 0, .slice f1o (nd 4294967296 (P1)) f1c) : Nat × Nat × Value) ∈ cs1) := by show _ ∈ _; rw [hcs]; exact (.tail _ (.tail _ (.tail _ (.tail _ (.tail _ (.tail _ (.tail _ (.tail _ (.tail _ (.tail _ (.tail _ (.head _))))))))))))
  have HC1_f2 : Hid (((w1.heap.size, 1, .slice f2o (nd 4294967296 (Q1)) f2c) : Nat × Nat × Value) ∈ cs1) := by show _ ∈ _; rw [hcs]; exact (.tail _ (.tail _ (.tail _ (.tail _ (.tail _ (.tail _ (.tail _ (.tail _ (.tail _ (.tail _ (.head _)))))))))))
  have HC1_g1 : Hid (((w2.heap.size, 0, .slice g1o (nd 4294967296 (P2)) g1c) : Nat × Nat × Value) ∈ cs1) := by show _ ∈ _; rw [hcs]; exact (.tail _ (.tail _ (.tail _ (.tail _ (.tail _ (.tail _ (.tail _ (.head _))))))))
  have HC1_g2 : Hid (((w2.heap.size, 1, .slice g2o (nd 4294967296 (Q2)) g2c) : Nat × Nat × Value) ∈ cs1) := by show _ ∈ _; rw [hcs]; exact (.tail _ (.tail _ (.tail _ (.tail _ (.tail _ (.tail _ (.head _)))))))
  have HC1_k1 : Hid (((w3.heap.size, 0, .slice k1o (nd 4294967296 (P3)) k1c) : Nat × Nat × Value) ∈ cs1) := by show _ ∈ _; rw [hcs]; exact (.tail _ (.tail _ (.tail _ (.head _))))
  have HC1_k2 : Hid (((w3.heap.size, 1, .slice k2o (nd 4294967296 (Q3)) k2c) : Nat × Nat × Value) ∈ cs1) := by show _ ∈ _; rw [hcs]; exact (.tail _ (.tail _ (.head _)))
  have HM1_f1 : Hid (((.slice f1o (nd 4294967296 (P1)) f1c, P1) : Value × Nat) ∈ ns1) := by show _ ∈ _; rw [hns]; exact (.tail _ (.tail _ (.tail _ (.tail _ (.tail _ (.head _))))))
  have HM1_f2 : Hid (((.slice f2o (nd 4294967296 (Q1)) f2c, Q1) : Value × Nat) ∈ ns1) := by show _ ∈ _; rw [hns]; exact (.tail _ (.tail _ (.tail _ (.tail _ (.head _)))))
  have HM1_g1 : Hid (((.slice g1o (nd 4294967296 (P2)) g1c, P2) : Value × Nat) ∈ ns1) := by show _ ∈ _; rw [hns]; exact (.tail _ (.tail _ (.tail _ (.head _))))
  have HM1_g2 : Hid (((.slice g2o (nd 4294967296 (Q2)) g2c, Q2) : Value × Nat) ∈ ns1) := by show _ ∈ _; rw [hns]; exact (.tail _ (.tail _ (.head _)))
  have HM1_k1 : Hid (((.slice k1o (nd 4294967296 (P3)) k1c, P3) : Value × Nat) ∈ ns1) := by show _ ∈ _; rw [hns]; exact (.tail _ (.head _))
  have HM1_k2 : Hid (((.slice k2o (nd 4294967296 (Q3)) k2c, Q3) : Value × Nat) ∈ ns1) := by show _ ∈ _; rw [hns]; exact (.head _)
  have HCL1 : Hid (∀ W', Kq cs1 ns1 rs1 w W' → W'.cell? ⟨w1.heap.size, 0, none⟩ = some (.slice f1o (nd 4294967296 (P1)) f1c) ∧ W'.cell? ⟨w1.heap.size, 1, none⟩ = some (.slice f2o (nd 4294967296 (Q1)) f2c) ∧ W'.cell? ⟨w2.heap.size, 0, none⟩ = some (.slice g1o (nd 4294967296 (P2)) g1c) ∧ W'.cell? ⟨w2.heap.size, 1, none⟩ = some (.slice g2o (nd 4294967296 (Q2)) g2c) ∧ W'.cell? ⟨w3.heap.size, 0, none⟩ = some (.slice k1o (nd 4294967296 (P3)) k1c) ∧ W'.cell? ⟨w3.heap.size, 1, none⟩ = some (.slice k2o (nd 4294967296 (Q3)) k2c)) := fun W' h => ⟨h.cell HC1_f1.out, h.cell HC1_f2.out, h.cell HC1_g1.out, h.cell HC1_g2.out, h.cell HC1_k1.out, h.cell HC1_k2.out⟩
  have hs2 := hs.drew
  have hcl := HCL1.out _ hs2
  have hc0 := HCL1.out _ hs
  have HAK1 := Lib.hid (fun W' (h : Kq cs1 ns1 rs1 w W') => awake_Q h)
  clear hcs hns hrs HS3
  have A1 : Hid (∀ W', Kq cs1 ns1 rs1 w W' → Calls Tryd.prog 26 #[.agg #[.slice f1o (nd 4294967296 (P1)) f1c, .slice f2o (nd 4294967296 (Q1)) f2c], .agg #[.slice g1o (nd 4294967296 (P2)) g1c, .slice g2o (nd 4294967296 (Q2)) g2c]] W' fun e w' => e = .returned (.int .i64 1) ∧ Kq cs1 ns1 rs1 w w') := fun W' h => (HXY.out _ _ _ _ _ (h.num _ (HM1_f1.out)) (h.num _ (HM1_f2.out)) (h.num _ (HM1_g1.out)) (h.num _ (HM1_g2.out))).mono fun e w' ⟨he, hB⟩ => ⟨he, h.next hB⟩
  have A2 : Hid (∀ W', Kq cs1 ns1 rs1 w W' → Calls Tryd.prog 26 #[.agg #[.slice g1o (nd 4294967296 (P2)) g1c, .slice g2o (nd 4294967296 (Q2)) g2c], .agg #[.slice k1o (nd 4294967296 (P3)) k1c, .slice k2o (nd 4294967296 (Q3)) k2c]] W' fun e w' => e = .returned (.int .i64 ky) ∧ Kq cs1 ns1 rs1 w w') := fun W' h => (HYZ.out _ _ _ _ _ (h.num _ (HM1_g1.out)) (h.num _ (HM1_g2.out)) (h.num _ (HM1_k1.out)) (h.num _ (HM1_k2.out))).mono fun e w' ⟨he, hB⟩ => ⟨he, h.next hB⟩
  have A3 : Hid (∀ W', Kq cs1 ns1 rs1 w W' → Calls Tryd.prog 26 #[.agg #[.slice f1o (nd 4294967296 (P1)) f1c, .slice f2o (nd 4294967296 (Q1)) f2c], .agg #[.slice k1o (nd 4294967296 (P3)) k1c, .slice k2o (nd 4294967296 (Q3)) k2c]] W' fun e w' => e = .returned (.int .i64 kz) ∧ Kq cs1 ns1 rs1 w w') := fun W' h => (HXZ.out _ _ _ _ _ (h.num _ (HM1_f1.out)) (h.num _ (HM1_f2.out)) (h.num _ (HM1_k1.out)) (h.num _ (HM1_k2.out))).mono fun e w' ⟨he, hB⟩ => ⟨he, h.next hB⟩
  go_wp2_with fail
  go_region_held3 (fun W' : World => (W'.cell? ⟨w1.heap.size, 0, none⟩ = some (.slice f1o (nd 4294967296 (P1)) f1c) ∧ W'.cell? ⟨w1.heap.size, 1, none⟩ = some (.slice f2o (nd 4294967296 (Q1)) f2c) ∧ W'.cell? ⟨w2.heap.size, 0, none⟩ = some (.slice g1o (nd 4294967296 (P2)) g1c) ∧ W'.cell? ⟨w2.heap.size, 1, none⟩ = some (.slice g2o (nd 4294967296 (Q2)) g2c) ∧ W'.cell? ⟨w3.heap.size, 0, none⟩ = some (.slice k1o (nd 4294967296 (P3)) k1c) ∧ W'.cell? ⟨w3.heap.size, 1, none⟩ = some (.slice k2o (nd 4294967296 (Q3)) k2c)) ∧ Kq cs1 ns1 rs1 w W') (first | (refine And.intro ?_ ?_ <;> assumption)) (first
    | (go_at_call 26; with_reducible refine (A1.out _ ?h).mono ?_; (case h => assumption); rintro e w' ⟨rfl, hs'⟩; have hc' := HCL1.out _ hs')
    | (go_at_call 26; with_reducible refine (A2.out _ ?h).mono ?_; (case h => assumption); rintro e w' ⟨rfl, hs'⟩; have hc' := HCL1.out _ hs')
    | (go_at_call 26; with_reducible refine (A3.out _ ?h).mono ?_; (case h => assumption); rintro e w' ⟨rfl, hs'⟩; have hc' := HCL1.out _ hs'))
  all_goals
    have hsx : Kq cs1 ns1 rs1 w w' := by assumption
    have HS4 := Lib.hid hsx
    clear hsx 
    have cf1 := HS4.out.cell (HC1_f1.out)
    have cf2 := HS4.out.cell (HC1_f2.out)
    have ck1 := HS4.out.cell (HC1_k1.out)
    have ck2 := HS4.out.cell (HC1_k2.out)
    go_wp2_with fail
    refine (HAS.out _ _ _ _ _ (HS4.out.num _ (HM1_f1.out)) (HS4.out.num _ (HM1_f2.out)) (HS4.out.num _ (HM1_k1.out)) (HS4.out.num _ (HM1_k2.out))).mono ?_
    rintro e w4 ⟨vsa1, vsa2, rfl, hsa1, hsa2, hb⟩
    obtain ⟨sa1o, sa1c, rfl, -⟩ := hsa1.shape
    obtain ⟨sa2o, sa2c, rfl, -⟩ := hsa2.shape
    have hs := (((HS4.out.next hb).addNum hsa1).addNum hsa2).boxed2 (.slice sa1o (nd 4294967296 (S1)) sa1c) (.slice sa2o (nd 4294967296 (S2)) sa2c) 26
    have HS5 := Lib.hid hs
    clear hs hb hsa1 hsa2 HS4
    clear cf1 cf2 ck1 ck2
    have cg1 := HS5.out.cell (.tail _ (.tail _ (HC1_g1.out)))
    have cg2 := HS5.out.cell (.tail _ (.tail _ (HC1_g2.out)))
    have ck1 := HS5.out.cell (.tail _ (.tail _ (HC1_k1.out)))
    have ck2 := HS5.out.cell (.tail _ (.tail _ (HC1_k2.out)))
    go_wp2_with fail
    refine (HAT.out _ _ _ _ _ (HS5.out.num _ (.tail _ (.tail _ (HM1_g1.out)))) (HS5.out.num _ (.tail _ (.tail _ (HM1_g2.out)))) (HS5.out.num _ (.tail _ (.tail _ (HM1_k1.out)))) (HS5.out.num _ (.tail _ (.tail _ (HM1_k2.out))))).mono ?_
    rintro e w5 ⟨vta1, vta2, rfl, hta1, hta2, hb⟩
    obtain ⟨ta1o, ta1c, rfl, -⟩ := hta1.shape
    obtain ⟨ta2o, ta2c, rfl, -⟩ := hta2.shape
    have hs := (((HS5.out.next hb).addNum hta1).addNum hta2).boxed2 (.slice ta1o (nd 4294967296 (T1)) ta1c) (.slice ta2o (nd 4294967296 (T2)) ta2c) 26
    have HS6 := Lib.hid hs
    clear hs hb hta1 hta2 HS5
    clear cg1 cg2 ck1 ck2
    have hs := HS6.out
    obtain ⟨cs2, hcs⟩ : ∃ cs : List (Nat × Nat × Value), cs = (w5.heap.size, 1, .slice ta2o (nd 4294967296 (T2)) ta2c) :: (w5.heap.size, 0, .slice ta1o (nd 4294967296 (T1)) ta1c) :: (w4.heap.size, 1, .slice sa2o (nd 4294967296 (S2)) sa2c) :: (w4.heap.size, 0, .slice sa1o (nd 4294967296 (S1)) sa1c) :: cs1 := ⟨_, rfl⟩
    obtain ⟨ns2, hns⟩ : ∃ ns : List (Value × Nat), ns = (.slice ta2o (nd 4294967296 (T2)) ta2c, T2) :: (.slice ta1o (nd 4294967296 (T1)) ta1c, T1) :: (.slice sa2o (nd 4294967296 (S2)) sa2c, S2) :: (.slice sa1o (nd 4294967296 (S1)) sa1c, S1) :: ns1 := ⟨_, rfl⟩
    obtain ⟨rs2, hrs⟩ : ∃ rs : List (Value × Nat), rs = rs1 := ⟨_, rfl⟩
    rw [← hcs, ← hns, ← hrs] at hs
    have HC2_f1 : Hid (((w1.heap.size, 0, .slice f1o (nd 4294967296 (P1)) f1c) : Nat × Nat × Value) ∈ cs2) := by show _ ∈ _; rw [hcs]; exact (.tail _ (.tail _ (.tail _ (.tail _ (HC1_f1.out)))))
    have HC2_f2 : Hid (((w1.heap.size, 1, .slice f2o (nd 4294967296 (Q1)) f2c) : Nat × Nat × Value) ∈ cs2) := by show _ ∈ _; rw [hcs]; exact (.tail _ (.tail _ (.tail _ (.tail _ (HC1_f2.out)))))
    have HC2_g1 : Hid (((w2.heap.size, 0, .slice g1o (nd 4294967296 (P2)) g1c) : Nat × Nat × Value) ∈ cs2) := by show _ ∈ _; rw [hcs]; exact (.tail _ (.tail _ (.tail _ (.tail _ (HC1_g1.out)))))
    have HC2_g2 : Hid (((w2.heap.size, 1, .slice g2o (nd 4294967296 (Q2)) g2c) : Nat × Nat × Value) ∈ cs2) := by show _ ∈ _; rw [hcs]; exact (.tail _ (.tail _ (.tail _ (.tail _ (HC1_g2.out)))))
    have HC2_sa1 : Hid (((w4.heap.size, 0, .slice sa1o (nd 4294967296 (S1)) sa1c) : Nat × Nat × Value) ∈ cs2) := by show _ ∈ _; rw [hcs]; exact (.tail _ (.tail _ (.tail _ (.head _))))
    have HC2_sa2 : Hid (((w4.heap.size, 1, .slice sa2o (nd 4294967296 (S2)) sa2c) : Nat × Nat × Value) ∈ cs2) := by show _ ∈ _; rw [hcs]; exact (.tail _ (.tail _ (.head _)))
    have HC2_ta1 : Hid (((w5.heap.size, 0, .slice ta1o (nd 4294967296 (T1)) ta1c) : Nat × Nat × Value) ∈ cs2) := by show _ ∈ _; rw [hcs]; exact (.tail _ (.head _))
    have HC2_ta2 : Hid (((w5.heap.size, 1, .slice ta2o (nd 4294967296 (T2)) ta2c) : Nat × Nat × Value) ∈ cs2) := by show _ ∈ _; rw [hcs]; exact (.head _)
    have HM2_f1 : Hid (((.slice f1o (nd 4294967296 (P1)) f1c, P1) : Value × Nat) ∈ ns2) := by show _ ∈ _; rw [hns]; exact (.tail _ (.tail _ (.tail _ (.tail _ (HM1_f1.out)))))
    have HM2_f2 : Hid (((.slice f2o (nd 4294967296 (Q1)) f2c, Q1) : Value × Nat) ∈ ns2) := by show _ ∈ _; rw [hns]; exact (.tail _ (.tail _ (.tail _ (.tail _ (HM1_f2.out)))))
    have HM2_g1 : Hid (((.slice g1o (nd 4294967296 (P2)) g1c, P2) : Value × Nat) ∈ ns2) := by show _ ∈ _; rw [hns]; exact (.tail _ (.tail _ (.tail _ (.tail _ (HM1_g1.out)))))
    have HM2_g2 : Hid (((.slice g2o (nd 4294967296 (Q2)) g2c, Q2) : Value × Nat) ∈ ns2) := by show _ ∈ _; rw [hns]; exact (.tail _ (.tail _ (.tail _ (.tail _ (HM1_g2.out)))))
    have HM2_sa1 : Hid (((.slice sa1o (nd 4294967296 (S1)) sa1c, S1) : Value × Nat) ∈ ns2) := by show _ ∈ _; rw [hns]; exact (.tail _ (.tail _ (.tail _ (.head _))))
    have HM2_sa2 : Hid (((.slice sa2o (nd 4294967296 (S2)) sa2c, S2) : Value × Nat) ∈ ns2) := by show _ ∈ _; rw [hns]; exact (.tail _ (.tail _ (.head _)))
    have HM2_ta1 : Hid (((.slice ta1o (nd 4294967296 (T1)) ta1c, T1) : Value × Nat) ∈ ns2) := by show _ ∈ _; rw [hns]; exact (.tail _ (.head _))
    have HM2_ta2 : Hid (((.slice ta2o (nd 4294967296 (T2)) ta2c, T2) : Value × Nat) ∈ ns2) := by show _ ∈ _; rw [hns]; exact (.head _)
    have HCL2 : Hid (∀ W', Kq cs2 ns2 rs2 w W' → W'.cell? ⟨w1.heap.size, 0, none⟩ = some (.slice f1o (nd 4294967296 (P1)) f1c) ∧ W'.cell? ⟨w1.heap.size, 1, none⟩ = some (.slice f2o (nd 4294967296 (Q1)) f2c) ∧ W'.cell? ⟨w2.heap.size, 0, none⟩ = some (.slice g1o (nd 4294967296 (P2)) g1c) ∧ W'.cell? ⟨w2.heap.size, 1, none⟩ = some (.slice g2o (nd 4294967296 (Q2)) g2c) ∧ W'.cell? ⟨w4.heap.size, 0, none⟩ = some (.slice sa1o (nd 4294967296 (S1)) sa1c) ∧ W'.cell? ⟨w4.heap.size, 1, none⟩ = some (.slice sa2o (nd 4294967296 (S2)) sa2c) ∧ W'.cell? ⟨w5.heap.size, 0, none⟩ = some (.slice ta1o (nd 4294967296 (T1)) ta1c) ∧ W'.cell? ⟨w5.heap.size, 1, none⟩ = some (.slice ta2o (nd 4294967296 (T2)) ta2c)) := fun W' h => ⟨h.cell HC2_f1.out, h.cell HC2_f2.out, h.cell HC2_g1.out, h.cell HC2_g2.out, h.cell HC2_sa1.out, h.cell HC2_sa2.out, h.cell HC2_ta1.out, h.cell HC2_ta2.out⟩
    have hs2 := hs.drew
    have hcl := HCL2.out _ hs2
    have hc0 := HCL2.out _ hs
    have HAK2 := Lib.hid (fun W' (h : Kq cs2 ns2 rs2 w W') => awake_Q h)
    clear hcs hns hrs HS6
    have B1 : Hid (∀ W', Kq cs2 ns2 rs2 w W' → Calls Tryd.prog 26 #[.agg #[.slice g1o (nd 4294967296 (P2)) g1c, .slice g2o (nd 4294967296 (Q2)) g2c], .agg #[.slice f1o (nd 4294967296 (P1)) f1c, .slice f2o (nd 4294967296 (Q1)) f2c]] W' fun e w' => e = .returned (.int .i64 (-1)) ∧ Kq cs2 ns2 rs2 w w') := fun W' h => (HGF.out _ _ _ _ _ (h.num _ (HM2_g1.out)) (h.num _ (HM2_g2.out)) (h.num _ (HM2_f1.out)) (h.num _ (HM2_f2.out))).mono fun e w' ⟨he, hB⟩ => ⟨he, h.next hB⟩
    have B2 : Hid (∀ W', Kq cs2 ns2 rs2 w W' → Calls Tryd.prog 26 #[.agg #[.slice sa1o (nd 4294967296 (S1)) sa1c, .slice sa2o (nd 4294967296 (S2)) sa2c], .agg #[.slice ta1o (nd 4294967296 (T1)) ta1c, .slice ta2o (nd 4294967296 (T2)) ta2c]] W' fun e w' => e = .returned (.int .i64 1) ∧ Kq cs2 ns2 rs2 w w') := fun W' h => (HSC.out _ _ _ _ _ (h.num _ (HM2_sa1.out)) (h.num _ (HM2_sa2.out)) (h.num _ (HM2_ta1.out)) (h.num _ (HM2_ta2.out))).mono fun e w' ⟨he, hB⟩ => ⟨he, h.next hB⟩
    have B3 : Hid (∀ W', Kq cs2 ns2 rs2 w W' → Calls Tryd.prog 26 #[.agg #[.slice f1o (nd 4294967296 (P1)) f1c, .slice f2o (nd 4294967296 (Q1)) f2c], .agg #[.slice f1o (nd 4294967296 (P1)) f1c, .slice f2o (nd 4294967296 (Q1)) f2c]] W' fun e w' => e = .returned (.int .i64 0) ∧ Kq cs2 ns2 rs2 w w') := fun W' h => (HFF.out _ _ _ _ _ (h.num _ (HM2_f1.out)) (h.num _ (HM2_f2.out)) (h.num _ (HM2_f1.out)) (h.num _ (HM2_f2.out))).mono fun e w' ⟨he, hB⟩ => ⟨he, h.next hB⟩
    have B4 : Hid (∀ W', Kq cs2 ns2 rs2 w W' → Calls Tryd.prog 27 #[.agg #[.slice f1o (nd 4294967296 (P1)) f1c, .slice f2o (nd 4294967296 (Q1)) f2c]] W' fun e w' => e = .returned (.string Sf) ∧ Kq cs2 ns2 rs2 w w') := fun W' h => (HTF.out _ _ _ (h.num _ (HM2_f1.out)) (h.num _ (HM2_f2.out)) h.env).mono fun e w' ⟨he, hB⟩ => ⟨he, h.next hB⟩
    have B5 : Hid (∀ W', Kq cs2 ns2 rs2 w W' → Calls Tryd.prog 27 #[.agg #[.slice g1o (nd 4294967296 (P2)) g1c, .slice g2o (nd 4294967296 (Q2)) g2c]] W' fun e w' => e = .returned (.string Sg) ∧ Kq cs2 ns2 rs2 w w') := fun W' h => (HTG.out _ _ _ (h.num _ (HM2_g1.out)) (h.num _ (HM2_g2.out)) h.env).mono fun e w' ⟨he, hB⟩ => ⟨he, h.next hB⟩
    clear HXY HYZ HXZ HGF HFF HSC HTF HTG HAS HAT
    have hne : ¬ Sf = Sg := fun e => absurd (HST.out.1 e) (by decide)
    have hnb : (Sf.toList == Sg.toList) = false := beq_eq_false_iff_ne.2 (fun h => hne (text_inj h))
    rcases (show (0 ≤ ky ∧ 0 ≤ kz) ∨ ky < 0 from by have := HTR.out.2 (by decide); omega) with ⟨hy, hz⟩ | hy
    all_goals (clear HX3 HY3 HZ3 HTR)
    all_goals (clear HST)
    all_goals (clear HWR)
    all_goals (have wf1 : IntKind.i64.wrap 1 = 1 := rfl)
    all_goals (have wf0 : IntKind.i64.wrap 0 = 0 := rfl)
    all_goals (have wfm : IntKind.i64.wrap (-1) = -1 := rfl)
    all_goals
      go_wp2_with fail
      go_region_held3 (fun W' : World => (W'.cell? ⟨w1.heap.size, 0, none⟩ = some (.slice f1o (nd 4294967296 (P1)) f1c) ∧ W'.cell? ⟨w1.heap.size, 1, none⟩ = some (.slice f2o (nd 4294967296 (Q1)) f2c) ∧ W'.cell? ⟨w2.heap.size, 0, none⟩ = some (.slice g1o (nd 4294967296 (P2)) g1c) ∧ W'.cell? ⟨w2.heap.size, 1, none⟩ = some (.slice g2o (nd 4294967296 (Q2)) g2c) ∧ W'.cell? ⟨w4.heap.size, 0, none⟩ = some (.slice sa1o (nd 4294967296 (S1)) sa1c) ∧ W'.cell? ⟨w4.heap.size, 1, none⟩ = some (.slice sa2o (nd 4294967296 (S2)) sa2c) ∧ W'.cell? ⟨w5.heap.size, 0, none⟩ = some (.slice ta1o (nd 4294967296 (T1)) ta1c) ∧ W'.cell? ⟨w5.heap.size, 1, none⟩ = some (.slice ta2o (nd 4294967296 (T2)) ta2c)) ∧ Kq cs2 ns2 rs2 w W') (first | (refine And.intro ?_ ?_ <;> assumption)) (first
        | (go_at_call 26; with_reducible refine (B1.out _ ?h).mono ?_; (case h => assumption); rintro e w' ⟨rfl, hs'⟩; have hc' := HCL2.out _ hs')
        | (go_at_call 26; with_reducible refine (B2.out _ ?h).mono ?_; (case h => assumption); rintro e w' ⟨rfl, hs'⟩; have hc' := HCL2.out _ hs')
        | (go_at_call 26; with_reducible refine (B3.out _ ?h).mono ?_; (case h => assumption); rintro e w' ⟨rfl, hs'⟩; have hc' := HCL2.out _ hs')
        | (go_at_call 27; with_reducible refine (B4.out _ ?h).mono ?_; (case h => assumption); rintro e w' ⟨rfl, hs'⟩; have hc' := HCL2.out _ hs')
        | (go_at_call 27; with_reducible refine (B5.out _ ?h).mono ?_; (case h => assumption); rintro e w' ⟨rfl, hs'⟩; have hc' := HCL2.out _ hs')
        | (go_at_call 6; with_reducible refine (HAK2.out _ ?h).mono ?_; (case h => assumption); rintro e w' ⟨rfl, hs'⟩; have hc' := HCL2.out _ hs'))
    all_goals go_wp2
    all_goals go_ret
    all_goals exact ⟨by simp, (by assumption : Kq cs2 ns2 rs2 w _).bel⟩
end Go.Proofs.YteajinpfigejfaaDoor
namespace Go.Proofs.YteajinpfigejfaaDoor
open Go Go.RowKit Gu
theorem natFracOrder_walk (u0 u1 u2 u3 u4 u5 : Value) (xs0 xs1 xs2 xs3 xs4 xs5 : List Nat) (w : World) (hu0 : IsRaw w u0 xs0) (hu1 : IsRaw w u1 xs1) (hu2 : IsRaw w u2 xs2) (hu3 : IsRaw w u3 xs3) (hu4 : IsRaw w u4 xs4) (hu5 : IsRaw w u5 xs5) (hl0 : xs0.length ≤ maxLen) (hl1 : xs1.length ≤ maxLen) (hl2 : xs2.length ≤ maxLen) (hl3 : xs3.length ≤ maxLen) (hl4 : xs4.length ≤ maxLen) (hl5 : xs5.length ≤ maxLen) (he : Env w) :
    Calls Tryd.prog 5 #[u0, u1, u2, u3, u4, u5] w fun e w' => e = .returned (.bool true) ∧ Below w.heap.size w w' := by
  rcases Nat.eq_zero_or_pos (rawN xs1 8) with h1 | h1
  · exact natFracOrder_z1 u0 u1 u2 u3 u4 u5 xs0 xs1 xs2 xs3 xs4 xs5 w hu0 hu1 hu2 hu3 hu4 hu5 hl0 hl1 hl2 hl3 hl4 hl5 h1 he
  · rcases Nat.eq_zero_or_pos (rawN xs3 8) with h2 | h2
    · exact natFracOrder_z2 u0 u1 u2 u3 u4 u5 xs0 xs1 xs2 xs3 xs4 xs5 w hu0 hu1 hu2 hu3 hu4 hu5 hl0 hl1 hl2 hl3 hl4 hl5 h1 h2 he
    · rcases Nat.eq_zero_or_pos (rawN xs5 8) with h3 | h3
      · exact natFracOrder_z3 u0 u1 u2 u3 u4 u5 xs0 xs1 xs2 xs3 xs4 xs5 w hu0 hu1 hu2 hu3 hu4 hu5 hl0 hl1 hl2 hl3 hl4 hl5 h1 h2 h3 he
      · rcases cmp_three (lowP (rawN xs0 8) (rawN xs1 8) * lowQ (rawN xs2 8) (rawN xs3 8)) (lowP (rawN xs2 8) (rawN xs3 8) * lowQ (rawN xs0 8) (rawN xs1 8)) with hk | hk | hk
        · exact natFracOrder_ml u0 u1 u2 u3 u4 u5 xs0 xs1 xs2 xs3 xs4 xs5 w hu0 hu1 hu2 hu3 hu4 hu5 hl0 hl1 hl2 hl3 hl4 hl5 h1 h2 h3 hk he
        · exact natFracOrder_me u0 u1 u2 u3 u4 u5 xs0 xs1 xs2 xs3 xs4 xs5 w hu0 hu1 hu2 hu3 hu4 hu5 hl0 hl1 hl2 hl3 hl4 hl5 h1 h2 h3 hk he
        · exact natFracOrder_mg u0 u1 u2 u3 u4 u5 xs0 xs1 xs2 xs3 xs4 xs5 w hu0 hu1 hu2 hu3 hu4 hu5 hl0 hl1 hl2 hl3 hl4 hl5 h1 h2 h3 hk he
end Go.Proofs.YteajinpfigejfaaDoor
namespace Go.Proofs.YteajinpfigejfaaDoor
open Go Go.RowKit Gu

theorem own : ownKnob Tryd.prog.godebug = none := by kernel_rfl
theorem env_of_laid {W : World} {l : List (String × DataW Unit)}
    (hl : l.filter (fun x => x.1 == "internal/strconv.uint64pow10") = [("internal/strconv.uint64pow10", Rows.laid_internal_strconv_uint64pow10)]) (h : laidMetH Tryd.prog l W) : Env W := by
  have h1 := h.filter (fun x => x.1 == "internal/strconv.uint64pow10")
  rw [hl, MakeChecks.laidMetH_plain _ _ _ (by kernel_rfl)] at h1
  exact Lib.tabIs_of_head (g := 1) (by kernel_rfl) (by kernel_rfl) Tryd.underlying148 Tryd.underlying94 (by kernel_rfl) (by kernel_rfl) h1
end Go.Proofs.YteajinpfigejfaaDoor
namespace Go.Proofs.YteajinpfigejfaaDoor
open Go Go.ChangeShapes Go.WideShapes Go.ChangeAt Go.RowKit Gu

theorem laidOut' : laidOutB Tryd.prog = true := by kernel_rfl
theorem u16_of_wf {n : Int} (h : (Lit.int .u16 n).wf = true) : 0 ≤ n ∧ n ≤ 65535 := by
  simpa [Lit.wf, IntKind.min, IntKind.max, IntKind.signed, IntKind.bits] using h
theorem raw_of {H : Type} {enc : TypeId × Value → H} {W : World} {d : DataW H} {p : List MemPlace} {a0 : Option Addr} {len cap : Nat}
    (h : DataW.Trod enc Tryd.prog W 0 (fun _ => true) true 37 (.slice a0 len cap) d p) : ∃ xs, IsRaw W (.slice a0 len cap) xs ∧ xs.length ≤ maxLen := by
  obtain ⟨fuel, hf⟩ := h
  have c16 : Tryd.prog.cellsOf 72 = 1 := by kernel_rfl
  rcases open_ints Tryd.underlying37 Tryd.underlying72 c16 hf with ⟨hcs, hx⟩ | ⟨a, len', cap', zs, hcs, _, hl, hm, hz, hx, hcell, hwz⟩
  · simp [Value.cells] at hcs
    obtain ⟨rfl, rfl, rfl⟩ := hcs
    exact ⟨[], ⟨Dig.nil _, .inl ⟨rfl, _, _, rfl⟩⟩, by simp⟩
  · simp [Value.cells] at hcs
    obtain ⟨rfl, rfl, rfl⟩ := hcs
    simp only [if_true] at hz
    rcases Nat.eq_zero_or_pos len with h0 | h0
    · subst h0
      exact ⟨[], ⟨Dig.nil _, .inl ⟨rfl, _, _, rfl⟩⟩, by simp⟩
    · obtain ⟨b, o, s⟩ := a
      obtain rfl : s = none := by
        have h1 := hcell 0 (by omega)
        cases s with
        | none => rfl
        | some _ =>
          exfalso
          unfold World.cell? Addr.add at h1
          simp only [if_true] at h1
          split at h1 <;> simp at h1
      have hl' : ((zs.take len).map Int.toNat).length = len := by rw [List.length_map, List.length_take]; omega
      have hget : ∀ i (h : i < ((zs.take len).map Int.toNat).length), ∃ hi : i < zs.length, ((zs.take len).map Int.toNat)[i] = zs[i].toNat := fun i h => ⟨by omega, by simp⟩
      refine ⟨(zs.take len).map Int.toNat, ⟨fun i hi => ?_, .inr ⟨b, o, cap, by rw [hl'], fun i hi => ?_⟩⟩, by omega⟩
      · obtain ⟨hi2, e⟩ := hget i hi
        have := u16_of_wf (hwz _ (List.getElem_mem hi2))
        rw [e]; omega
      · obtain ⟨hi2, e⟩ := hget i hi
        have := u16_of_wf (hwz _ (List.getElem_mem hi2))
        have h1 := hcell i hi2
        rw [add_plain] at h1
        rw [h1, e, List.getD, List.getElem?_eq_getElem hi2, Option.getD_some, Int.toNat_of_nonneg this.1]
end Go.Proofs.YteajinpfigejfaaDoor
namespace Go.Proofs.YteajinpfigejfaaDoor
open Go Go.ChangeShapes Go.RowKit
section
variable {H : Type} {enc : TypeId × Value → H} {P : Program} {w : World} {base : Nat} {spare : Nat → Bool} {held : Bool}
theorem trodAll_six {t0 t1 t2 t3 t4 t5 : TypeId} {args : Array Value} {ds : List (DataW H)} {ps : List MemPlace} (h : DataW.TrodAll enc P w base spare held [t0, t1, t2, t3, t4, t5] args.toList ds ps) :
    ∃ v0 v1 v2 v3 v4 v5 d0 d1 d2 d3 d4 d5 p0 p1 p2 p3 p4 p5, args = #[v0, v1, v2, v3, v4, v5] ∧ ds = [d0, d1, d2, d3, d4, d5] ∧ ps = p0 ++ (p1 ++ (p2 ++ (p3 ++ (p4 ++ p5)))) ∧ DataW.Trod enc P w base spare held t0 v0 d0 p0 ∧ DataW.Trod enc P w base spare held t1 v1 d1 p1 ∧ DataW.Trod enc P w base spare held t2 v2 d2 p2 ∧ DataW.Trod enc P w base spare held t3 v3 d3 p3 ∧ DataW.Trod enc P w base spare held t4 v4 d4 p4 ∧ DataW.Trod enc P w base spare held t5 v5 d5 p5 := by
  obtain ⟨v0, vs0, d0, ds0, p0, q0, hargs, rfl, rfl, hd0, r0⟩ := trodAll_cons h
  obtain ⟨v1, vs1, d1, ds1, p1, q1, rfl, rfl, rfl, hd1, r1⟩ := trodAll_cons r0
  obtain ⟨v2, vs2, d2, ds2, p2, q2, rfl, rfl, rfl, hd2, r2⟩ := trodAll_cons r1
  obtain ⟨v3, vs3, d3, ds3, p3, q3, rfl, rfl, rfl, hd3, r3⟩ := trodAll_cons r2
  obtain ⟨v4, vs4, d4, ds4, p4, q4, rfl, rfl, rfl, hd4, r4⟩ := trodAll_cons r3
  obtain ⟨v5, vs5, d5, ds5, p5, q5, rfl, rfl, rfl, hd5, r5⟩ := trodAll_cons r4
  obtain ⟨rfl, rfl, rfl⟩ := trodAll_nil r5
  exact ⟨v0, v1, v2, v3, v4, v5, d0, d1, d2, d3, d4, d5, p0, p1, p2, p3, p4, p5, by cases args; simp_all, rfl, by simp, hd0, hd1, hd2, hd3, hd4, hd5⟩

theorem trodAll_mk6 {t0 t1 t2 t3 t4 t5 : TypeId} {v0 v1 v2 v3 v4 v5 : Value} {d0 d1 d2 d3 d4 d5 : DataW H} {p0 p1 p2 p3 p4 p5 : List MemPlace} (h0 : DataW.Trod enc P w base spare held t0 v0 d0 p0) (h1 : DataW.Trod enc P w base spare held t1 v1 d1 p1)
    (h2 : DataW.Trod enc P w base spare held t2 v2 d2 p2) (h3 : DataW.Trod enc P w base spare held t3 v3 d3 p3) (h4 : DataW.Trod enc P w base spare held t4 v4 d4 p4) (h5 : DataW.Trod enc P w base spare held t5 v5 d5 p5) :
    DataW.TrodAll enc P w base spare held [t0, t1, t2, t3, t4, t5] [v0, v1, v2, v3, v4, v5] [d0, d1, d2, d3, d4, d5] (p0 ++ (p1 ++ (p2 ++ (p3 ++ (p4 ++ p5))))) :=
  ⟨p0, _, h0, ⟨p1, _, h1, trodAll_mk4 h2 h3 h4 h5, rfl⟩, rfl⟩
end
end Go.Proofs.YteajinpfigejfaaDoor
namespace Go.Proofs.YteajinpfigejfaaDoor
open Go Go.ChangeShapes Go.WideShapes Go.ChangeAt Go.RowKit Gu

set_option maxRecDepth 100000 in
theorem natFracOrder_lifted (os : Os) (started : os.Started) (H : Type) (enc : TypeId × Value → H) :
    ReturnsInHanded {} Tryd.checked os 5 .any (fun w args => (Rows.natFracOrderSpec.pre enc Tryd.prog Tryd.f5 [] false w args ∧ laidMetH Tryd.prog Rows.natFracOrderRow.laid w) ∧ sizedMet enc Tryd.prog Tryd.f5 (OpenSpec.ofChange Rows.natFracOrderSpec) false w args)
      (Rows.natFracOrderSpec.post enc Tryd.prog Tryd.f5 false true false false) := by
  refine returnsInHanded_of_change_and (C := Tryd.checked) (X := fun w _ => laidMetH Tryd.prog Rows.natFracOrderRow.laid w) (fun _ _ _ hh h => h.of_heap hh) own started (by kernel_rfl) Tryd.func5
    (ChangeSpec.witness_shaped (enc := enc) (C := Tryd.checked) (os := os) (X := fun w _ => laidMetH Tryd.prog Rows.natFracOrderRow.laid w) false (World.laidAll Tryd.prog os Rows.natFracOrderRow.laid) #[.slice none 0 0, .slice none 0 0, .slice none 0 0, .slice none 0 0, .slice none 0 0, .slice none 0 0] 8 (World.laidAll_os _ _ _)
      (World.shaped_of_ZipB (by kernel_rfl) (by kernel_rfl)) (by kernel_rfl) (by kernel_rfl) (by kernel_rfl)
      (by rw [MakeChecks.laidMetH_plain _ _ _ (by kernel_rfl)]; exact laidMet_laidAll _ (by kernel_rfl) (by kernel_rfl))) ?_
  intro W base args ds gs before hval0 hW _ _ hL _
  have hval : ∀ (j : Nat) t v, Tryd.f5.params[j]? = some t → args[j]? = some v → Value.okWide Tryd.prog W .any base t v := hval0
  have hW' := hW
  obtain ⟨p, q, hA0, hV, rfl, hfz, hnd⟩ := hW
  have hA : DataW.TrodAll enc Tryd.prog W 0 (fun _ => true) true Tryd.f5.params.toList args.toList ds p := hA0
  rw [Tryd.params5] at hA hval
  obtain ⟨v0, v1, v2, v3, v4, v5, d0, d1, d2, d3, d4, d5, p0, p1, p2, p3, p4, p5, rfl, rfl, rfl, h0, h1, h2, h3, h4, h5⟩ := trodAll_six hA
  obtain ⟨rfl, rfl⟩ := trodVars_none hV
  obtain ⟨a0, len0, cap0, rfl⟩ := okWide_slice Tryd.underlying37 (hval 0 37 v0 rfl rfl)
  obtain ⟨a1, len1, cap1, rfl⟩ := okWide_slice Tryd.underlying37 (hval 1 37 v1 rfl rfl)
  obtain ⟨a2, len2, cap2, rfl⟩ := okWide_slice Tryd.underlying37 (hval 2 37 v2 rfl rfl)
  obtain ⟨a3, len3, cap3, rfl⟩ := okWide_slice Tryd.underlying37 (hval 3 37 v3 rfl rfl)
  obtain ⟨a4, len4, cap4, rfl⟩ := okWide_slice Tryd.underlying37 (hval 4 37 v4 rfl rfl)
  obtain ⟨a5, len5, cap5, rfl⟩ := okWide_slice Tryd.underlying37 (hval 5 37 v5 rfl rfl)
  obtain ⟨xs0, hraw0, hlen0⟩ := raw_of h0
  obtain ⟨xs1, hraw1, hlen1⟩ := raw_of h1
  obtain ⟨xs2, hraw2, hlen2⟩ := raw_of h2
  obtain ⟨xs3, hraw3, hlen3⟩ := raw_of h3
  obtain ⟨xs4, hraw4, hlen4⟩ := raw_of h4
  obtain ⟨xs5, hraw5, hlen5⟩ := raw_of h5
  clear hA0 hval0
  simp only [List.append_nil] at hW'
  have hlt0 : ∀ x ∈ p0, x.block < W.heap.size := fun x hx => hW'.lt x (by simp [hx])
  have hlt1 : ∀ x ∈ p1, x.block < W.heap.size := fun x hx => hW'.lt x (by simp [hx])
  have hlt2 : ∀ x ∈ p2, x.block < W.heap.size := fun x hx => hW'.lt x (by simp [hx])
  have hlt3 : ∀ x ∈ p3, x.block < W.heap.size := fun x hx => hW'.lt x (by simp [hx])
  have hlt4 : ∀ x ∈ p4, x.block < W.heap.size := fun x hx => hW'.lt x (by simp [hx])
  have hlt5 : ∀ x ∈ p5, x.block < W.heap.size := fun x hx => hW'.lt x (by simp [hx])
  refine (natFracOrder_walk _ _ _ _ _ _ xs0 xs1 xs2 xs3 xs4 xs5 W hraw0 hraw1 hraw2 hraw3 hraw4 hraw5 hlen0 hlen1 hlen2 hlen3 hlen4 hlen5 (env_of_laid (by rfl) hL)).mono fun e W' ⟨he, hb⟩ => ?_
  subst he
  exact ⟨_, rfl, _, _, _, [], _, [], hW', trodAll_mk1 (shut_bool Tryd.underlying4 _),
    trodAll_mk6 (Below.trod laidOut' (by kernel_rfl) (of_decide_eq_true (by kernel_rfl)) h0 hb hlt0) (Below.trod laidOut' (by kernel_rfl) (of_decide_eq_true (by kernel_rfl)) h1 hb hlt1) (Below.trod laidOut' (by kernel_rfl) (of_decide_eq_true (by kernel_rfl)) h2 hb hlt2) (Below.trod laidOut' (by kernel_rfl) (of_decide_eq_true (by kernel_rfl)) h3 hb hlt3) (Below.trod laidOut' (by kernel_rfl) (of_decide_eq_true (by kernel_rfl)) h4 hb hlt4) (Below.trod laidOut' (by kernel_rfl) (of_decide_eq_true (by kernel_rfl)) h5 hb hlt5), rfl, hb.frame _, fun h => by cases h⟩
theorem natFracOrder_holds : Rows.NatFracOrderSaid :=
  OpenClaim.holds_of_wide 5 Tryd.f5 rfl rfl rfl rfl rfl rfl rfl ⟨rfl, rfl, rfl, rfl, rfl⟩ rfl rfl rfl rfl rfl (by kernel_rfl) Tryd.func5 (by kernel_rfl)
    (of_decide_eq_true (by kernel_rfl)) (by unfold Func.isWrapper; first | (rw [if_pos (by decide +kernel)]; kernel_rfl) | (rw [if_neg (by decide +kernel)]; exact ⟨rfl, rfl⟩))
    (fun os started H enc _ => natFracOrder_lifted os started H enc)
theorem natFracOrder_card_holds : Rows.NatFracOrderCardSaid :=
  Claim7.holds_tied_plain_at .later [] [.data, .data, .data] true _ false
    natFracOrder_holds (fun _ h => by cases h) (by kernel_rfl) (fun _ h => by cases h) natFracOrder_row_tie rfl ⟨rfl, rfl⟩ (by kernel_rfl) rfl
    (fun f fn hf hfn => by
      obtain rfl : f = 5 := Option.some.inj ((show Tryd.prog.funcNamed "guilloche/guillochelaw01.NatFracOrder" = some 5 by kernel_rfl).symm.trans hf) |>.symm
      obtain rfl : fn = Tryd.f5 := (Option.some.inj (Tryd.func5.symm.trans hfn)).symm
      exact ⟨by kernel_rfl, fun j t ht => by
        rw [Tryd.params5] at ht
        have hm : t ∈ [37, 37, 37, 37, 37, 37] := by simpa using Array.mem_of_getElem? ht
        have hall : ([37, 37, 37, 37, 37, 37].all fun u => !Tryd.prog.wantsStandIn u) = true := by kernel_rfl
        exact (show Tryd.prog.wantsStandIn t = false by simpa using List.all_eq_true.1 hall t hm)⟩)
    (by kernel_rfl)
#print axioms natFracOrder_card_holds
end Go.Proofs.YteajinpfigejfaaDoor
