/- Contracts and lemmas (several texts merged into one). -/
import Derived.Test.YtepjpegfofhipaaGreatDoorBFkp6
import Derived.Test.YtepjpegfofhipaaGreatDoorBFkp7
namespace Go.Proofs.YtepjpegfofhipaaGreatDoor
open Go Go.RowKit Gu

theorem sums_fit {L M : Nat} (h1 : nd 65536 L ≤ 100) (h2 : nd 65536 M ≤ 100) : ffE (lowP L M) (lowQ L M) = 0 ∧ ffN (lowP L M) (lowQ L M) (lowP L M) = lowP L M ∧ ffN (lowP L M) (lowQ L M) (lowQ L M) = lowQ L M := by
  have e1 := fit_ok (Nat.le_trans (nd_mono (B := 65536) (by decide) (show lowP L M ≤ L from Nat.div_le_self _ _)) (Nat.le_trans h1 (by decide)))
  have e2 := fit_ok (Nat.le_trans (nd_mono (B := 65536) (by decide) (show lowQ L M ≤ M from Nat.div_le_self _ _)) (Nat.le_trans h2 (by decide)))
  exact ⟨if_pos ⟨e1, e2⟩, if_pos ⟨e1, e2⟩, if_pos ⟨e1, e2⟩⟩
theorem low_pos {L M : Nat} (h : 0 < M) : 0 < lowQ L M := Nat.div_pos (Nat.gcd_le_right _ h) (Nat.gcd_pos_of_pos_right _ h)
theorem low_nd {L M m k : Nat} (h1 : nd 65536 L ≤ m) (h2 : nd 65536 M ≤ k) : nd 65536 (lowP L M) ≤ m ∧ nd 65536 (lowQ L M) ≤ k := ⟨Nat.le_trans (nd_mono (by decide) (Nat.div_le_self _ _)) h1, Nat.le_trans (nd_mono (by decide) (Nat.div_le_self _ _)) h2⟩
theorem nd_radd {a b m : Nat} (ha : nd 65536 a ≤ m) (hb : nd 65536 b ≤ m) : nd 65536 (a + b) ≤ m + 1 := by
  have h1 := (nd_le (by decide : 2 ≤ 65536)).1 ha
  have h2 := (nd_le (by decide : 2 ≤ 65536)).1 hb
  apply (nd_le (by decide : 2 ≤ 65536)).2
  have h3 : 65536 ^ m * 2 ≤ 65536 ^ m * 65536 := Nat.mul_le_mul_left _ (by decide)
  rw [Nat.pow_succ]; omega
set_option maxHeartbeats 4000000 in
set_option maxRecDepth 100000 in
theorem natFracSums_zz (u0 u1 u2 u3 : Value) (xs0 xs1 xs2 xs3 : List Nat) (w : World) (hu0 : IsRaw w u0 xs0) (hu1 : IsRaw w u1 xs1) (hu2 : IsRaw w u2 xs2) (hu3 : IsRaw w u3 xs3) (hl0 : xs0.length ≤ maxLen) (hl1 : xs1.length ≤ maxLen) (hl2 : xs2.length ≤ maxLen) (hl3 : xs3.length ≤ maxLen) (h1 : rawN xs1 12 = 0) (h2 : rawN xs3 12 = 0) (he : Env w) :
    Calls Tryz.prog 3 #[u0, u1, u2, u3] w fun e w' => e = .returned (.bool true) ∧ Below w.heap.size w w' := by
  have HS0 := Lib.hid (Kq.start he)
  have hn0 := rawN_nd hu0.1 12
  have hn1 := rawN_nd hu1.1 12
  have hn2 := rawN_nd hu2.1 12
  have hn3 := rawN_nd hu3.1 12
  have HU0 := Lib.hid hu0
  have HU1 := Lib.hid hu1
  have HU2 := Lib.hid hu2
  have HU3 := Lib.hid hu3
  have HH1 := Lib.hid (fun W (i1 : IsRaw W u0 xs0) (i2 : IsRaw W u1 xs1) => half_zero u0 u1 xs0 xs1 12 W i1 i2 hl0 hl1 (by decide) h1)
  have HH2 := Lib.hid (fun W (i1 : IsRaw W u2 xs2) (i2 : IsRaw W u3 xs3) => half_zero u2 u3 xs2 xs3 12 W i1 i2 hl2 hl3 (by decide) h2)

  obtain ⟨uo0, uc0, rfl, -⟩ := hu0.shape
  obtain ⟨uo1, uc1, rfl, -⟩ := hu1.shape
  obtain ⟨uo2, uc2, rfl, -⟩ := hu2.shape
  obtain ⟨uo3, uc3, rfl, -⟩ := hu3.shape
  clear he hu0 hl0 hu1 hl1 hu2 hl2 hu3 hl3
  generalize rawN xs0 12 = a at *
  generalize rawN xs1 12 = b at *
  generalize rawN xs2 12 = c at *
  generalize rawN xs3 12 = d at *
  go_enter Tryz.func3, Tryz.ntmps3
  go_wp2_with fail
  refine (HH1.out _ (IsRaw.below HU0.out HS0.out.bel) (IsRaw.below HU1.out HS0.out.bel)).mono ?_
  rintro e w1 ⟨rfl, hb⟩
  have hs := ((HS0.out.next hb).boxed2 (.slice none 0 0) (.slice none 0 0) 26).boxed2 (.slice none 0 0) (.slice none 0 0) 29
  have HS1 := Lib.hid hs
  clear hs hb HS0
  go_wp2_with fail
  refine (HH2.out _ (IsRaw.below HU2.out HS1.out.bel) (IsRaw.below HU3.out HS1.out.bel)).mono ?_
  rintro e w2 ⟨rfl, hb⟩
  have hs := ((HS1.out.next hb).boxed2 (.slice none 0 0) (.slice none 0 0) 26).boxed2 (.slice none 0 0) (.slice none 0 0) 29
  have HS2 := Lib.hid hs
  clear hs hb HS1
  go_wp2_with fail
  refine (awake_Q HS2.out).mono ?_
  rintro e w3 ⟨rfl, hs⟩
  have HS3 := Lib.hid hs
  clear hs HS2
  go_wp2
  go_ret
  exact ⟨by simp, HS3.out.bel⟩
set_option maxHeartbeats 4000000 in
set_option maxRecDepth 100000 in
theorem natFracSums_zp (u0 u1 u2 u3 : Value) (xs0 xs1 xs2 xs3 : List Nat) (w : World) (hu0 : IsRaw w u0 xs0) (hu1 : IsRaw w u1 xs1) (hu2 : IsRaw w u2 xs2) (hu3 : IsRaw w u3 xs3) (hl0 : xs0.length ≤ maxLen) (hl1 : xs1.length ≤ maxLen) (hl2 : xs2.length ≤ maxLen) (hl3 : xs3.length ≤ maxLen) (h1 : rawN xs1 12 = 0) (h2 : 0 < rawN xs3 12) (he : Env w) :
    Calls Tryz.prog 3 #[u0, u1, u2, u3] w fun e w' => e = .returned (.bool true) ∧ Below w.heap.size w w' := by
  have HS0 := Lib.hid (Kq.start he)
  have hn0 := rawN_nd hu0.1 12
  have hn1 := rawN_nd hu1.1 12
  have hn2 := rawN_nd hu2.1 12
  have hn3 := rawN_nd hu3.1 12
  have HU0 := Lib.hid hu0
  have HU1 := Lib.hid hu1
  have HU2 := Lib.hid hu2
  have HU3 := Lib.hid hu3
  have HH1 := Lib.hid (fun W (i1 : IsRaw W u0 xs0) (i2 : IsRaw W u1 xs1) => half_zero u0 u1 xs0 xs1 12 W i1 i2 hl0 hl1 (by decide) h1)
  have HH2 := Lib.hid (fun W (i1 : IsRaw W u2 xs2) (i2 : IsRaw W u3 xs3) => half_pos u2 u3 xs2 xs3 12 W i1 i2 hl2 hl3 (by decide) h2)

  obtain ⟨uo0, uc0, rfl, -⟩ := hu0.shape
  obtain ⟨uo1, uc1, rfl, -⟩ := hu1.shape
  obtain ⟨uo2, uc2, rfl, -⟩ := hu2.shape
  obtain ⟨uo3, uc3, rfl, -⟩ := hu3.shape
  clear he hu0 hl0 hu1 hl1 hu2 hl2 hu3 hl3
  generalize rawN xs0 12 = a at *
  generalize rawN xs1 12 = b at *
  generalize rawN xs2 12 = c at *
  generalize rawN xs3 12 = d at *
  go_enter Tryz.func3, Tryz.ntmps3
  go_wp2_with fail
  refine (HH1.out _ (IsRaw.below HU0.out HS0.out.bel) (IsRaw.below HU1.out HS0.out.bel)).mono ?_
  rintro e w1 ⟨rfl, hb⟩
  have hs := ((HS0.out.next hb).boxed2 (.slice none 0 0) (.slice none 0 0) 26).boxed2 (.slice none 0 0) (.slice none 0 0) 29
  have HS1 := Lib.hid hs
  clear hs hb HS0
  go_wp2_with fail
  refine (HH2.out _ (IsRaw.below HU2.out HS1.out.bel) (IsRaw.below HU3.out HS1.out.bel)).mono ?_
  rintro e w2 ⟨vg1, vg2, vq1, vq2, rfl, hg1, hg2, hq1, hq2, hb⟩
  obtain ⟨g1o, g1c, rfl, -⟩ := hg1.shape
  obtain ⟨g2o, g2c, rfl, -⟩ := hg2.shape
  obtain ⟨q1o, q1c, rfl, -⟩ := hq1.shape
  obtain ⟨q2o, q2c, rfl, -⟩ := hq2.shape
  have hs := ((((((HS1.out.next hb).addNum hg1).addNum hg2).addDig hq1).addDig hq2).boxed2 (.slice g1o (nd 4294967296 (lowP c d)) g1c) (.slice g2o (nd 4294967296 (lowQ c d)) g2c) 26).boxed2 (.slice q1o (nd 65536 (lowP c d)) q1c) (.slice q2o (nd 65536 (lowQ c d)) q2c) 29
  simp only [World.size_alloc] at hs
  have HS2 := Lib.hid hs
  clear hs hb hg1 hg2 hq1 hq2 HS1
  go_wp2_with fail
  refine (awake_Q HS2.out).mono ?_
  rintro e w3 ⟨rfl, hs⟩
  have HS3 := Lib.hid hs
  clear hs HS2
  go_wp2
  go_ret
  exact ⟨by simp, HS3.out.bel⟩
set_option maxHeartbeats 4000000 in
set_option maxRecDepth 100000 in
theorem natFracSums_pz (u0 u1 u2 u3 : Value) (xs0 xs1 xs2 xs3 : List Nat) (w : World) (hu0 : IsRaw w u0 xs0) (hu1 : IsRaw w u1 xs1) (hu2 : IsRaw w u2 xs2) (hu3 : IsRaw w u3 xs3) (hl0 : xs0.length ≤ maxLen) (hl1 : xs1.length ≤ maxLen) (hl2 : xs2.length ≤ maxLen) (hl3 : xs3.length ≤ maxLen) (h1 : 0 < rawN xs1 12) (h2 : rawN xs3 12 = 0) (he : Env w) :
    Calls Tryz.prog 3 #[u0, u1, u2, u3] w fun e w' => e = .returned (.bool true) ∧ Below w.heap.size w w' := by
  have HS0 := Lib.hid (Kq.start he)
  have hn0 := rawN_nd hu0.1 12
  have hn1 := rawN_nd hu1.1 12
  have hn2 := rawN_nd hu2.1 12
  have hn3 := rawN_nd hu3.1 12
  have HU0 := Lib.hid hu0
  have HU1 := Lib.hid hu1
  have HU2 := Lib.hid hu2
  have HU3 := Lib.hid hu3
  have HH1 := Lib.hid (fun W (i1 : IsRaw W u0 xs0) (i2 : IsRaw W u1 xs1) => half_pos u0 u1 xs0 xs1 12 W i1 i2 hl0 hl1 (by decide) h1)
  have HH2 := Lib.hid (fun W (i1 : IsRaw W u2 xs2) (i2 : IsRaw W u3 xs3) => half_zero u2 u3 xs2 xs3 12 W i1 i2 hl2 hl3 (by decide) h2)

  obtain ⟨uo0, uc0, rfl, -⟩ := hu0.shape
  obtain ⟨uo1, uc1, rfl, -⟩ := hu1.shape
  obtain ⟨uo2, uc2, rfl, -⟩ := hu2.shape
  obtain ⟨uo3, uc3, rfl, -⟩ := hu3.shape
  clear he hu0 hl0 hu1 hl1 hu2 hl2 hu3 hl3
  generalize rawN xs0 12 = a at *
  generalize rawN xs1 12 = b at *
  generalize rawN xs2 12 = c at *
  generalize rawN xs3 12 = d at *
  go_enter Tryz.func3, Tryz.ntmps3
  go_wp2_with fail
  refine (HH1.out _ (IsRaw.below HU0.out HS0.out.bel) (IsRaw.below HU1.out HS0.out.bel)).mono ?_
  rintro e w1 ⟨vf1, vf2, vp1, vp2, rfl, hf1, hf2, hp1, hp2, hb⟩
  obtain ⟨f1o, f1c, rfl, -⟩ := hf1.shape
  obtain ⟨f2o, f2c, rfl, -⟩ := hf2.shape
  obtain ⟨p1o, p1c, rfl, -⟩ := hp1.shape
  obtain ⟨p2o, p2c, rfl, -⟩ := hp2.shape
  have hs := ((((((HS0.out.next hb).addNum hf1).addNum hf2).addDig hp1).addDig hp2).boxed2 (.slice f1o (nd 4294967296 (lowP a b)) f1c) (.slice f2o (nd 4294967296 (lowQ a b)) f2c) 26).boxed2 (.slice p1o (nd 65536 (lowP a b)) p1c) (.slice p2o (nd 65536 (lowQ a b)) p2c) 29
  simp only [World.size_alloc] at hs
  have HS1 := Lib.hid hs
  clear hs hb hf1 hf2 hp1 hp2 HS0
  go_wp2_with fail
  refine (HH2.out _ (IsRaw.below HU2.out HS1.out.bel) (IsRaw.below HU3.out HS1.out.bel)).mono ?_
  rintro e w2 ⟨rfl, hb⟩
  have hs := ((HS1.out.next hb).boxed2 (.slice none 0 0) (.slice none 0 0) 26).boxed2 (.slice none 0 0) (.slice none 0 0) 29
  have HS2 := Lib.hid hs
  clear hs hb HS1
  go_wp2_with fail
  refine (awake_Q HS2.out).mono ?_
  rintro e w3 ⟨rfl, hs⟩
  have HS3 := Lib.hid hs
  clear hs HS2
  go_wp2
  go_ret
  exact ⟨by simp, HS3.out.bel⟩
set_option maxHeartbeats 4000000 in
set_option maxRecDepth 100000 in
theorem natFracSums_less (u0 u1 u2 u3 : Value) (xs0 xs1 xs2 xs3 : List Nat) (w : World) (hu0 : IsRaw w u0 xs0) (hu1 : IsRaw w u1 xs1) (hu2 : IsRaw w u2 xs2) (hu3 : IsRaw w u3 xs3) (hl0 : xs0.length ≤ maxLen) (hl1 : xs1.length ≤ maxLen) (hl2 : xs2.length ≤ maxLen) (hl3 : xs3.length ≤ maxLen) (h1 : 0 < rawN xs1 12) (h2 : 0 < rawN xs3 12) (hcase : lowP (rawN xs0 12) (rawN xs1 12) * lowQ (rawN xs2 12) (rawN xs3 12) < lowP (rawN xs2 12) (rawN xs3 12) * lowQ (rawN xs0 12) (rawN xs1 12)) (hnum : 0 < lowP (rawN xs2 12) (rawN xs3 12)) (he : Env w) :
    Calls Tryz.prog 3 #[u0, u1, u2, u3] w fun e w' => e = .returned (.bool true) ∧ Below w.heap.size w w' := by
  have HS0 := Lib.hid (Kq.start he)
  have hn0 := rawN_nd hu0.1 12
  have hn1 := rawN_nd hu1.1 12
  have hn2 := rawN_nd hu2.1 12
  have hn3 := rawN_nd hu3.1 12
  have HU0 := Lib.hid hu0
  have HU1 := Lib.hid hu1
  have HU2 := Lib.hid hu2
  have HU3 := Lib.hid hu3
  have HH1 := Lib.hid (fun W (i1 : IsRaw W u0 xs0) (i2 : IsRaw W u1 xs1) => half_pos u0 u1 xs0 xs1 12 W i1 i2 hl0 hl1 (by decide) h1)
  have HH2 := Lib.hid (fun W (i1 : IsRaw W u2 xs2) (i2 : IsRaw W u3 xs3) => half_pos u2 u3 xs2 xs3 12 W i1 i2 hl2 hl3 (by decide) h2)
  have q1 : 0 < lowQ (rawN xs0 12) (rawN xs1 12) := Nat.div_pos (Nat.gcd_le_right _ h1) (Nat.gcd_pos_of_pos_right _ h1)
  have q2 : 0 < lowQ (rawN xs2 12) (rawN xs3 12) := Nat.div_pos (Nat.gcd_le_right _ h2) (Nat.gcd_pos_of_pos_right _ h2)
  have g1 : nd 65536 (lowP (rawN xs0 12) (rawN xs1 12)) ≤ 12 := Nat.le_trans (nd_mono (by decide) (Nat.div_le_self _ _)) hn0
  have g2 : nd 65536 (lowQ (rawN xs0 12) (rawN xs1 12)) ≤ 12 := Nat.le_trans (nd_mono (by decide) (Nat.div_le_self _ _)) hn1
  have g3 : nd 65536 (lowP (rawN xs2 12) (rawN xs3 12)) ≤ 12 := Nat.le_trans (nd_mono (by decide) (Nat.div_le_self _ _)) hn2
  have g4 : nd 65536 (lowQ (rawN xs2 12) (rawN xs3 12)) ≤ 12 := Nat.le_trans (nd_mono (by decide) (Nat.div_le_self _ _)) hn3
  obtain ⟨uo0, uc0, rfl, -⟩ := hu0.shape
  obtain ⟨uo1, uc1, rfl, -⟩ := hu1.shape
  obtain ⟨uo2, uc2, rfl, -⟩ := hu2.shape
  obtain ⟨uo3, uc3, rfl, -⟩ := hu3.shape
  clear he hu0 hl0 hu1 hl1 hu2 hl2 hu3 hl3
  generalize rawN xs0 12 = a at *
  generalize rawN xs1 12 = b at *
  generalize rawN xs2 12 = c at *
  generalize rawN xs3 12 = d at *
  generalize lowP a b = P1 at *
  generalize lowQ a b = Q1 at *
  generalize lowP c d = P2 at *
  generalize lowQ c d = Q2 at *
  have k1 := nd_32 g1
  have k2 := nd_32 g2
  have k3 := nd_32 g3
  have k4 := nd_32 g4
  have m1 := nd_rmul g1 g4
  have m2 := nd_rmul g3 g2
  have m3 := nd_rmul g2 g4
  have m4 := nd_rmul g1 g3
  have m5 := nd_radd m1 m2
  have p3 : 0 < Q1 * Q2 := Nat.mul_pos q1 q2
  have z1 := low_pos (L := P1 * Q2 + P2 * Q1) p3
  have z2 := low_pos (L := P1 * P2) p3
  have y1 := low_nd m5 m3
  have y2 := low_nd m4 m3
  have HO_a := Lib.hid (fun W v u x y (h1 : D W v P1) (h2 : D W u Q1) (h3 : D W x P2) (h4 : D W y Q2) => FAdd_any v u x y P1 Q1 P2 Q2 W h1 h2 h3 h4 (by omega) (by omega) (by omega) (by omega))
  rw [dn_of q1, dn_of q2] at HO_a
  unfold FRes at HO_a
  rw [(sums_fit (L := P1 * Q2 + P2 * Q1) (M := Q1 * Q2) (by omega) (by omega)).1, (sums_fit (L := P1 * Q2 + P2 * Q1) (M := Q1 * Q2) (by omega) (by omega)).2.1, (sums_fit (L := P1 * Q2 + P2 * Q1) (M := Q1 * Q2) (by omega) (by omega)).2.2] at HO_a
  have HO_m := Lib.hid (fun W v u x y (h1 : D W v P1) (h2 : D W u Q1) (h3 : D W x P2) (h4 : D W y Q2) => FMul_any v u x y P1 Q1 P2 Q2 W h1 h2 h3 h4 (by omega) (by omega) (by omega) (by omega))
  rw [dn_of q1, dn_of q2] at HO_m
  unfold FRes at HO_m
  rw [(sums_fit (L := P1 * P2) (M := Q1 * Q2) (by omega) (by omega)).1, (sums_fit (L := P1 * P2) (M := Q1 * Q2) (by omega) (by omega)).2.1, (sums_fit (L := P1 * P2) (M := Q1 * Q2) (by omega) (by omega)).2.2] at HO_m

  have HO_s := Lib.hid (fun W v u x y (h1 : D W v P1) (h2 : D W u Q1) (h3 : D W x P2) (h4 : D W y Q2) => FSub_neg v u x y P1 Q1 P2 Q2 W h1 h2 h3 h4 (by omega) (by omega) (by omega) (by omega) (by rw [dn_of q1, dn_of q2]; exact hcase))
  have hkk : cmpN ((P1 * Q2 : Nat) : Int) ((P2 * Q1 : Nat) : Int) < 0 := by rw [cmpN_lt (by omega)]; decide
  have p4 : 0 < Q1 * P2 := Nat.mul_pos q1 hnum
  have m7 := nd_rmul g2 g3
  have z4 := low_pos (L := P1 * Q2) p4
  have y4 := low_nd m1 m7
  have hq0 : ((((nd 65536 P2 : Nat)) : Int) == 0) = false := beq_eq_false_iff_ne.2 (by have := nd_pos (B := 65536) (by decide) hnum; omega)
  have HO_d := Lib.hid (fun W v u x y (h1 : D W v P1) (h2 : D W u Q1) (h3 : D W x P2) (h4 : D W y Q2) => FDiv_any v u x y P1 Q1 P2 Q2 W h1 h2 h3 h4 (by omega) (by omega) (by omega) (by omega) hnum)
  rw [dn_of q1, dn_of q2] at HO_d
  rw [Nat.mul_comm P2 Q1] at HO_d
  unfold FRes at HO_d
  rw [(sums_fit (L := P1 * Q2) (M := Q1 * P2) (by omega) (by omega)).1, (sums_fit (L := P1 * Q2) (M := Q1 * P2) (by omega) (by omega)).2.1, (sums_fit (L := P1 * Q2) (M := Q1 * P2) (by omega) (by omega)).2.2] at HO_d

  have HFC := Lib.hid (fun W v u x y (h1 : D W v P1) (h2 : D W u Q1) (h3 : D W x P2) (h4 : D W y Q2) => FCmp_any v u x y P1 Q1 P2 Q2 W h1 h2 h3 h4 (by omega) (by omega) (by omega) (by omega))
  rw [dn_of q1, dn_of q2] at HFC
  have HRC := Lib.hid (fun W v u x y (h1 : R W v P1) (h2 : R W u Q1) (h3 : R W x P2) (h4 : R W y Q2) => RFCmp_any v u x y P1 Q1 P2 Q2 W h1 h2 h3 h4 q1 q2 (by omega) (by omega) (by omega) (by omega))
  generalize cmpN ((P1 * Q2 : Nat) : Int) ((P2 * Q1 : Nat) : Int) = kk at *
  have HCASE := Lib.hid hcase; have HNUM := Lib.hid hnum
  clear hcase hnum hn0 hn1 hn2 hn3
  go_enter Tryz.func3, Tryz.ntmps3
  go_wp2_with fail
  refine (HH1.out _ (IsRaw.below HU0.out HS0.out.bel) (IsRaw.below HU1.out HS0.out.bel)).mono ?_
  rintro e w1 ⟨vf1, vf2, vp1, vp2, rfl, hf1, hf2, hp1, hp2, hb⟩
  obtain ⟨f1o, f1c, rfl, -⟩ := hf1.shape
  obtain ⟨f2o, f2c, rfl, -⟩ := hf2.shape
  obtain ⟨p1o, p1c, rfl, -⟩ := hp1.shape
  obtain ⟨p2o, p2c, rfl, -⟩ := hp2.shape
  have hs := ((((((HS0.out.next hb).addNum hf1).addNum hf2).addDig hp1).addDig hp2).boxed2 (.slice f1o (nd 4294967296 (P1)) f1c) (.slice f2o (nd 4294967296 (Q1)) f2c) 26).boxed2 (.slice p1o (nd 65536 (P1)) p1c) (.slice p2o (nd 65536 (Q1)) p2c) 29
  simp only [World.size_alloc] at hs
  have HS1 := Lib.hid hs
  clear hs hb hf1 hf2 hp1 hp2 HS0
  go_wp2_with fail
  refine (HH2.out _ (IsRaw.below HU2.out HS1.out.bel) (IsRaw.below HU3.out HS1.out.bel)).mono ?_
  rintro e w2 ⟨vg1, vg2, vq1, vq2, rfl, hg1, hg2, hq1, hq2, hb⟩
  obtain ⟨g1o, g1c, rfl, -⟩ := hg1.shape
  obtain ⟨g2o, g2c, rfl, -⟩ := hg2.shape
  obtain ⟨q1o, q1c, rfl, -⟩ := hq1.shape
  obtain ⟨q2o, q2c, rfl, -⟩ := hq2.shape
  have hs := ((((((HS1.out.next hb).addNum hg1).addNum hg2).addDig hq1).addDig hq2).boxed2 (.slice g1o (nd 4294967296 (P2)) g1c) (.slice g2o (nd 4294967296 (Q2)) g2c) 26).boxed2 (.slice q1o (nd 65536 (P2)) q1c) (.slice q2o (nd 65536 (Q2)) q2c) 29
  simp only [World.size_alloc] at hs
  have HS2 := Lib.hid hs
  clear hs hb hg1 hg2 hq1 hq2 HS1
  have cf1 := HS2.out.cell (.tail _ (.tail _ (.tail _ (.tail _ (.tail _ (.tail _ (.tail _ (.head _))))))))
  have cf2 := HS2.out.cell (.tail _ (.tail _ (.tail _ (.tail _ (.tail _ (.tail _ (.head _)))))))
  have cg1 := HS2.out.cell (.tail _ (.tail _ (.tail _ (.head _))))
  have cg2 := HS2.out.cell (.tail _ (.tail _ (.head _)))
  go_wp2_with fail
  refine (HO_a.out _ _ _ _ _ (HS2.out.num _ (.tail _ (.tail _ (.tail _ (.head _))))) (HS2.out.num _ (.tail _ (.tail _ (.head _)))) (HS2.out.num _ (.tail _ (.head _))) (HS2.out.num _ (.head _))).mono ?_
  rintro e w3 ⟨vsa1, vsa2, rfl, hsa1, hsa2, hb⟩
  obtain ⟨sa1o, sa1c, rfl, -⟩ := hsa1.shape
  obtain ⟨sa2o, sa2c, rfl, -⟩ := hsa2.shape
  have hs := (((HS2.out.next hb).addNum hsa1).addNum hsa2).boxed2 (.slice sa1o (nd 4294967296 (lowP (P1 * Q2 + P2 * Q1) (Q1 * Q2))) sa1c) (.slice sa2o (nd 4294967296 (lowQ (P1 * Q2 + P2 * Q1) (Q1 * Q2))) sa2c) 26
  have HS3 := Lib.hid hs
  clear hs hb hsa1 hsa2 HS2
  clear cf1 cf2 cg1 cg2
  have cf1 := HS3.out.cell (.tail _ (.tail _ (.tail _ (.tail _ (.tail _ (.tail _ (.tail _ (.tail _ (.tail _ (.head _))))))))))
  have cf2 := HS3.out.cell (.tail _ (.tail _ (.tail _ (.tail _ (.tail _ (.tail _ (.tail _ (.tail _ (.head _)))))))))
  have cg1 := HS3.out.cell (.tail _ (.tail _ (.tail _ (.tail _ (.tail _ (.head _))))))
  have cg2 := HS3.out.cell (.tail _ (.tail _ (.tail _ (.tail _ (.head _)))))
  go_wp2_with fail
  refine (HO_m.out _ _ _ _ _ (HS3.out.num _ (.tail _ (.tail _ (.tail _ (.tail _ (.tail _ (.head _))))))) (HS3.out.num _ (.tail _ (.tail _ (.tail _ (.tail _ (.head _)))))) (HS3.out.num _ (.tail _ (.tail _ (.tail _ (.head _))))) (HS3.out.num _ (.tail _ (.tail _ (.head _))))).mono ?_
  rintro e w4 ⟨vmu1, vmu2, rfl, hmu1, hmu2, hb⟩
  obtain ⟨mu1o, mu1c, rfl, -⟩ := hmu1.shape
  obtain ⟨mu2o, mu2c, rfl, -⟩ := hmu2.shape
  have hs := (((HS3.out.next hb).addNum hmu1).addNum hmu2).boxed2 (.slice mu1o (nd 4294967296 (lowP (P1 * P2) (Q1 * Q2))) mu1c) (.slice mu2o (nd 4294967296 (lowQ (P1 * P2) (Q1 * Q2))) mu2c) 26
  have HS4 := Lib.hid hs
  clear hs hb hmu1 hmu2 HS3
  clear cf1 cf2 cg1 cg2
  have hs := HS4.out
  obtain ⟨cs1, hcs⟩ : ∃ cs : List (Nat × Nat × Value), cs = (w4.heap.size, 1, .slice mu2o (nd 4294967296 (lowQ (P1 * P2) (Q1 * Q2))) mu2c) :: (w4.heap.size, 0, .slice mu1o (nd 4294967296 (lowP (P1 * P2) (Q1 * Q2))) mu1c) :: (w3.heap.size, 1, .slice sa2o (nd 4294967296 (lowQ (P1 * Q2 + P2 * Q1) (Q1 * Q2))) sa2c) :: (w3.heap.size, 0, .slice sa1o (nd 4294967296 (lowP (P1 * Q2 + P2 * Q1) (Q1 * Q2))) sa1c) :: (w2.heap.size + 1, 1, .slice q2o (nd 65536 (Q2)) q2c) :: (w2.heap.size + 1, 0, .slice q1o (nd 65536 (P2)) q1c) :: (w2.heap.size, 1, .slice g2o (nd 4294967296 (Q2)) g2c) :: (w2.heap.size, 0, .slice g1o (nd 4294967296 (P2)) g1c) :: (w1.heap.size + 1, 1, .slice p2o (nd 65536 (Q1)) p2c) :: (w1.heap.size + 1, 0, .slice p1o (nd 65536 (P1)) p1c) :: (w1.heap.size, 1, .slice f2o (nd 4294967296 (Q1)) f2c) :: (w1.heap.size, 0, .slice f1o (nd 4294967296 (P1)) f1c) :: [] := ⟨_, rfl⟩
  obtain ⟨ns1, hns⟩ : ∃ ns : List (Value × Nat), ns = (.slice mu2o (nd 4294967296 (lowQ (P1 * P2) (Q1 * Q2))) mu2c, lowQ (P1 * P2) (Q1 * Q2)) :: (.slice mu1o (nd 4294967296 (lowP (P1 * P2) (Q1 * Q2))) mu1c, lowP (P1 * P2) (Q1 * Q2)) :: (.slice sa2o (nd 4294967296 (lowQ (P1 * Q2 + P2 * Q1) (Q1 * Q2))) sa2c, lowQ (P1 * Q2 + P2 * Q1) (Q1 * Q2)) :: (.slice sa1o (nd 4294967296 (lowP (P1 * Q2 + P2 * Q1) (Q1 * Q2))) sa1c, lowP (P1 * Q2 + P2 * Q1) (Q1 * Q2)) :: (.slice g2o (nd 4294967296 (Q2)) g2c, Q2) :: (.slice g1o (nd 4294967296 (P2)) g1c, P2) :: (.slice f2o (nd 4294967296 (Q1)) f2c, Q1) :: (.slice f1o (nd 4294967296 (P1)) f1c, P1) :: [] := ⟨_, rfl⟩
  obtain ⟨rs1, hrs⟩ : ∃ rs : List (Value × Nat), rs = (.slice q2o (nd 65536 (Q2)) q2c, Q2) :: (.slice q1o (nd 65536 (P2)) q1c, P2) :: (.slice p2o (nd 65536 (Q1)) p2c, Q1) :: (.slice p1o (nd 65536 (P1)) p1c, P1) :: [] := ⟨_, rfl⟩
  rw [← hcs, ← hns, ← hrs] at hs
  have HC1_f1 : Hid (((w1.heap.size, 0, .slice f1o (nd 4294967296 (P1)) f1c) : Nat × Nat × Value) ∈ cs1) := by show _ ∈ _; rw [hcs]; exact (.tail _ (.tail _ (.tail _ (.tail _ (.tail _ (.tail _ (.tail _ (.tail _ (.tail _ (.tail _ (.tail _ (.head _))))))))))))
  have HC1_f2 : Hid (((w1.heap.size, 1, .slice f2o (nd 4294967296 (Q1)) f2c) : Nat × Nat × Value) ∈ cs1) := by show _ ∈ _; rw [hcs]; exact (.tail _ (.tail _ (.tail _ (.tail _ (.tail _ (.tail _ (.tail _ (.tail _ (.tail _ (.tail _ (.head _)))))))))))
  have HC1_g1 : Hid (((w2.heap.size, 0, .slice g1o (nd 4294967296 (P2)) g1c) : Nat × Nat × Value) ∈ cs1) := by show _ ∈ _; rw [hcs]; exact (.tail _ (.tail _ (.tail _ (.tail _ (.tail _ (.tail _ (.tail _ (.head _))))))))
  have HC1_g2 : Hid (((w2.heap.size, 1, .slice g2o (nd 4294967296 (Q2)) g2c) : Nat × Nat × Value) ∈ cs1) := by show _ ∈ _; rw [hcs]; exact (.tail _ (.tail _ (.tail _ (.tail _ (.tail _ (.tail _ (.head _)))))))
  have HC1_p1 : Hid (((w1.heap.size + 1, 0, .slice p1o (nd 65536 (P1)) p1c) : Nat × Nat × Value) ∈ cs1) := by show _ ∈ _; rw [hcs]; exact (.tail _ (.tail _ (.tail _ (.tail _ (.tail _ (.tail _ (.tail _ (.tail _ (.tail _ (.head _))))))))))
  have HC1_p2 : Hid (((w1.heap.size + 1, 1, .slice p2o (nd 65536 (Q1)) p2c) : Nat × Nat × Value) ∈ cs1) := by show _ ∈ _; rw [hcs]; exact (.tail _ (.tail _ (.tail _ (.tail _ (.tail _ (.tail _ (.tail _ (.tail _ (.head _)))))))))
  have HC1_q1 : Hid (((w2.heap.size + 1, 0, .slice q1o (nd 65536 (P2)) q1c) : Nat × Nat × Value) ∈ cs1) := by show _ ∈ _; rw [hcs]; exact (.tail _ (.tail _ (.tail _ (.tail _ (.tail _ (.head _))))))
  have HC1_q2 : Hid (((w2.heap.size + 1, 1, .slice q2o (nd 65536 (Q2)) q2c) : Nat × Nat × Value) ∈ cs1) := by show _ ∈ _; rw [hcs]; exact (.tail _ (.tail _ (.tail _ (.tail _ (.head _)))))
  have HC1_sa1 : Hid (((w3.heap.size, 0, .slice sa1o (nd 4294967296 (lowP (P1 * Q2 + P2 * Q1) (Q1 * Q2))) sa1c) : Nat × Nat × Value) ∈ cs1) := by show _ ∈ _; rw [hcs]; exact (.tail _ (.tail _ (.tail _ (.head _))))
  have HC1_sa2 : Hid (((w3.heap.size, 1, .slice sa2o (nd 4294967296 (lowQ (P1 * Q2 + P2 * Q1) (Q1 * Q2))) sa2c) : Nat × Nat × Value) ∈ cs1) := by show _ ∈ _; rw [hcs]; exact (.tail _ (.tail _ (.head _)))
  have HC1_mu1 : Hid (((w4.heap.size, 0, .slice mu1o (nd 4294967296 (lowP (P1 * P2) (Q1 * Q2))) mu1c) : Nat × Nat × Value) ∈ cs1) := by show _ ∈ _; rw [hcs]; exact (.tail _ (.head _))
  have HC1_mu2 : Hid (((w4.heap.size, 1, .slice mu2o (nd 4294967296 (lowQ (P1 * P2) (Q1 * Q2))) mu2c) : Nat × Nat × Value) ∈ cs1) := by show _ ∈ _; rw [hcs]; exact (.head _)
  have HM1_f1 : Hid (((.slice f1o (nd 4294967296 (P1)) f1c, P1) : Value × Nat) ∈ ns1) := by show _ ∈ _; rw [hns]; exact (.tail _ (.tail _ (.tail _ (.tail _ (.tail _ (.tail _ (.tail _ (.head _))))))))
  have HM1_f2 : Hid (((.slice f2o (nd 4294967296 (Q1)) f2c, Q1) : Value × Nat) ∈ ns1) := by show _ ∈ _; rw [hns]; exact (.tail _ (.tail _ (.tail _ (.tail _ (.tail _ (.tail _ (.head _)))))))
  have HM1_g1 : Hid (((.slice g1o (nd 4294967296 (P2)) g1c, P2) : Value × Nat) ∈ ns1) := by show _ ∈ _; rw [hns]; exact (.tail _ (.tail _ (.tail _ (.tail _ (.tail _ (.head _))))))
  have HM1_g2 : Hid (((.slice g2o (nd 4294967296 (Q2)) g2c, Q2) : Value × Nat) ∈ ns1) := by show _ ∈ _; rw [hns]; exact (.tail _ (.tail _ (.tail _ (.tail _ (.head _)))))
  have HM1_sa1 : Hid (((.slice sa1o (nd 4294967296 (lowP (P1 * Q2 + P2 * Q1) (Q1 * Q2))) sa1c, lowP (P1 * Q2 + P2 * Q1) (Q1 * Q2)) : Value × Nat) ∈ ns1) := by show _ ∈ _; rw [hns]; exact (.tail _ (.tail _ (.tail _ (.head _))))
  have HM1_sa2 : Hid (((.slice sa2o (nd 4294967296 (lowQ (P1 * Q2 + P2 * Q1) (Q1 * Q2))) sa2c, lowQ (P1 * Q2 + P2 * Q1) (Q1 * Q2)) : Value × Nat) ∈ ns1) := by show _ ∈ _; rw [hns]; exact (.tail _ (.tail _ (.head _)))
  have HM1_mu1 : Hid (((.slice mu1o (nd 4294967296 (lowP (P1 * P2) (Q1 * Q2))) mu1c, lowP (P1 * P2) (Q1 * Q2)) : Value × Nat) ∈ ns1) := by show _ ∈ _; rw [hns]; exact (.tail _ (.head _))
  have HM1_mu2 : Hid (((.slice mu2o (nd 4294967296 (lowQ (P1 * P2) (Q1 * Q2))) mu2c, lowQ (P1 * P2) (Q1 * Q2)) : Value × Nat) ∈ ns1) := by show _ ∈ _; rw [hns]; exact (.head _)
  have HD1_p1 : Hid (((.slice p1o (nd 65536 (P1)) p1c, P1) : Value × Nat) ∈ rs1) := by show _ ∈ _; rw [hrs]; exact (.tail _ (.tail _ (.tail _ (.head _))))
  have HD1_p2 : Hid (((.slice p2o (nd 65536 (Q1)) p2c, Q1) : Value × Nat) ∈ rs1) := by show _ ∈ _; rw [hrs]; exact (.tail _ (.tail _ (.head _)))
  have HD1_q1 : Hid (((.slice q1o (nd 65536 (P2)) q1c, P2) : Value × Nat) ∈ rs1) := by show _ ∈ _; rw [hrs]; exact (.tail _ (.head _))
  have HD1_q2 : Hid (((.slice q2o (nd 65536 (Q2)) q2c, Q2) : Value × Nat) ∈ rs1) := by show _ ∈ _; rw [hrs]; exact (.head _)
  have HCL1 : Hid (∀ W', Kq cs1 ns1 rs1 w W' → W'.cell? ⟨w1.heap.size, 0, none⟩ = some (.slice f1o (nd 4294967296 (P1)) f1c) ∧ W'.cell? ⟨w1.heap.size, 1, none⟩ = some (.slice f2o (nd 4294967296 (Q1)) f2c) ∧ W'.cell? ⟨w2.heap.size, 0, none⟩ = some (.slice g1o (nd 4294967296 (P2)) g1c) ∧ W'.cell? ⟨w2.heap.size, 1, none⟩ = some (.slice g2o (nd 4294967296 (Q2)) g2c) ∧ W'.cell? ⟨w1.heap.size + 1, 0, none⟩ = some (.slice p1o (nd 65536 (P1)) p1c) ∧ W'.cell? ⟨w1.heap.size + 1, 1, none⟩ = some (.slice p2o (nd 65536 (Q1)) p2c) ∧ W'.cell? ⟨w2.heap.size + 1, 0, none⟩ = some (.slice q1o (nd 65536 (P2)) q1c) ∧ W'.cell? ⟨w2.heap.size + 1, 1, none⟩ = some (.slice q2o (nd 65536 (Q2)) q2c) ∧ W'.cell? ⟨w3.heap.size, 0, none⟩ = some (.slice sa1o (nd 4294967296 (lowP (P1 * Q2 + P2 * Q1) (Q1 * Q2))) sa1c) ∧ W'.cell? ⟨w3.heap.size, 1, none⟩ = some (.slice sa2o (nd 4294967296 (lowQ (P1 * Q2 + P2 * Q1) (Q1 * Q2))) sa2c) ∧ W'.cell? ⟨w4.heap.size, 0, none⟩ = some (.slice mu1o (nd 4294967296 (lowP (P1 * P2) (Q1 * Q2))) mu1c) ∧ W'.cell? ⟨w4.heap.size, 1, none⟩ = some (.slice mu2o (nd 4294967296 (lowQ (P1 * P2) (Q1 * Q2))) mu2c)) := fun W' h => ⟨h.cell HC1_f1.out, h.cell HC1_f2.out, h.cell HC1_g1.out, h.cell HC1_g2.out, h.cell HC1_p1.out, h.cell HC1_p2.out, h.cell HC1_q1.out, h.cell HC1_q2.out, h.cell HC1_sa1.out, h.cell HC1_sa2.out, h.cell HC1_mu1.out, h.cell HC1_mu2.out⟩
  have hs2 := hs.drew
  have hcl := HCL1.out _ hs2
  have hc0 := HCL1.out _ hs
  have HAK1 := Lib.hid (fun W' (h : Kq cs1 ns1 rs1 w W') => awake_Q h)
  clear hcs hns hrs HS4
  have HRA : Hid (∀ W', Kq cs1 ns1 rs1 w W' → Calls Tryz.prog 12 #[.agg #[.slice p1o (nd 65536 (P1)) p1c, .slice p2o (nd 65536 (Q1)) p2c], .agg #[.slice q1o (nd 65536 (P2)) q1c, .slice q2o (nd 65536 (Q2)) q2c]] W' fun e w' => ∃ o l c o2 l2 c2, e = .returned (.agg #[.slice o l c, .slice o2 l2 c2]) ∧ (R w' (.slice o l c) (lowP (P1 * Q2 + P2 * Q1) (Q1 * Q2)) ∧ R w' (.slice o2 l2 c2) (lowQ (P1 * Q2 + P2 * Q1) (Q1 * Q2))) ∧ Kq cs1 ns1 rs1 w w') := fun W' h =>
    (RFAdd_any _ _ _ _ P1 Q1 P2 Q2 W' (h.dig _ (HD1_p1.out)) (h.dig _ (HD1_p2.out)) (h.dig _ (HD1_q1.out)) (h.dig _ (HD1_q2.out)) q1 q2 (by omega) (by omega) (by omega) (by omega)).mono fun e w' ⟨r, s, he, hr, hs, hB⟩ => by
      obtain ⟨ro, rc, rfl, -⟩ := hr.shape
      obtain ⟨so, sc, rfl, -⟩ := hs.shape
      exact ⟨ro, _, rc, so, _, sc, he, ⟨hr, hs⟩, h.next hB⟩
  have HRM : Hid (∀ W', Kq cs1 ns1 rs1 w W' → Calls Tryz.prog 13 #[.agg #[.slice p1o (nd 65536 (P1)) p1c, .slice p2o (nd 65536 (Q1)) p2c], .agg #[.slice q1o (nd 65536 (P2)) q1c, .slice q2o (nd 65536 (Q2)) q2c]] W' fun e w' => ∃ o l c o2 l2 c2, e = .returned (.agg #[.slice o l c, .slice o2 l2 c2]) ∧ (R w' (.slice o l c) (lowP (P1 * P2) (Q1 * Q2)) ∧ R w' (.slice o2 l2 c2) (lowQ (P1 * P2) (Q1 * Q2))) ∧ Kq cs1 ns1 rs1 w w') := fun W' h =>
    (RFMul_any _ _ _ _ P1 Q1 P2 Q2 W' (h.dig _ (HD1_p1.out)) (h.dig _ (HD1_p2.out)) (h.dig _ (HD1_q1.out)) (h.dig _ (HD1_q2.out)) q1 q2 (by omega) (by omega) (by omega) (by omega)).mono fun e w' ⟨r, s, he, hr, hs, hB⟩ => by
      obtain ⟨ro, rc, rfl, -⟩ := hr.shape
      obtain ⟨so, sc, rfl, -⟩ := hs.shape
      exact ⟨ro, _, rc, so, _, sc, he, ⟨hr, hs⟩, h.next hB⟩
  have HSA : Hid (∀ W' r s, Kq cs1 ns1 rs1 w W' → (R W' r (lowP (P1 * Q2 + P2 * Q1) (Q1 * Q2)) ∧ R W' s (lowQ (P1 * Q2 + P2 * Q1) (Q1 * Q2))) → Calls Tryz.prog 11 #[.agg #[.slice sa1o (nd 4294967296 (lowP (P1 * Q2 + P2 * Q1) (Q1 * Q2))) sa1c, .slice sa2o (nd 4294967296 (lowQ (P1 * Q2 + P2 * Q1) (Q1 * Q2))) sa2c], .int .i64 0, .agg #[r, s], .int .i64 0] W' fun e w' => e = .returned (.bool true) ∧ Kq cs1 ns1 rs1 w w') := fun W' r s h hr =>
    (same_ok _ _ _ _ (lowP (P1 * Q2 + P2 * Q1) (Q1 * Q2)) (lowQ (P1 * Q2 + P2 * Q1) (Q1 * Q2)) W' (h.num _ (HM1_sa1.out)) (h.num _ (HM1_sa2.out)) hr.1 hr.2 (by omega) (by omega) (by omega) h.env).mono fun e w' ⟨he, hB⟩ => ⟨he, h.next hB⟩
  have HSM : Hid (∀ W' r s, Kq cs1 ns1 rs1 w W' → (R W' r (lowP (P1 * P2) (Q1 * Q2)) ∧ R W' s (lowQ (P1 * P2) (Q1 * Q2))) → Calls Tryz.prog 11 #[.agg #[.slice mu1o (nd 4294967296 (lowP (P1 * P2) (Q1 * Q2))) mu1c, .slice mu2o (nd 4294967296 (lowQ (P1 * P2) (Q1 * Q2))) mu2c], .int .i64 0, .agg #[r, s], .int .i64 0] W' fun e w' => e = .returned (.bool true) ∧ Kq cs1 ns1 rs1 w w') := fun W' r s h hr =>
    (same_ok _ _ _ _ (lowP (P1 * P2) (Q1 * Q2)) (lowQ (P1 * P2) (Q1 * Q2)) W' (h.num _ (HM1_mu1.out)) (h.num _ (HM1_mu2.out)) hr.1 hr.2 (by omega) (by omega) (by omega) h.env).mono fun e w' ⟨he, hB⟩ => ⟨he, h.next hB⟩
  have HCF : Hid (∀ W', Kq cs1 ns1 rs1 w W' → Calls Tryz.prog 14 #[.agg #[.slice f1o (nd 4294967296 (P1)) f1c, .slice f2o (nd 4294967296 (Q1)) f2c], .agg #[.slice g1o (nd 4294967296 (P2)) g1c, .slice g2o (nd 4294967296 (Q2)) g2c]] W' fun e w' => e = .returned (.int .i64 kk) ∧ Kq cs1 ns1 rs1 w w') := fun W' h => (HFC.out _ _ _ _ _ (h.num _ (HM1_f1.out)) (h.num _ (HM1_f2.out)) (h.num _ (HM1_g1.out)) (h.num _ (HM1_g2.out))).mono fun e w' ⟨he, hB⟩ => ⟨he, h.next hB⟩
  have HCR : Hid (∀ W', Kq cs1 ns1 rs1 w W' → Calls Tryz.prog 15 #[.agg #[.slice p1o (nd 65536 (P1)) p1c, .slice p2o (nd 65536 (Q1)) p2c], .agg #[.slice q1o (nd 65536 (P2)) q1c, .slice q2o (nd 65536 (Q2)) q2c]] W' fun e w' => e = .returned (.int .i64 kk) ∧ Kq cs1 ns1 rs1 w w') := fun W' h => (HRC.out _ _ _ _ _ (h.dig _ (HD1_p1.out)) (h.dig _ (HD1_p2.out)) (h.dig _ (HD1_q1.out)) (h.dig _ (HD1_q2.out))).mono fun e w' ⟨he, hB⟩ => ⟨he, h.next hB⟩
  go_wp2_with fail
  go_region_held3 (fun W' : World => (W'.cell? ⟨w1.heap.size, 0, none⟩ = some (.slice f1o (nd 4294967296 (P1)) f1c) ∧ W'.cell? ⟨w1.heap.size, 1, none⟩ = some (.slice f2o (nd 4294967296 (Q1)) f2c) ∧ W'.cell? ⟨w2.heap.size, 0, none⟩ = some (.slice g1o (nd 4294967296 (P2)) g1c) ∧ W'.cell? ⟨w2.heap.size, 1, none⟩ = some (.slice g2o (nd 4294967296 (Q2)) g2c) ∧ W'.cell? ⟨w1.heap.size + 1, 0, none⟩ = some (.slice p1o (nd 65536 (P1)) p1c) ∧ W'.cell? ⟨w1.heap.size + 1, 1, none⟩ = some (.slice p2o (nd 65536 (Q1)) p2c) ∧ W'.cell? ⟨w2.heap.size + 1, 0, none⟩ = some (.slice q1o (nd 65536 (P2)) q1c) ∧ W'.cell? ⟨w2.heap.size + 1, 1, none⟩ = some (.slice q2o (nd 65536 (Q2)) q2c) ∧ W'.cell? ⟨w3.heap.size, 0, none⟩ = some (.slice sa1o (nd 4294967296 (lowP (P1 * Q2 + P2 * Q1) (Q1 * Q2))) sa1c) ∧ W'.cell? ⟨w3.heap.size, 1, none⟩ = some (.slice sa2o (nd 4294967296 (lowQ (P1 * Q2 + P2 * Q1) (Q1 * Q2))) sa2c) ∧ W'.cell? ⟨w4.heap.size, 0, none⟩ = some (.slice mu1o (nd 4294967296 (lowP (P1 * P2) (Q1 * Q2))) mu1c) ∧ W'.cell? ⟨w4.heap.size, 1, none⟩ = some (.slice mu2o (nd 4294967296 (lowQ (P1 * P2) (Q1 * Q2))) mu2c)) ∧ Kq cs1 ns1 rs1 w W') (first | (refine And.intro ?_ ?_ <;> assumption)) (first
    | (go_at_call 12; with_reducible refine (HRA.out _ ?h).mono ?_; (case h => assumption); rintro e w' ⟨o1, l1, k1, o2, l2, k2, rfl, hr', hs'⟩; have hc' := HCL1.out _ hs')
    | (go_at_call 13; with_reducible refine (HRM.out _ ?h).mono ?_; (case h => assumption); rintro e w' ⟨o1, l1, k1, o2, l2, k2, rfl, hr', hs'⟩; have hc' := HCL1.out _ hs')
    | (go_at_call 11; with_reducible refine (HSA.out _ _ _ ?h ?r).mono ?_; (case h => assumption); (case r => first | assumption | exact rchain (by assumption) (by assumption) | exact rchain (by assumption) (rchain (by assumption) (by assumption)) | exact dchain (by assumption) (by assumption)); rintro e w' ⟨rfl, hs'⟩; have hc' := HCL1.out _ hs')
    | (go_at_call 11; with_reducible refine (HSM.out _ _ _ ?h ?r).mono ?_; (case h => assumption); (case r => first | assumption | exact rchain (by assumption) (by assumption) | exact rchain (by assumption) (rchain (by assumption) (by assumption)) | exact dchain (by assumption) (by assumption)); rintro e w' ⟨rfl, hs'⟩; have hc' := HCL1.out _ hs')
    | (go_at_call 14; with_reducible refine (HCF.out _ ?h).mono ?_; (case h => assumption); rintro e w' ⟨rfl, hs'⟩; have hc' := HCL1.out _ hs')
    | (go_at_call 15; with_reducible refine (HCR.out _ ?h).mono ?_; (case h => assumption); rintro e w' ⟨rfl, hs'⟩; have hc' := HCL1.out _ hs'))
  all_goals
    have hsx : Kq cs1 ns1 rs1 w w' := by assumption
    have HS5 := Lib.hid hsx
    clear hsx 
    have cf1 := HS5.out.cell (HC1_f1.out)
    have cf2 := HS5.out.cell (HC1_f2.out)
    have cg1 := HS5.out.cell (HC1_g1.out)
    have cg2 := HS5.out.cell (HC1_g2.out)
    go_wp2_with fail
    refine (HO_s.out _ _ _ _ _ (HS5.out.num _ (HM1_f1.out)) (HS5.out.num _ (HM1_f2.out)) (HS5.out.num _ (HM1_g1.out)) (HS5.out.num _ (HM1_g2.out))).mono ?_
    rintro e w5 ⟨rfl, hb⟩
    have hs := ((HS5.out.next hb).addNum (n := 0) (IsN.zero _ _ _ none 0)).boxed2 (.slice none 0 0) (.slice none 0 0) 26
    have HS6 := Lib.hid hs
    clear hs hb HS5
    clear cf1 cf2 cg1 cg2
    have hto := HRC.out _ _ _ _ _ (HS6.out.dig _ (HD1_p1.out)) (HS6.out.dig _ (HD1_p2.out)) (HS6.out.dig _ (HD1_q1.out)) (HS6.out.dig _ (HD1_q2.out))
    have HTO := Lib.hid (hto.mono fun e w' h => And.intro h.1 (HS6.out.next h.2))
    clear hto
    have cp1 := HS6.out.cell (.tail _ (.tail _ (HC1_p1.out)))
    have cp2 := HS6.out.cell (.tail _ (.tail _ (HC1_p2.out)))
    have cq1 := HS6.out.cell (.tail _ (.tail _ (HC1_q1.out)))
    have cq2 := HS6.out.cell (.tail _ (.tail _ (HC1_q2.out)))
    go_wp2_with fail
    refine (HTO.out).mono ?_
    rintro e w6 ⟨rfl, hs⟩
    have HS7 := Lib.hid hs
    clear hs HS6
    clear cp1 cp2 cq1 cq2 HTO
    have hto := same_err _ _ _ _ 10 _ (HS7.out.num _ (.head _)) (HS7.out.num _ (.head _)) (by decide) ⟨_, HS7.out.dig _ (HD1_p1.out)⟩ ⟨_, HS7.out.dig _ (HD1_p2.out)⟩ HS7.out.env
    have HTO := Lib.hid (hto.mono fun e w' h => And.intro h.1 (HS7.out.next h.2))
    clear hto
    have csu1 := HS7.out.cell (.tail _ (.head _))
    have csu2 := HS7.out.cell (.head _)
    have cp1 := HS7.out.cell (.tail _ (.tail _ (HC1_p1.out)))
    have cp2 := HS7.out.cell (.tail _ (.tail _ (HC1_p2.out)))
    go_wp2_with fail
    refine (HTO.out).mono ?_
    rintro e w7 ⟨rfl, hs⟩
    have HS8 := Lib.hid hs
    clear hs HS7
    clear csu1 csu2 cp1 cp2 HTO
    have cf1 := HS8.out.cell (.tail _ (.tail _ (HC1_f1.out)))
    have cf2 := HS8.out.cell (.tail _ (.tail _ (HC1_f2.out)))
    have cg1 := HS8.out.cell (.tail _ (.tail _ (HC1_g1.out)))
    have cg2 := HS8.out.cell (.tail _ (.tail _ (HC1_g2.out)))
    go_wp2_with fail
    refine (HO_d.out _ _ _ _ _ (HS8.out.num _ (.tail _ (HM1_f1.out))) (HS8.out.num _ (.tail _ (HM1_f2.out))) (HS8.out.num _ (.tail _ (HM1_g1.out))) (HS8.out.num _ (.tail _ (HM1_g2.out)))).mono ?_
    rintro e w8 ⟨vdi1, vdi2, rfl, hdi1, hdi2, hb⟩
    obtain ⟨di1o, di1c, rfl, -⟩ := hdi1.shape
    obtain ⟨di2o, di2c, rfl, -⟩ := hdi2.shape
    have hs := (((HS8.out.next hb).addNum hdi1).addNum hdi2).boxed2 (.slice di1o (nd 4294967296 (lowP (P1 * Q2) (Q1 * P2))) di1c) (.slice di2o (nd 4294967296 (lowQ (P1 * Q2) (Q1 * P2))) di2c) 26
    have HS9 := Lib.hid hs
    clear hs hb hdi1 hdi2 HS8
    clear cf1 cf2 cg1 cg2
    have hs := HS9.out
    obtain ⟨cs2, hcs⟩ : ∃ cs : List (Nat × Nat × Value), cs = (w8.heap.size, 1, .slice di2o (nd 4294967296 (lowQ (P1 * Q2) (Q1 * P2))) di2c) :: (w8.heap.size, 0, .slice di1o (nd 4294967296 (lowP (P1 * Q2) (Q1 * P2))) di1c) :: (w5.heap.size, 1, .slice none 0 0) :: (w5.heap.size, 0, .slice none 0 0) :: cs1 := ⟨_, rfl⟩
    obtain ⟨ns2, hns⟩ : ∃ ns : List (Value × Nat), ns = (.slice di2o (nd 4294967296 (lowQ (P1 * Q2) (Q1 * P2))) di2c, lowQ (P1 * Q2) (Q1 * P2)) :: (.slice di1o (nd 4294967296 (lowP (P1 * Q2) (Q1 * P2))) di1c, lowP (P1 * Q2) (Q1 * P2)) :: (.slice none 0 0, 0) :: ns1 := ⟨_, rfl⟩
    obtain ⟨rs2, hrs⟩ : ∃ rs : List (Value × Nat), rs = rs1 := ⟨_, rfl⟩
    rw [← hcs, ← hns, ← hrs] at hs
    have HC2_di1 : Hid (((w8.heap.size, 0, .slice di1o (nd 4294967296 (lowP (P1 * Q2) (Q1 * P2))) di1c) : Nat × Nat × Value) ∈ cs2) := by show _ ∈ _; rw [hcs]; exact (.tail _ (.head _))
    have HC2_di2 : Hid (((w8.heap.size, 1, .slice di2o (nd 4294967296 (lowQ (P1 * Q2) (Q1 * P2))) di2c) : Nat × Nat × Value) ∈ cs2) := by show _ ∈ _; rw [hcs]; exact (.head _)
    have HC2_p1 : Hid (((w1.heap.size + 1, 0, .slice p1o (nd 65536 (P1)) p1c) : Nat × Nat × Value) ∈ cs2) := by show _ ∈ _; rw [hcs]; exact (.tail _ (.tail _ (.tail _ (.tail _ (HC1_p1.out)))))
    have HC2_p2 : Hid (((w1.heap.size + 1, 1, .slice p2o (nd 65536 (Q1)) p2c) : Nat × Nat × Value) ∈ cs2) := by show _ ∈ _; rw [hcs]; exact (.tail _ (.tail _ (.tail _ (.tail _ (HC1_p2.out)))))
    have HC2_q1 : Hid (((w2.heap.size + 1, 0, .slice q1o (nd 65536 (P2)) q1c) : Nat × Nat × Value) ∈ cs2) := by show _ ∈ _; rw [hcs]; exact (.tail _ (.tail _ (.tail _ (.tail _ (HC1_q1.out)))))
    have HC2_q2 : Hid (((w2.heap.size + 1, 1, .slice q2o (nd 65536 (Q2)) q2c) : Nat × Nat × Value) ∈ cs2) := by show _ ∈ _; rw [hcs]; exact (.tail _ (.tail _ (.tail _ (.tail _ (HC1_q2.out)))))
    have HM2_di1 : Hid (((.slice di1o (nd 4294967296 (lowP (P1 * Q2) (Q1 * P2))) di1c, lowP (P1 * Q2) (Q1 * P2)) : Value × Nat) ∈ ns2) := by show _ ∈ _; rw [hns]; exact (.tail _ (.head _))
    have HM2_di2 : Hid (((.slice di2o (nd 4294967296 (lowQ (P1 * Q2) (Q1 * P2))) di2c, lowQ (P1 * Q2) (Q1 * P2)) : Value × Nat) ∈ ns2) := by show _ ∈ _; rw [hns]; exact (.head _)
    have HD2_p1 : Hid (((.slice p1o (nd 65536 (P1)) p1c, P1) : Value × Nat) ∈ rs2) := by show _ ∈ _; rw [hrs]; exact (HD1_p1.out)
    have HD2_p2 : Hid (((.slice p2o (nd 65536 (Q1)) p2c, Q1) : Value × Nat) ∈ rs2) := by show _ ∈ _; rw [hrs]; exact (HD1_p2.out)
    have HD2_q1 : Hid (((.slice q1o (nd 65536 (P2)) q1c, P2) : Value × Nat) ∈ rs2) := by show _ ∈ _; rw [hrs]; exact (HD1_q1.out)
    have HD2_q2 : Hid (((.slice q2o (nd 65536 (Q2)) q2c, Q2) : Value × Nat) ∈ rs2) := by show _ ∈ _; rw [hrs]; exact (HD1_q2.out)
    have HCL2 : Hid (∀ W', Kq cs2 ns2 rs2 w W' → W'.cell? ⟨w8.heap.size, 0, none⟩ = some (.slice di1o (nd 4294967296 (lowP (P1 * Q2) (Q1 * P2))) di1c) ∧ W'.cell? ⟨w8.heap.size, 1, none⟩ = some (.slice di2o (nd 4294967296 (lowQ (P1 * Q2) (Q1 * P2))) di2c) ∧ W'.cell? ⟨w1.heap.size + 1, 0, none⟩ = some (.slice p1o (nd 65536 (P1)) p1c) ∧ W'.cell? ⟨w1.heap.size + 1, 1, none⟩ = some (.slice p2o (nd 65536 (Q1)) p2c) ∧ W'.cell? ⟨w2.heap.size + 1, 0, none⟩ = some (.slice q1o (nd 65536 (P2)) q1c) ∧ W'.cell? ⟨w2.heap.size + 1, 1, none⟩ = some (.slice q2o (nd 65536 (Q2)) q2c)) := fun W' h => ⟨h.cell HC2_di1.out, h.cell HC2_di2.out, h.cell HC2_p1.out, h.cell HC2_p2.out, h.cell HC2_q1.out, h.cell HC2_q2.out⟩
    have hs2 := hs.drew
    have hcl := HCL2.out _ hs2
    have hc0 := HCL2.out _ hs
    have HAK2 := Lib.hid (fun W' (h : Kq cs2 ns2 rs2 w W') => awake_Q h)
    clear hcs hns hrs HS9
    have HRD : Hid (∀ W', Kq cs2 ns2 rs2 w W' → Calls Tryz.prog 19 #[.agg #[.slice p1o (nd 65536 (P1)) p1c, .slice p2o (nd 65536 (Q1)) p2c], .agg #[.slice q1o (nd 65536 (P2)) q1c, .slice q2o (nd 65536 (Q2)) q2c]] W' fun e w' => ∃ o l c o2 l2 c2, e = .returned (.agg #[.slice o l c, .slice o2 l2 c2]) ∧ (R w' (.slice o l c) (lowP (P1 * Q2) (Q1 * P2)) ∧ R w' (.slice o2 l2 c2) (lowQ (P1 * Q2) (Q1 * P2))) ∧ Kq cs2 ns2 rs2 w w') := fun W' h =>
      (RFDiv_any _ _ _ _ P1 Q1 P2 Q2 W' (h.dig _ (HD2_p1.out)) (h.dig _ (HD2_p2.out)) (h.dig _ (HD2_q1.out)) (h.dig _ (HD2_q2.out)) q1 q2 (by omega) (by omega) (by omega) (by omega) HNUM.out).mono fun e w' ⟨r, s, he, hr, hs, hB⟩ => by
        obtain ⟨ro, rc, rfl, -⟩ := hr.shape
        obtain ⟨so, sc, rfl, -⟩ := hs.shape
        exact ⟨ro, _, rc, so, _, sc, he, ⟨hr, hs⟩, h.next hB⟩
    have HSD : Hid (∀ W' r s, Kq cs2 ns2 rs2 w W' → (R W' r (lowP (P1 * Q2) (Q1 * P2)) ∧ R W' s (lowQ (P1 * Q2) (Q1 * P2))) → Calls Tryz.prog 11 #[.agg #[.slice di1o (nd 4294967296 (lowP (P1 * Q2) (Q1 * P2))) di1c, .slice di2o (nd 4294967296 (lowQ (P1 * Q2) (Q1 * P2))) di2c], .int .i64 0, .agg #[r, s], .int .i64 0] W' fun e w' => e = .returned (.bool true) ∧ Kq cs2 ns2 rs2 w w') := fun W' r s h hr =>
      (same_ok _ _ _ _ (lowP (P1 * Q2) (Q1 * P2)) (lowQ (P1 * Q2) (Q1 * P2)) W' (h.num _ (HM2_di1.out)) (h.num _ (HM2_di2.out)) hr.1 hr.2 (by omega) (by omega) (by omega) h.env).mono fun e w' ⟨he, hB⟩ => ⟨he, h.next hB⟩
    go_wp2_with fail
    go_region_held3 (fun W' : World => (W'.cell? ⟨w8.heap.size, 0, none⟩ = some (.slice di1o (nd 4294967296 (lowP (P1 * Q2) (Q1 * P2))) di1c) ∧ W'.cell? ⟨w8.heap.size, 1, none⟩ = some (.slice di2o (nd 4294967296 (lowQ (P1 * Q2) (Q1 * P2))) di2c) ∧ W'.cell? ⟨w1.heap.size + 1, 0, none⟩ = some (.slice p1o (nd 65536 (P1)) p1c) ∧ W'.cell? ⟨w1.heap.size + 1, 1, none⟩ = some (.slice p2o (nd 65536 (Q1)) p2c) ∧ W'.cell? ⟨w2.heap.size + 1, 0, none⟩ = some (.slice q1o (nd 65536 (P2)) q1c) ∧ W'.cell? ⟨w2.heap.size + 1, 1, none⟩ = some (.slice q2o (nd 65536 (Q2)) q2c)) ∧ Kq cs2 ns2 rs2 w W') (first | (refine And.intro ?_ ?_ <;> assumption)) (first
      | (go_at_call 19; with_reducible refine (HRD.out _ ?h).mono ?_; (case h => assumption); rintro e w' ⟨o1, l1, k1, o2, l2, k2, rfl, hr', hs'⟩; have hc' := HCL2.out _ hs')
      | (go_at_call 11; with_reducible refine (HSD.out _ _ _ ?h ?r).mono ?_; (case h => assumption); (case r => first | assumption | exact rchain (by assumption) (by assumption) | exact rchain (by assumption) (rchain (by assumption) (by assumption)) | exact dchain (by assumption) (by assumption)); rintro e w' ⟨rfl, hs'⟩; have hc' := HCL2.out _ hs')
      | (go_at_call 8; with_reducible refine (HAK2.out _ ?h).mono ?_; (case h => assumption); rintro e w' ⟨rfl, hs'⟩; have hc' := HCL2.out _ hs'))
    all_goals go_wp2
    all_goals go_ret
    all_goals exact ⟨by simp, (by assumption : Kq cs2 ns2 rs2 w _).bel⟩
set_option maxHeartbeats 4000000 in
set_option maxRecDepth 100000 in
theorem natFracSums_ge (u0 u1 u2 u3 : Value) (xs0 xs1 xs2 xs3 : List Nat) (w : World) (hu0 : IsRaw w u0 xs0) (hu1 : IsRaw w u1 xs1) (hu2 : IsRaw w u2 xs2) (hu3 : IsRaw w u3 xs3) (hl0 : xs0.length ≤ maxLen) (hl1 : xs1.length ≤ maxLen) (hl2 : xs2.length ≤ maxLen) (hl3 : xs3.length ≤ maxLen) (h1 : 0 < rawN xs1 12) (h2 : 0 < rawN xs3 12) (hcase : lowP (rawN xs2 12) (rawN xs3 12) * lowQ (rawN xs0 12) (rawN xs1 12) ≤ lowP (rawN xs0 12) (rawN xs1 12) * lowQ (rawN xs2 12) (rawN xs3 12)) (hnum : 0 < lowP (rawN xs2 12) (rawN xs3 12)) (he : Env w) :
    Calls Tryz.prog 3 #[u0, u1, u2, u3] w fun e w' => e = .returned (.bool true) ∧ Below w.heap.size w w' := by
  have HS0 := Lib.hid (Kq.start he)
  have hn0 := rawN_nd hu0.1 12
  have hn1 := rawN_nd hu1.1 12
  have hn2 := rawN_nd hu2.1 12
  have hn3 := rawN_nd hu3.1 12
  have HU0 := Lib.hid hu0
  have HU1 := Lib.hid hu1
  have HU2 := Lib.hid hu2
  have HU3 := Lib.hid hu3
  have HH1 := Lib.hid (fun W (i1 : IsRaw W u0 xs0) (i2 : IsRaw W u1 xs1) => half_pos u0 u1 xs0 xs1 12 W i1 i2 hl0 hl1 (by decide) h1)
  have HH2 := Lib.hid (fun W (i1 : IsRaw W u2 xs2) (i2 : IsRaw W u3 xs3) => half_pos u2 u3 xs2 xs3 12 W i1 i2 hl2 hl3 (by decide) h2)
  have q1 : 0 < lowQ (rawN xs0 12) (rawN xs1 12) := Nat.div_pos (Nat.gcd_le_right _ h1) (Nat.gcd_pos_of_pos_right _ h1)
  have q2 : 0 < lowQ (rawN xs2 12) (rawN xs3 12) := Nat.div_pos (Nat.gcd_le_right _ h2) (Nat.gcd_pos_of_pos_right _ h2)
  have g1 : nd 65536 (lowP (rawN xs0 12) (rawN xs1 12)) ≤ 12 := Nat.le_trans (nd_mono (by decide) (Nat.div_le_self _ _)) hn0
  have g2 : nd 65536 (lowQ (rawN xs0 12) (rawN xs1 12)) ≤ 12 := Nat.le_trans (nd_mono (by decide) (Nat.div_le_self _ _)) hn1
  have g3 : nd 65536 (lowP (rawN xs2 12) (rawN xs3 12)) ≤ 12 := Nat.le_trans (nd_mono (by decide) (Nat.div_le_self _ _)) hn2
  have g4 : nd 65536 (lowQ (rawN xs2 12) (rawN xs3 12)) ≤ 12 := Nat.le_trans (nd_mono (by decide) (Nat.div_le_self _ _)) hn3
  obtain ⟨uo0, uc0, rfl, -⟩ := hu0.shape
  obtain ⟨uo1, uc1, rfl, -⟩ := hu1.shape
  obtain ⟨uo2, uc2, rfl, -⟩ := hu2.shape
  obtain ⟨uo3, uc3, rfl, -⟩ := hu3.shape
  clear he hu0 hl0 hu1 hl1 hu2 hl2 hu3 hl3
  generalize rawN xs0 12 = a at *
  generalize rawN xs1 12 = b at *
  generalize rawN xs2 12 = c at *
  generalize rawN xs3 12 = d at *
  generalize lowP a b = P1 at *
  generalize lowQ a b = Q1 at *
  generalize lowP c d = P2 at *
  generalize lowQ c d = Q2 at *
  have k1 := nd_32 g1
  have k2 := nd_32 g2
  have k3 := nd_32 g3
  have k4 := nd_32 g4
  have m1 := nd_rmul g1 g4
  have m2 := nd_rmul g3 g2
  have m3 := nd_rmul g2 g4
  have m4 := nd_rmul g1 g3
  have m5 := nd_radd m1 m2
  have p3 : 0 < Q1 * Q2 := Nat.mul_pos q1 q2
  have z1 := low_pos (L := P1 * Q2 + P2 * Q1) p3
  have z2 := low_pos (L := P1 * P2) p3
  have y1 := low_nd m5 m3
  have y2 := low_nd m4 m3
  have HO_a := Lib.hid (fun W v u x y (h1 : D W v P1) (h2 : D W u Q1) (h3 : D W x P2) (h4 : D W y Q2) => FAdd_any v u x y P1 Q1 P2 Q2 W h1 h2 h3 h4 (by omega) (by omega) (by omega) (by omega))
  rw [dn_of q1, dn_of q2] at HO_a
  unfold FRes at HO_a
  rw [(sums_fit (L := P1 * Q2 + P2 * Q1) (M := Q1 * Q2) (by omega) (by omega)).1, (sums_fit (L := P1 * Q2 + P2 * Q1) (M := Q1 * Q2) (by omega) (by omega)).2.1, (sums_fit (L := P1 * Q2 + P2 * Q1) (M := Q1 * Q2) (by omega) (by omega)).2.2] at HO_a
  have HO_m := Lib.hid (fun W v u x y (h1 : D W v P1) (h2 : D W u Q1) (h3 : D W x P2) (h4 : D W y Q2) => FMul_any v u x y P1 Q1 P2 Q2 W h1 h2 h3 h4 (by omega) (by omega) (by omega) (by omega))
  rw [dn_of q1, dn_of q2] at HO_m
  unfold FRes at HO_m
  rw [(sums_fit (L := P1 * P2) (M := Q1 * Q2) (by omega) (by omega)).1, (sums_fit (L := P1 * P2) (M := Q1 * Q2) (by omega) (by omega)).2.1, (sums_fit (L := P1 * P2) (M := Q1 * Q2) (by omega) (by omega)).2.2] at HO_m

  have m6 : nd 65536 (P1 * Q2 - P2 * Q1) ≤ 24 := Nat.le_trans (nd_mono (by decide) (Nat.sub_le _ _)) m1
  have z3 := low_pos (L := P1 * Q2 - P2 * Q1) p3
  have y3 := low_nd m6 m3
  have hkk : 0 ≤ cmpN ((P1 * Q2 : Nat) : Int) ((P2 * Q1 : Nat) : Int) := by
    rcases Nat.lt_or_eq_of_le hcase with h | h
    · rw [cmpN_gt (by omega)]; decide
    · rw [cmpN_eq (by omega)]; decide
  have HO_s := Lib.hid (fun W v u x y (h1 : D W v P1) (h2 : D W u Q1) (h3 : D W x P2) (h4 : D W y Q2) => FSub_any v u x y P1 Q1 P2 Q2 W h1 h2 h3 h4 (by omega) (by omega) (by omega) (by omega) (by rw [dn_of q1, dn_of q2]; exact hcase))
  rw [dn_of q1, dn_of q2] at HO_s
  unfold FRes at HO_s
  rw [(sums_fit (L := P1 * Q2 - P2 * Q1) (M := Q1 * Q2) (by omega) (by omega)).1, (sums_fit (L := P1 * Q2 - P2 * Q1) (M := Q1 * Q2) (by omega) (by omega)).2.1, (sums_fit (L := P1 * Q2 - P2 * Q1) (M := Q1 * Q2) (by omega) (by omega)).2.2] at HO_s

  have p4 : 0 < Q1 * P2 := Nat.mul_pos q1 hnum
  have m7 := nd_rmul g2 g3
  have z4 := low_pos (L := P1 * Q2) p4
  have y4 := low_nd m1 m7
  have hq0 : ((((nd 65536 P2 : Nat)) : Int) == 0) = false := beq_eq_false_iff_ne.2 (by have := nd_pos (B := 65536) (by decide) hnum; omega)
  have HO_d := Lib.hid (fun W v u x y (h1 : D W v P1) (h2 : D W u Q1) (h3 : D W x P2) (h4 : D W y Q2) => FDiv_any v u x y P1 Q1 P2 Q2 W h1 h2 h3 h4 (by omega) (by omega) (by omega) (by omega) hnum)
  rw [dn_of q1, dn_of q2] at HO_d
  rw [Nat.mul_comm P2 Q1] at HO_d
  unfold FRes at HO_d
  rw [(sums_fit (L := P1 * Q2) (M := Q1 * P2) (by omega) (by omega)).1, (sums_fit (L := P1 * Q2) (M := Q1 * P2) (by omega) (by omega)).2.1, (sums_fit (L := P1 * Q2) (M := Q1 * P2) (by omega) (by omega)).2.2] at HO_d

  have HFC := Lib.hid (fun W v u x y (h1 : D W v P1) (h2 : D W u Q1) (h3 : D W x P2) (h4 : D W y Q2) => FCmp_any v u x y P1 Q1 P2 Q2 W h1 h2 h3 h4 (by omega) (by omega) (by omega) (by omega))
  rw [dn_of q1, dn_of q2] at HFC
  have HRC := Lib.hid (fun W v u x y (h1 : R W v P1) (h2 : R W u Q1) (h3 : R W x P2) (h4 : R W y Q2) => RFCmp_any v u x y P1 Q1 P2 Q2 W h1 h2 h3 h4 q1 q2 (by omega) (by omega) (by omega) (by omega))
  generalize cmpN ((P1 * Q2 : Nat) : Int) ((P2 * Q1 : Nat) : Int) = kk at *
  have HCASE := Lib.hid hcase; have HNUM := Lib.hid hnum
  clear hcase hnum hn0 hn1 hn2 hn3
  go_enter Tryz.func3, Tryz.ntmps3
  go_wp2_with fail
  refine (HH1.out _ (IsRaw.below HU0.out HS0.out.bel) (IsRaw.below HU1.out HS0.out.bel)).mono ?_
  rintro e w1 ⟨vf1, vf2, vp1, vp2, rfl, hf1, hf2, hp1, hp2, hb⟩
  obtain ⟨f1o, f1c, rfl, -⟩ := hf1.shape
  obtain ⟨f2o, f2c, rfl, -⟩ := hf2.shape
  obtain ⟨p1o, p1c, rfl, -⟩ := hp1.shape
  obtain ⟨p2o, p2c, rfl, -⟩ := hp2.shape
  have hs := ((((((HS0.out.next hb).addNum hf1).addNum hf2).addDig hp1).addDig hp2).boxed2 (.slice f1o (nd 4294967296 (P1)) f1c) (.slice f2o (nd 4294967296 (Q1)) f2c) 26).boxed2 (.slice p1o (nd 65536 (P1)) p1c) (.slice p2o (nd 65536 (Q1)) p2c) 29
  simp only [World.size_alloc] at hs
  have HS1 := Lib.hid hs
  clear hs hb hf1 hf2 hp1 hp2 HS0
  go_wp2_with fail
  refine (HH2.out _ (IsRaw.below HU2.out HS1.out.bel) (IsRaw.below HU3.out HS1.out.bel)).mono ?_
  rintro e w2 ⟨vg1, vg2, vq1, vq2, rfl, hg1, hg2, hq1, hq2, hb⟩
  obtain ⟨g1o, g1c, rfl, -⟩ := hg1.shape
  obtain ⟨g2o, g2c, rfl, -⟩ := hg2.shape
  obtain ⟨q1o, q1c, rfl, -⟩ := hq1.shape
  obtain ⟨q2o, q2c, rfl, -⟩ := hq2.shape
  have hs := ((((((HS1.out.next hb).addNum hg1).addNum hg2).addDig hq1).addDig hq2).boxed2 (.slice g1o (nd 4294967296 (P2)) g1c) (.slice g2o (nd 4294967296 (Q2)) g2c) 26).boxed2 (.slice q1o (nd 65536 (P2)) q1c) (.slice q2o (nd 65536 (Q2)) q2c) 29
  simp only [World.size_alloc] at hs
  have HS2 := Lib.hid hs
  clear hs hb hg1 hg2 hq1 hq2 HS1
  have cf1 := HS2.out.cell (.tail _ (.tail _ (.tail _ (.tail _ (.tail _ (.tail _ (.tail _ (.head _))))))))
  have cf2 := HS2.out.cell (.tail _ (.tail _ (.tail _ (.tail _ (.tail _ (.tail _ (.head _)))))))
  have cg1 := HS2.out.cell (.tail _ (.tail _ (.tail _ (.head _))))
  have cg2 := HS2.out.cell (.tail _ (.tail _ (.head _)))
  go_wp2_with fail
  refine (HO_a.out _ _ _ _ _ (HS2.out.num _ (.tail _ (.tail _ (.tail _ (.head _))))) (HS2.out.num _ (.tail _ (.tail _ (.head _)))) (HS2.out.num _ (.tail _ (.head _))) (HS2.out.num _ (.head _))).mono ?_
  rintro e w3 ⟨vsa1, vsa2, rfl, hsa1, hsa2, hb⟩
  obtain ⟨sa1o, sa1c, rfl, -⟩ := hsa1.shape
  obtain ⟨sa2o, sa2c, rfl, -⟩ := hsa2.shape
  have hs := (((HS2.out.next hb).addNum hsa1).addNum hsa2).boxed2 (.slice sa1o (nd 4294967296 (lowP (P1 * Q2 + P2 * Q1) (Q1 * Q2))) sa1c) (.slice sa2o (nd 4294967296 (lowQ (P1 * Q2 + P2 * Q1) (Q1 * Q2))) sa2c) 26
  have HS3 := Lib.hid hs
  clear hs hb hsa1 hsa2 HS2
  clear cf1 cf2 cg1 cg2
  have cf1 := HS3.out.cell (.tail _ (.tail _ (.tail _ (.tail _ (.tail _ (.tail _ (.tail _ (.tail _ (.tail _ (.head _))))))))))
  have cf2 := HS3.out.cell (.tail _ (.tail _ (.tail _ (.tail _ (.tail _ (.tail _ (.tail _ (.tail _ (.head _)))))))))
  have cg1 := HS3.out.cell (.tail _ (.tail _ (.tail _ (.tail _ (.tail _ (.head _))))))
  have cg2 := HS3.out.cell (.tail _ (.tail _ (.tail _ (.tail _ (.head _)))))
  go_wp2_with fail
  refine (HO_m.out _ _ _ _ _ (HS3.out.num _ (.tail _ (.tail _ (.tail _ (.tail _ (.tail _ (.head _))))))) (HS3.out.num _ (.tail _ (.tail _ (.tail _ (.tail _ (.head _)))))) (HS3.out.num _ (.tail _ (.tail _ (.tail _ (.head _))))) (HS3.out.num _ (.tail _ (.tail _ (.head _))))).mono ?_
  rintro e w4 ⟨vmu1, vmu2, rfl, hmu1, hmu2, hb⟩
  obtain ⟨mu1o, mu1c, rfl, -⟩ := hmu1.shape
  obtain ⟨mu2o, mu2c, rfl, -⟩ := hmu2.shape
  have hs := (((HS3.out.next hb).addNum hmu1).addNum hmu2).boxed2 (.slice mu1o (nd 4294967296 (lowP (P1 * P2) (Q1 * Q2))) mu1c) (.slice mu2o (nd 4294967296 (lowQ (P1 * P2) (Q1 * Q2))) mu2c) 26
  have HS4 := Lib.hid hs
  clear hs hb hmu1 hmu2 HS3
  clear cf1 cf2 cg1 cg2
  have hs := HS4.out
  obtain ⟨cs1, hcs⟩ : ∃ cs : List (Nat × Nat × Value), cs = (w4.heap.size, 1, .slice mu2o (nd 4294967296 (lowQ (P1 * P2) (Q1 * Q2))) mu2c) :: (w4.heap.size, 0, .slice mu1o (nd 4294967296 (lowP (P1 * P2) (Q1 * Q2))) mu1c) :: (w3.heap.size, 1, .slice sa2o (nd 4294967296 (lowQ (P1 * Q2 + P2 * Q1) (Q1 * Q2))) sa2c) :: (w3.heap.size, 0, .slice sa1o (nd 4294967296 (lowP (P1 * Q2 + P2 * Q1) (Q1 * Q2))) sa1c) :: (w2.heap.size + 1, 1, .slice q2o (nd 65536 (Q2)) q2c) :: (w2.heap.size + 1, 0, .slice q1o (nd 65536 (P2)) q1c) :: (w2.heap.size, 1, .slice g2o (nd 4294967296 (Q2)) g2c) :: (w2.heap.size, 0, .slice g1o (nd 4294967296 (P2)) g1c) :: (w1.heap.size + 1, 1, .slice p2o (nd 65536 (Q1)) p2c) :: (w1.heap.size + 1, 0, .slice p1o (nd 65536 (P1)) p1c) :: (w1.heap.size, 1, .slice f2o (nd 4294967296 (Q1)) f2c) :: (w1.heap.size, 0, .slice f1o (nd 4294967296 (P1)) f1c) :: [] := ⟨_, rfl⟩
  obtain ⟨ns1, hns⟩ : ∃ ns : List (Value × Nat), ns = (.slice mu2o (nd 4294967296 (lowQ (P1 * P2) (Q1 * Q2))) mu2c, lowQ (P1 * P2) (Q1 * Q2)) :: (.slice mu1o (nd 4294967296 (lowP (P1 * P2) (Q1 * Q2))) mu1c, lowP (P1 * P2) (Q1 * Q2)) :: (.slice sa2o (nd 4294967296 (lowQ (P1 * Q2 + P2 * Q1) (Q1 * Q2))) sa2c, lowQ (P1 * Q2 + P2 * Q1) (Q1 * Q2)) :: (.slice sa1o (nd 4294967296 (lowP (P1 * Q2 + P2 * Q1) (Q1 * Q2))) sa1c, lowP (P1 * Q2 + P2 * Q1) (Q1 * Q2)) :: (.slice g2o (nd 4294967296 (Q2)) g2c, Q2) :: (.slice g1o (nd 4294967296 (P2)) g1c, P2) :: (.slice f2o (nd 4294967296 (Q1)) f2c, Q1) :: (.slice f1o (nd 4294967296 (P1)) f1c, P1) :: [] := ⟨_, rfl⟩
  obtain ⟨rs1, hrs⟩ : ∃ rs : List (Value × Nat), rs = (.slice q2o (nd 65536 (Q2)) q2c, Q2) :: (.slice q1o (nd 65536 (P2)) q1c, P2) :: (.slice p2o (nd 65536 (Q1)) p2c, Q1) :: (.slice p1o (nd 65536 (P1)) p1c, P1) :: [] := ⟨_, rfl⟩
  rw [← hcs, ← hns, ← hrs] at hs
  have HC1_f1 : Hid (((w1.heap.size, 0, .slice f1o (nd 4294967296 (P1)) f1c) : Nat × Nat × Value) ∈ cs1) := by show _ ∈ _; rw [hcs]; exact (.tail _ (.tail _ (.tail _ (.tail _ (.tail _ (.tail _ (.tail _ (.tail _ (.tail _ (.tail _ (.tail _ (.head _))))))))))))
  have HC1_f2 : Hid (((w1.heap.size, 1, .slice f2o (nd 4294967296 (Q1)) f2c) : Nat × Nat × Value) ∈ cs1) := by show _ ∈ _; rw [hcs]; exact (.tail _ (.tail _ (.tail _ (.tail _ (.tail _ (.tail _ (.tail _ (.tail _ (.tail _ (.tail _ (.head _)))))))))))
  have HC1_g1 : Hid (((w2.heap.size, 0, .slice g1o (nd 4294967296 (P2)) g1c) : Nat × Nat × Value) ∈ cs1) := by show _ ∈ _; rw [hcs]; exact (.tail _ (.tail _ (.tail _ (.tail _ (.tail _ (.tail _ (.tail _ (.head _))))))))
  have HC1_g2 : Hid (((w2.heap.size, 1, .slice g2o (nd 4294967296 (Q2)) g2c) : Nat × Nat × Value) ∈ cs1) := by show _ ∈ _; rw [hcs]; exact (.tail _ (.tail _ (.tail _ (.tail _ (.tail _ (.tail _ (.head _)))))))
  have HC1_p1 : Hid (((w1.heap.size + 1, 0, .slice p1o (nd 65536 (P1)) p1c) : Nat × Nat × Value) ∈ cs1) := by show _ ∈ _; rw [hcs]; exact (.tail _ (.tail _ (.tail _ (.tail _ (.tail _ (.tail _ (.tail _ (.tail _ (.tail _ (.head _))))))))))
  have HC1_p2 : Hid (((w1.heap.size + 1, 1, .slice p2o (nd 65536 (Q1)) p2c) : Nat × Nat × Value) ∈ cs1) := by show _ ∈ _; rw [hcs]; exact (.tail _ (.tail _ (.tail _ (.tail _ (.tail _ (.tail _ (.tail _ (.tail _ (.head _)))))))))
  have HC1_q1 : Hid (((w2.heap.size + 1, 0, .slice q1o (nd 65536 (P2)) q1c) : Nat × Nat × Value) ∈ cs1) := by show _ ∈ _; rw [hcs]; exact (.tail _ (.tail _ (.tail _ (.tail _ (.tail _ (.head _))))))
  have HC1_q2 : Hid (((w2.heap.size + 1, 1, .slice q2o (nd 65536 (Q2)) q2c) : Nat × Nat × Value) ∈ cs1) := by show _ ∈ _; rw [hcs]; exact (.tail _ (.tail _ (.tail _ (.tail _ (.head _)))))
  have HC1_sa1 : Hid (((w3.heap.size, 0, .slice sa1o (nd 4294967296 (lowP (P1 * Q2 + P2 * Q1) (Q1 * Q2))) sa1c) : Nat × Nat × Value) ∈ cs1) := by show _ ∈ _; rw [hcs]; exact (.tail _ (.tail _ (.tail _ (.head _))))
  have HC1_sa2 : Hid (((w3.heap.size, 1, .slice sa2o (nd 4294967296 (lowQ (P1 * Q2 + P2 * Q1) (Q1 * Q2))) sa2c) : Nat × Nat × Value) ∈ cs1) := by show _ ∈ _; rw [hcs]; exact (.tail _ (.tail _ (.head _)))
  have HC1_mu1 : Hid (((w4.heap.size, 0, .slice mu1o (nd 4294967296 (lowP (P1 * P2) (Q1 * Q2))) mu1c) : Nat × Nat × Value) ∈ cs1) := by show _ ∈ _; rw [hcs]; exact (.tail _ (.head _))
  have HC1_mu2 : Hid (((w4.heap.size, 1, .slice mu2o (nd 4294967296 (lowQ (P1 * P2) (Q1 * Q2))) mu2c) : Nat × Nat × Value) ∈ cs1) := by show _ ∈ _; rw [hcs]; exact (.head _)
  have HM1_f1 : Hid (((.slice f1o (nd 4294967296 (P1)) f1c, P1) : Value × Nat) ∈ ns1) := by show _ ∈ _; rw [hns]; exact (.tail _ (.tail _ (.tail _ (.tail _ (.tail _ (.tail _ (.tail _ (.head _))))))))
  have HM1_f2 : Hid (((.slice f2o (nd 4294967296 (Q1)) f2c, Q1) : Value × Nat) ∈ ns1) := by show _ ∈ _; rw [hns]; exact (.tail _ (.tail _ (.tail _ (.tail _ (.tail _ (.tail _ (.head _)))))))
  have HM1_g1 : Hid (((.slice g1o (nd 4294967296 (P2)) g1c, P2) : Value × Nat) ∈ ns1) := by show _ ∈ _; rw [hns]; exact (.tail _ (.tail _ (.tail _ (.tail _ (.tail _ (.head _))))))
  have HM1_g2 : Hid (((.slice g2o (nd 4294967296 (Q2)) g2c, Q2) : Value × Nat) ∈ ns1) := by show _ ∈ _; rw [hns]; exact (.tail _ (.tail _ (.tail _ (.tail _ (.head _)))))
  have HM1_sa1 : Hid (((.slice sa1o (nd 4294967296 (lowP (P1 * Q2 + P2 * Q1) (Q1 * Q2))) sa1c, lowP (P1 * Q2 + P2 * Q1) (Q1 * Q2)) : Value × Nat) ∈ ns1) := by show _ ∈ _; rw [hns]; exact (.tail _ (.tail _ (.tail _ (.head _))))
  have HM1_sa2 : Hid (((.slice sa2o (nd 4294967296 (lowQ (P1 * Q2 + P2 * Q1) (Q1 * Q2))) sa2c, lowQ (P1 * Q2 + P2 * Q1) (Q1 * Q2)) : Value × Nat) ∈ ns1) := by show _ ∈ _; rw [hns]; exact (.tail _ (.tail _ (.head _)))
  have HM1_mu1 : Hid (((.slice mu1o (nd 4294967296 (lowP (P1 * P2) (Q1 * Q2))) mu1c, lowP (P1 * P2) (Q1 * Q2)) : Value × Nat) ∈ ns1) := by show _ ∈ _; rw [hns]; exact (.tail _ (.head _))
  have HM1_mu2 : Hid (((.slice mu2o (nd 4294967296 (lowQ (P1 * P2) (Q1 * Q2))) mu2c, lowQ (P1 * P2) (Q1 * Q2)) : Value × Nat) ∈ ns1) := by show _ ∈ _; rw [hns]; exact (.head _)
  have HD1_p1 : Hid (((.slice p1o (nd 65536 (P1)) p1c, P1) : Value × Nat) ∈ rs1) := by show _ ∈ _; rw [hrs]; exact (.tail _ (.tail _ (.tail _ (.head _))))
  have HD1_p2 : Hid (((.slice p2o (nd 65536 (Q1)) p2c, Q1) : Value × Nat) ∈ rs1) := by show _ ∈ _; rw [hrs]; exact (.tail _ (.tail _ (.head _)))
  have HD1_q1 : Hid (((.slice q1o (nd 65536 (P2)) q1c, P2) : Value × Nat) ∈ rs1) := by show _ ∈ _; rw [hrs]; exact (.tail _ (.head _))
  have HD1_q2 : Hid (((.slice q2o (nd 65536 (Q2)) q2c, Q2) : Value × Nat) ∈ rs1) := by show _ ∈ _; rw [hrs]; exact (.head _)
  have HCL1 : Hid (∀ W', Kq cs1 ns1 rs1 w W' → W'.cell? ⟨w1.heap.size, 0, none⟩ = some (.slice f1o (nd 4294967296 (P1)) f1c) ∧ W'.cell? ⟨w1.heap.size, 1, none⟩ = some (.slice f2o (nd 4294967296 (Q1)) f2c) ∧ W'.cell? ⟨w2.heap.size, 0, none⟩ = some (.slice g1o (nd 4294967296 (P2)) g1c) ∧ W'.cell? ⟨w2.heap.size, 1, none⟩ = some (.slice g2o (nd 4294967296 (Q2)) g2c) ∧ W'.cell? ⟨w1.heap.size + 1, 0, none⟩ = some (.slice p1o (nd 65536 (P1)) p1c) ∧ W'.cell? ⟨w1.heap.size + 1, 1, none⟩ = some (.slice p2o (nd 65536 (Q1)) p2c) ∧ W'.cell? ⟨w2.heap.size + 1, 0, none⟩ = some (.slice q1o (nd 65536 (P2)) q1c) ∧ W'.cell? ⟨w2.heap.size + 1, 1, none⟩ = some (.slice q2o (nd 65536 (Q2)) q2c) ∧ W'.cell? ⟨w3.heap.size, 0, none⟩ = some (.slice sa1o (nd 4294967296 (lowP (P1 * Q2 + P2 * Q1) (Q1 * Q2))) sa1c) ∧ W'.cell? ⟨w3.heap.size, 1, none⟩ = some (.slice sa2o (nd 4294967296 (lowQ (P1 * Q2 + P2 * Q1) (Q1 * Q2))) sa2c) ∧ W'.cell? ⟨w4.heap.size, 0, none⟩ = some (.slice mu1o (nd 4294967296 (lowP (P1 * P2) (Q1 * Q2))) mu1c) ∧ W'.cell? ⟨w4.heap.size, 1, none⟩ = some (.slice mu2o (nd 4294967296 (lowQ (P1 * P2) (Q1 * Q2))) mu2c)) := fun W' h => ⟨h.cell HC1_f1.out, h.cell HC1_f2.out, h.cell HC1_g1.out, h.cell HC1_g2.out, h.cell HC1_p1.out, h.cell HC1_p2.out, h.cell HC1_q1.out, h.cell HC1_q2.out, h.cell HC1_sa1.out, h.cell HC1_sa2.out, h.cell HC1_mu1.out, h.cell HC1_mu2.out⟩
  have hs2 := hs.drew
  have hcl := HCL1.out _ hs2
  have hc0 := HCL1.out _ hs
  have HAK1 := Lib.hid (fun W' (h : Kq cs1 ns1 rs1 w W') => awake_Q h)
  clear hcs hns hrs HS4
  have HRA : Hid (∀ W', Kq cs1 ns1 rs1 w W' → Calls Tryz.prog 12 #[.agg #[.slice p1o (nd 65536 (P1)) p1c, .slice p2o (nd 65536 (Q1)) p2c], .agg #[.slice q1o (nd 65536 (P2)) q1c, .slice q2o (nd 65536 (Q2)) q2c]] W' fun e w' => ∃ o l c o2 l2 c2, e = .returned (.agg #[.slice o l c, .slice o2 l2 c2]) ∧ (R w' (.slice o l c) (lowP (P1 * Q2 + P2 * Q1) (Q1 * Q2)) ∧ R w' (.slice o2 l2 c2) (lowQ (P1 * Q2 + P2 * Q1) (Q1 * Q2))) ∧ Kq cs1 ns1 rs1 w w') := fun W' h =>
    (RFAdd_any _ _ _ _ P1 Q1 P2 Q2 W' (h.dig _ (HD1_p1.out)) (h.dig _ (HD1_p2.out)) (h.dig _ (HD1_q1.out)) (h.dig _ (HD1_q2.out)) q1 q2 (by omega) (by omega) (by omega) (by omega)).mono fun e w' ⟨r, s, he, hr, hs, hB⟩ => by
      obtain ⟨ro, rc, rfl, -⟩ := hr.shape
      obtain ⟨so, sc, rfl, -⟩ := hs.shape
      exact ⟨ro, _, rc, so, _, sc, he, ⟨hr, hs⟩, h.next hB⟩
  have HRM : Hid (∀ W', Kq cs1 ns1 rs1 w W' → Calls Tryz.prog 13 #[.agg #[.slice p1o (nd 65536 (P1)) p1c, .slice p2o (nd 65536 (Q1)) p2c], .agg #[.slice q1o (nd 65536 (P2)) q1c, .slice q2o (nd 65536 (Q2)) q2c]] W' fun e w' => ∃ o l c o2 l2 c2, e = .returned (.agg #[.slice o l c, .slice o2 l2 c2]) ∧ (R w' (.slice o l c) (lowP (P1 * P2) (Q1 * Q2)) ∧ R w' (.slice o2 l2 c2) (lowQ (P1 * P2) (Q1 * Q2))) ∧ Kq cs1 ns1 rs1 w w') := fun W' h =>
    (RFMul_any _ _ _ _ P1 Q1 P2 Q2 W' (h.dig _ (HD1_p1.out)) (h.dig _ (HD1_p2.out)) (h.dig _ (HD1_q1.out)) (h.dig _ (HD1_q2.out)) q1 q2 (by omega) (by omega) (by omega) (by omega)).mono fun e w' ⟨r, s, he, hr, hs, hB⟩ => by
      obtain ⟨ro, rc, rfl, -⟩ := hr.shape
      obtain ⟨so, sc, rfl, -⟩ := hs.shape
      exact ⟨ro, _, rc, so, _, sc, he, ⟨hr, hs⟩, h.next hB⟩
  have HSA : Hid (∀ W' r s, Kq cs1 ns1 rs1 w W' → (R W' r (lowP (P1 * Q2 + P2 * Q1) (Q1 * Q2)) ∧ R W' s (lowQ (P1 * Q2 + P2 * Q1) (Q1 * Q2))) → Calls Tryz.prog 11 #[.agg #[.slice sa1o (nd 4294967296 (lowP (P1 * Q2 + P2 * Q1) (Q1 * Q2))) sa1c, .slice sa2o (nd 4294967296 (lowQ (P1 * Q2 + P2 * Q1) (Q1 * Q2))) sa2c], .int .i64 0, .agg #[r, s], .int .i64 0] W' fun e w' => e = .returned (.bool true) ∧ Kq cs1 ns1 rs1 w w') := fun W' r s h hr =>
    (same_ok _ _ _ _ (lowP (P1 * Q2 + P2 * Q1) (Q1 * Q2)) (lowQ (P1 * Q2 + P2 * Q1) (Q1 * Q2)) W' (h.num _ (HM1_sa1.out)) (h.num _ (HM1_sa2.out)) hr.1 hr.2 (by omega) (by omega) (by omega) h.env).mono fun e w' ⟨he, hB⟩ => ⟨he, h.next hB⟩
  have HSM : Hid (∀ W' r s, Kq cs1 ns1 rs1 w W' → (R W' r (lowP (P1 * P2) (Q1 * Q2)) ∧ R W' s (lowQ (P1 * P2) (Q1 * Q2))) → Calls Tryz.prog 11 #[.agg #[.slice mu1o (nd 4294967296 (lowP (P1 * P2) (Q1 * Q2))) mu1c, .slice mu2o (nd 4294967296 (lowQ (P1 * P2) (Q1 * Q2))) mu2c], .int .i64 0, .agg #[r, s], .int .i64 0] W' fun e w' => e = .returned (.bool true) ∧ Kq cs1 ns1 rs1 w w') := fun W' r s h hr =>
    (same_ok _ _ _ _ (lowP (P1 * P2) (Q1 * Q2)) (lowQ (P1 * P2) (Q1 * Q2)) W' (h.num _ (HM1_mu1.out)) (h.num _ (HM1_mu2.out)) hr.1 hr.2 (by omega) (by omega) (by omega) h.env).mono fun e w' ⟨he, hB⟩ => ⟨he, h.next hB⟩
  have HCF : Hid (∀ W', Kq cs1 ns1 rs1 w W' → Calls Tryz.prog 14 #[.agg #[.slice f1o (nd 4294967296 (P1)) f1c, .slice f2o (nd 4294967296 (Q1)) f2c], .agg #[.slice g1o (nd 4294967296 (P2)) g1c, .slice g2o (nd 4294967296 (Q2)) g2c]] W' fun e w' => e = .returned (.int .i64 kk) ∧ Kq cs1 ns1 rs1 w w') := fun W' h => (HFC.out _ _ _ _ _ (h.num _ (HM1_f1.out)) (h.num _ (HM1_f2.out)) (h.num _ (HM1_g1.out)) (h.num _ (HM1_g2.out))).mono fun e w' ⟨he, hB⟩ => ⟨he, h.next hB⟩
  have HCR : Hid (∀ W', Kq cs1 ns1 rs1 w W' → Calls Tryz.prog 15 #[.agg #[.slice p1o (nd 65536 (P1)) p1c, .slice p2o (nd 65536 (Q1)) p2c], .agg #[.slice q1o (nd 65536 (P2)) q1c, .slice q2o (nd 65536 (Q2)) q2c]] W' fun e w' => e = .returned (.int .i64 kk) ∧ Kq cs1 ns1 rs1 w w') := fun W' h => (HRC.out _ _ _ _ _ (h.dig _ (HD1_p1.out)) (h.dig _ (HD1_p2.out)) (h.dig _ (HD1_q1.out)) (h.dig _ (HD1_q2.out))).mono fun e w' ⟨he, hB⟩ => ⟨he, h.next hB⟩
  go_wp2_with fail
  go_region_held3 (fun W' : World => (W'.cell? ⟨w1.heap.size, 0, none⟩ = some (.slice f1o (nd 4294967296 (P1)) f1c) ∧ W'.cell? ⟨w1.heap.size, 1, none⟩ = some (.slice f2o (nd 4294967296 (Q1)) f2c) ∧ W'.cell? ⟨w2.heap.size, 0, none⟩ = some (.slice g1o (nd 4294967296 (P2)) g1c) ∧ W'.cell? ⟨w2.heap.size, 1, none⟩ = some (.slice g2o (nd 4294967296 (Q2)) g2c) ∧ W'.cell? ⟨w1.heap.size + 1, 0, none⟩ = some (.slice p1o (nd 65536 (P1)) p1c) ∧ W'.cell? ⟨w1.heap.size + 1, 1, none⟩ = some (.slice p2o (nd 65536 (Q1)) p2c) ∧ W'.cell? ⟨w2.heap.size + 1, 0, none⟩ = some (.slice q1o (nd 65536 (P2)) q1c) ∧ W'.cell? ⟨w2.heap.size + 1, 1, none⟩ = some (.slice q2o (nd 65536 (Q2)) q2c) ∧ W'.cell? ⟨w3.heap.size, 0, none⟩ = some (.slice sa1o (nd 4294967296 (lowP (P1 * Q2 + P2 * Q1) (Q1 * Q2))) sa1c) ∧ W'.cell? ⟨w3.heap.size, 1, none⟩ = some (.slice sa2o (nd 4294967296 (lowQ (P1 * Q2 + P2 * Q1) (Q1 * Q2))) sa2c) ∧ W'.cell? ⟨w4.heap.size, 0, none⟩ = some (.slice mu1o (nd 4294967296 (lowP (P1 * P2) (Q1 * Q2))) mu1c) ∧ W'.cell? ⟨w4.heap.size, 1, none⟩ = some (.slice mu2o (nd 4294967296 (lowQ (P1 * P2) (Q1 * Q2))) mu2c)) ∧ Kq cs1 ns1 rs1 w W') (first | (refine And.intro ?_ ?_ <;> assumption)) (first
    | (go_at_call 12; with_reducible refine (HRA.out _ ?h).mono ?_; (case h => assumption); rintro e w' ⟨o1, l1, k1, o2, l2, k2, rfl, hr', hs'⟩; have hc' := HCL1.out _ hs')
    | (go_at_call 13; with_reducible refine (HRM.out _ ?h).mono ?_; (case h => assumption); rintro e w' ⟨o1, l1, k1, o2, l2, k2, rfl, hr', hs'⟩; have hc' := HCL1.out _ hs')
    | (go_at_call 11; with_reducible refine (HSA.out _ _ _ ?h ?r).mono ?_; (case h => assumption); (case r => first | assumption | exact rchain (by assumption) (by assumption) | exact rchain (by assumption) (rchain (by assumption) (by assumption)) | exact dchain (by assumption) (by assumption)); rintro e w' ⟨rfl, hs'⟩; have hc' := HCL1.out _ hs')
    | (go_at_call 11; with_reducible refine (HSM.out _ _ _ ?h ?r).mono ?_; (case h => assumption); (case r => first | assumption | exact rchain (by assumption) (by assumption) | exact rchain (by assumption) (rchain (by assumption) (by assumption)) | exact dchain (by assumption) (by assumption)); rintro e w' ⟨rfl, hs'⟩; have hc' := HCL1.out _ hs')
    | (go_at_call 14; with_reducible refine (HCF.out _ ?h).mono ?_; (case h => assumption); rintro e w' ⟨rfl, hs'⟩; have hc' := HCL1.out _ hs')
    | (go_at_call 15; with_reducible refine (HCR.out _ ?h).mono ?_; (case h => assumption); rintro e w' ⟨rfl, hs'⟩; have hc' := HCL1.out _ hs'))
  all_goals
    have hsx : Kq cs1 ns1 rs1 w w' := by assumption
    have HS5 := Lib.hid hsx
    clear hsx 
    have cf1 := HS5.out.cell (HC1_f1.out)
    have cf2 := HS5.out.cell (HC1_f2.out)
    have cg1 := HS5.out.cell (HC1_g1.out)
    have cg2 := HS5.out.cell (HC1_g2.out)
    go_wp2_with fail
    refine (HO_s.out _ _ _ _ _ (HS5.out.num _ (HM1_f1.out)) (HS5.out.num _ (HM1_f2.out)) (HS5.out.num _ (HM1_g1.out)) (HS5.out.num _ (HM1_g2.out))).mono ?_
    rintro e w5 ⟨vsu1, vsu2, rfl, hsu1, hsu2, hb⟩
    obtain ⟨su1o, su1c, rfl, -⟩ := hsu1.shape
    obtain ⟨su2o, su2c, rfl, -⟩ := hsu2.shape
    have hs := (((HS5.out.next hb).addNum hsu1).addNum hsu2).boxed2 (.slice su1o (nd 4294967296 (lowP (P1 * Q2 - P2 * Q1) (Q1 * Q2))) su1c) (.slice su2o (nd 4294967296 (lowQ (P1 * Q2 - P2 * Q1) (Q1 * Q2))) su2c) 26
    have HS6 := Lib.hid hs
    clear hs hb hsu1 hsu2 HS5
    clear cf1 cf2 cg1 cg2
    have hto := HRC.out _ _ _ _ _ (HS6.out.dig _ (HD1_p1.out)) (HS6.out.dig _ (HD1_p2.out)) (HS6.out.dig _ (HD1_q1.out)) (HS6.out.dig _ (HD1_q2.out))
    have HTO := Lib.hid (hto.mono fun e w' h => And.intro h.1 (HS6.out.next h.2))
    clear hto
    have cp1 := HS6.out.cell (.tail _ (.tail _ (HC1_p1.out)))
    have cp2 := HS6.out.cell (.tail _ (.tail _ (HC1_p2.out)))
    have cq1 := HS6.out.cell (.tail _ (.tail _ (HC1_q1.out)))
    have cq2 := HS6.out.cell (.tail _ (.tail _ (HC1_q2.out)))
    go_wp2_with fail
    refine (HTO.out).mono ?_
    rintro e w6 ⟨rfl, hs⟩
    have HS7 := Lib.hid hs
    clear hs HS6
    clear cp1 cp2 cq1 cq2 HTO
    have hs := HS7.out
    obtain ⟨cs2, hcs⟩ : ∃ cs : List (Nat × Nat × Value), cs = (w5.heap.size, 1, .slice su2o (nd 4294967296 (lowQ (P1 * Q2 - P2 * Q1) (Q1 * Q2))) su2c) :: (w5.heap.size, 0, .slice su1o (nd 4294967296 (lowP (P1 * Q2 - P2 * Q1) (Q1 * Q2))) su1c) :: cs1 := ⟨_, rfl⟩
    obtain ⟨ns2, hns⟩ : ∃ ns : List (Value × Nat), ns = (.slice su2o (nd 4294967296 (lowQ (P1 * Q2 - P2 * Q1) (Q1 * Q2))) su2c, lowQ (P1 * Q2 - P2 * Q1) (Q1 * Q2)) :: (.slice su1o (nd 4294967296 (lowP (P1 * Q2 - P2 * Q1) (Q1 * Q2))) su1c, lowP (P1 * Q2 - P2 * Q1) (Q1 * Q2)) :: ns1 := ⟨_, rfl⟩
    obtain ⟨rs2, hrs⟩ : ∃ rs : List (Value × Nat), rs = rs1 := ⟨_, rfl⟩
    rw [← hcs, ← hns, ← hrs] at hs
    have HC2_f1 : Hid (((w1.heap.size, 0, .slice f1o (nd 4294967296 (P1)) f1c) : Nat × Nat × Value) ∈ cs2) := by show _ ∈ _; rw [hcs]; exact (.tail _ (.tail _ (HC1_f1.out)))
    have HC2_f2 : Hid (((w1.heap.size, 1, .slice f2o (nd 4294967296 (Q1)) f2c) : Nat × Nat × Value) ∈ cs2) := by show _ ∈ _; rw [hcs]; exact (.tail _ (.tail _ (HC1_f2.out)))
    have HC2_g1 : Hid (((w2.heap.size, 0, .slice g1o (nd 4294967296 (P2)) g1c) : Nat × Nat × Value) ∈ cs2) := by show _ ∈ _; rw [hcs]; exact (.tail _ (.tail _ (HC1_g1.out)))
    have HC2_g2 : Hid (((w2.heap.size, 1, .slice g2o (nd 4294967296 (Q2)) g2c) : Nat × Nat × Value) ∈ cs2) := by show _ ∈ _; rw [hcs]; exact (.tail _ (.tail _ (HC1_g2.out)))
    have HC2_p1 : Hid (((w1.heap.size + 1, 0, .slice p1o (nd 65536 (P1)) p1c) : Nat × Nat × Value) ∈ cs2) := by show _ ∈ _; rw [hcs]; exact (.tail _ (.tail _ (HC1_p1.out)))
    have HC2_p2 : Hid (((w1.heap.size + 1, 1, .slice p2o (nd 65536 (Q1)) p2c) : Nat × Nat × Value) ∈ cs2) := by show _ ∈ _; rw [hcs]; exact (.tail _ (.tail _ (HC1_p2.out)))
    have HC2_q1 : Hid (((w2.heap.size + 1, 0, .slice q1o (nd 65536 (P2)) q1c) : Nat × Nat × Value) ∈ cs2) := by show _ ∈ _; rw [hcs]; exact (.tail _ (.tail _ (HC1_q1.out)))
    have HC2_q2 : Hid (((w2.heap.size + 1, 1, .slice q2o (nd 65536 (Q2)) q2c) : Nat × Nat × Value) ∈ cs2) := by show _ ∈ _; rw [hcs]; exact (.tail _ (.tail _ (HC1_q2.out)))
    have HC2_su1 : Hid (((w5.heap.size, 0, .slice su1o (nd 4294967296 (lowP (P1 * Q2 - P2 * Q1) (Q1 * Q2))) su1c) : Nat × Nat × Value) ∈ cs2) := by show _ ∈ _; rw [hcs]; exact (.tail _ (.head _))
    have HC2_su2 : Hid (((w5.heap.size, 1, .slice su2o (nd 4294967296 (lowQ (P1 * Q2 - P2 * Q1) (Q1 * Q2))) su2c) : Nat × Nat × Value) ∈ cs2) := by show _ ∈ _; rw [hcs]; exact (.head _)
    have HM2_f1 : Hid (((.slice f1o (nd 4294967296 (P1)) f1c, P1) : Value × Nat) ∈ ns2) := by show _ ∈ _; rw [hns]; exact (.tail _ (.tail _ (HM1_f1.out)))
    have HM2_f2 : Hid (((.slice f2o (nd 4294967296 (Q1)) f2c, Q1) : Value × Nat) ∈ ns2) := by show _ ∈ _; rw [hns]; exact (.tail _ (.tail _ (HM1_f2.out)))
    have HM2_g1 : Hid (((.slice g1o (nd 4294967296 (P2)) g1c, P2) : Value × Nat) ∈ ns2) := by show _ ∈ _; rw [hns]; exact (.tail _ (.tail _ (HM1_g1.out)))
    have HM2_g2 : Hid (((.slice g2o (nd 4294967296 (Q2)) g2c, Q2) : Value × Nat) ∈ ns2) := by show _ ∈ _; rw [hns]; exact (.tail _ (.tail _ (HM1_g2.out)))
    have HM2_su1 : Hid (((.slice su1o (nd 4294967296 (lowP (P1 * Q2 - P2 * Q1) (Q1 * Q2))) su1c, lowP (P1 * Q2 - P2 * Q1) (Q1 * Q2)) : Value × Nat) ∈ ns2) := by show _ ∈ _; rw [hns]; exact (.tail _ (.head _))
    have HM2_su2 : Hid (((.slice su2o (nd 4294967296 (lowQ (P1 * Q2 - P2 * Q1) (Q1 * Q2))) su2c, lowQ (P1 * Q2 - P2 * Q1) (Q1 * Q2)) : Value × Nat) ∈ ns2) := by show _ ∈ _; rw [hns]; exact (.head _)
    have HD2_p1 : Hid (((.slice p1o (nd 65536 (P1)) p1c, P1) : Value × Nat) ∈ rs2) := by show _ ∈ _; rw [hrs]; exact (HD1_p1.out)
    have HD2_p2 : Hid (((.slice p2o (nd 65536 (Q1)) p2c, Q1) : Value × Nat) ∈ rs2) := by show _ ∈ _; rw [hrs]; exact (HD1_p2.out)
    have HD2_q1 : Hid (((.slice q1o (nd 65536 (P2)) q1c, P2) : Value × Nat) ∈ rs2) := by show _ ∈ _; rw [hrs]; exact (HD1_q1.out)
    have HD2_q2 : Hid (((.slice q2o (nd 65536 (Q2)) q2c, Q2) : Value × Nat) ∈ rs2) := by show _ ∈ _; rw [hrs]; exact (HD1_q2.out)
    have HCL2 : Hid (∀ W', Kq cs2 ns2 rs2 w W' → W'.cell? ⟨w5.heap.size, 0, none⟩ = some (.slice su1o (nd 4294967296 (lowP (P1 * Q2 - P2 * Q1) (Q1 * Q2))) su1c) ∧ W'.cell? ⟨w5.heap.size, 1, none⟩ = some (.slice su2o (nd 4294967296 (lowQ (P1 * Q2 - P2 * Q1) (Q1 * Q2))) su2c) ∧ W'.cell? ⟨w1.heap.size + 1, 0, none⟩ = some (.slice p1o (nd 65536 (P1)) p1c) ∧ W'.cell? ⟨w1.heap.size + 1, 1, none⟩ = some (.slice p2o (nd 65536 (Q1)) p2c) ∧ W'.cell? ⟨w2.heap.size + 1, 0, none⟩ = some (.slice q1o (nd 65536 (P2)) q1c) ∧ W'.cell? ⟨w2.heap.size + 1, 1, none⟩ = some (.slice q2o (nd 65536 (Q2)) q2c)) := fun W' h => ⟨h.cell HC2_su1.out, h.cell HC2_su2.out, h.cell HC2_p1.out, h.cell HC2_p2.out, h.cell HC2_q1.out, h.cell HC2_q2.out⟩
    have hs2 := hs.drew
    have hcl := HCL2.out _ hs2
    have hc0 := HCL2.out _ hs
    have HAK2 := Lib.hid (fun W' (h : Kq cs2 ns2 rs2 w W') => awake_Q h)
    clear hcs hns hrs HS7
    have HRS : Hid (∀ W', Kq cs2 ns2 rs2 w W' → Calls Tryz.prog 17 #[.agg #[.slice p1o (nd 65536 (P1)) p1c, .slice p2o (nd 65536 (Q1)) p2c], .agg #[.slice q1o (nd 65536 (P2)) q1c, .slice q2o (nd 65536 (Q2)) q2c]] W' fun e w' => ∃ o l c o2 l2 c2, e = .returned (.agg #[.slice o l c, .slice o2 l2 c2]) ∧ (R w' (.slice o l c) (lowP (P1 * Q2 - P2 * Q1) (Q1 * Q2)) ∧ R w' (.slice o2 l2 c2) (lowQ (P1 * Q2 - P2 * Q1) (Q1 * Q2))) ∧ Kq cs2 ns2 rs2 w w') := fun W' h =>
      (RFSub_any _ _ _ _ P1 Q1 P2 Q2 W' (h.dig _ (HD2_p1.out)) (h.dig _ (HD2_p2.out)) (h.dig _ (HD2_q1.out)) (h.dig _ (HD2_q2.out)) q1 q2 (by omega) (by omega) (by omega) (by omega) HCASE.out).mono fun e w' ⟨r, s, he, hr, hs, hB⟩ => by
        obtain ⟨ro, rc, rfl, -⟩ := hr.shape
        obtain ⟨so, sc, rfl, -⟩ := hs.shape
        exact ⟨ro, _, rc, so, _, sc, he, ⟨hr, hs⟩, h.next hB⟩
    have HSS : Hid (∀ W' r s, Kq cs2 ns2 rs2 w W' → (R W' r (lowP (P1 * Q2 - P2 * Q1) (Q1 * Q2)) ∧ R W' s (lowQ (P1 * Q2 - P2 * Q1) (Q1 * Q2))) → Calls Tryz.prog 11 #[.agg #[.slice su1o (nd 4294967296 (lowP (P1 * Q2 - P2 * Q1) (Q1 * Q2))) su1c, .slice su2o (nd 4294967296 (lowQ (P1 * Q2 - P2 * Q1) (Q1 * Q2))) su2c], .int .i64 0, .agg #[r, s], .int .i64 0] W' fun e w' => e = .returned (.bool true) ∧ Kq cs2 ns2 rs2 w w') := fun W' r s h hr =>
      (same_ok _ _ _ _ (lowP (P1 * Q2 - P2 * Q1) (Q1 * Q2)) (lowQ (P1 * Q2 - P2 * Q1) (Q1 * Q2)) W' (h.num _ (HM2_su1.out)) (h.num _ (HM2_su2.out)) hr.1 hr.2 (by omega) (by omega) (by omega) h.env).mono fun e w' ⟨he, hB⟩ => ⟨he, h.next hB⟩
    go_wp2_with fail
    go_region_held3 (fun W' : World => (W'.cell? ⟨w5.heap.size, 0, none⟩ = some (.slice su1o (nd 4294967296 (lowP (P1 * Q2 - P2 * Q1) (Q1 * Q2))) su1c) ∧ W'.cell? ⟨w5.heap.size, 1, none⟩ = some (.slice su2o (nd 4294967296 (lowQ (P1 * Q2 - P2 * Q1) (Q1 * Q2))) su2c) ∧ W'.cell? ⟨w1.heap.size + 1, 0, none⟩ = some (.slice p1o (nd 65536 (P1)) p1c) ∧ W'.cell? ⟨w1.heap.size + 1, 1, none⟩ = some (.slice p2o (nd 65536 (Q1)) p2c) ∧ W'.cell? ⟨w2.heap.size + 1, 0, none⟩ = some (.slice q1o (nd 65536 (P2)) q1c) ∧ W'.cell? ⟨w2.heap.size + 1, 1, none⟩ = some (.slice q2o (nd 65536 (Q2)) q2c)) ∧ Kq cs2 ns2 rs2 w W') (first | (refine And.intro ?_ ?_ <;> assumption)) (first
      | (go_at_call 17; with_reducible refine (HRS.out _ ?h).mono ?_; (case h => assumption); rintro e w' ⟨o1, l1, k1, o2, l2, k2, rfl, hr', hs'⟩; have hc' := HCL2.out _ hs')
      | (go_at_call 11; with_reducible refine (HSS.out _ _ _ ?h ?r).mono ?_; (case h => assumption); (case r => first | assumption | exact rchain (by assumption) (by assumption) | exact rchain (by assumption) (rchain (by assumption) (by assumption)) | exact dchain (by assumption) (by assumption)); rintro e w' ⟨rfl, hs'⟩; have hc' := HCL2.out _ hs'))
    all_goals
      have hsx : Kq cs2 ns2 rs2 w w' := by assumption
      have HS8 := Lib.hid hsx
      clear hsx 
      have cf1 := HS8.out.cell (HC2_f1.out)
      have cf2 := HS8.out.cell (HC2_f2.out)
      have cg1 := HS8.out.cell (HC2_g1.out)
      have cg2 := HS8.out.cell (HC2_g2.out)
      go_wp2_with fail
      refine (HO_d.out _ _ _ _ _ (HS8.out.num _ (HM2_f1.out)) (HS8.out.num _ (HM2_f2.out)) (HS8.out.num _ (HM2_g1.out)) (HS8.out.num _ (HM2_g2.out))).mono ?_
      rintro e w7 ⟨vdi1, vdi2, rfl, hdi1, hdi2, hb⟩
      obtain ⟨di1o, di1c, rfl, -⟩ := hdi1.shape
      obtain ⟨di2o, di2c, rfl, -⟩ := hdi2.shape
      have hs := (((HS8.out.next hb).addNum hdi1).addNum hdi2).boxed2 (.slice di1o (nd 4294967296 (lowP (P1 * Q2) (Q1 * P2))) di1c) (.slice di2o (nd 4294967296 (lowQ (P1 * Q2) (Q1 * P2))) di2c) 26
      have HS9 := Lib.hid hs
      clear hs hb hdi1 hdi2 HS8
      clear cf1 cf2 cg1 cg2
      have hs := HS9.out
      obtain ⟨cs3, hcs⟩ : ∃ cs : List (Nat × Nat × Value), cs = (w7.heap.size, 1, .slice di2o (nd 4294967296 (lowQ (P1 * Q2) (Q1 * P2))) di2c) :: (w7.heap.size, 0, .slice di1o (nd 4294967296 (lowP (P1 * Q2) (Q1 * P2))) di1c) :: cs2 := ⟨_, rfl⟩
      obtain ⟨ns3, hns⟩ : ∃ ns : List (Value × Nat), ns = (.slice di2o (nd 4294967296 (lowQ (P1 * Q2) (Q1 * P2))) di2c, lowQ (P1 * Q2) (Q1 * P2)) :: (.slice di1o (nd 4294967296 (lowP (P1 * Q2) (Q1 * P2))) di1c, lowP (P1 * Q2) (Q1 * P2)) :: ns2 := ⟨_, rfl⟩
      obtain ⟨rs3, hrs⟩ : ∃ rs : List (Value × Nat), rs = rs2 := ⟨_, rfl⟩
      rw [← hcs, ← hns, ← hrs] at hs
      have HC3_di1 : Hid (((w7.heap.size, 0, .slice di1o (nd 4294967296 (lowP (P1 * Q2) (Q1 * P2))) di1c) : Nat × Nat × Value) ∈ cs3) := by show _ ∈ _; rw [hcs]; exact (.tail _ (.head _))
      have HC3_di2 : Hid (((w7.heap.size, 1, .slice di2o (nd 4294967296 (lowQ (P1 * Q2) (Q1 * P2))) di2c) : Nat × Nat × Value) ∈ cs3) := by show _ ∈ _; rw [hcs]; exact (.head _)
      have HC3_p1 : Hid (((w1.heap.size + 1, 0, .slice p1o (nd 65536 (P1)) p1c) : Nat × Nat × Value) ∈ cs3) := by show _ ∈ _; rw [hcs]; exact (.tail _ (.tail _ (HC2_p1.out)))
      have HC3_p2 : Hid (((w1.heap.size + 1, 1, .slice p2o (nd 65536 (Q1)) p2c) : Nat × Nat × Value) ∈ cs3) := by show _ ∈ _; rw [hcs]; exact (.tail _ (.tail _ (HC2_p2.out)))
      have HC3_q1 : Hid (((w2.heap.size + 1, 0, .slice q1o (nd 65536 (P2)) q1c) : Nat × Nat × Value) ∈ cs3) := by show _ ∈ _; rw [hcs]; exact (.tail _ (.tail _ (HC2_q1.out)))
      have HC3_q2 : Hid (((w2.heap.size + 1, 1, .slice q2o (nd 65536 (Q2)) q2c) : Nat × Nat × Value) ∈ cs3) := by show _ ∈ _; rw [hcs]; exact (.tail _ (.tail _ (HC2_q2.out)))
      have HM3_di1 : Hid (((.slice di1o (nd 4294967296 (lowP (P1 * Q2) (Q1 * P2))) di1c, lowP (P1 * Q2) (Q1 * P2)) : Value × Nat) ∈ ns3) := by show _ ∈ _; rw [hns]; exact (.tail _ (.head _))
      have HM3_di2 : Hid (((.slice di2o (nd 4294967296 (lowQ (P1 * Q2) (Q1 * P2))) di2c, lowQ (P1 * Q2) (Q1 * P2)) : Value × Nat) ∈ ns3) := by show _ ∈ _; rw [hns]; exact (.head _)
      have HD3_p1 : Hid (((.slice p1o (nd 65536 (P1)) p1c, P1) : Value × Nat) ∈ rs3) := by show _ ∈ _; rw [hrs]; exact (HD2_p1.out)
      have HD3_p2 : Hid (((.slice p2o (nd 65536 (Q1)) p2c, Q1) : Value × Nat) ∈ rs3) := by show _ ∈ _; rw [hrs]; exact (HD2_p2.out)
      have HD3_q1 : Hid (((.slice q1o (nd 65536 (P2)) q1c, P2) : Value × Nat) ∈ rs3) := by show _ ∈ _; rw [hrs]; exact (HD2_q1.out)
      have HD3_q2 : Hid (((.slice q2o (nd 65536 (Q2)) q2c, Q2) : Value × Nat) ∈ rs3) := by show _ ∈ _; rw [hrs]; exact (HD2_q2.out)
      have HCL3 : Hid (∀ W', Kq cs3 ns3 rs3 w W' → W'.cell? ⟨w7.heap.size, 0, none⟩ = some (.slice di1o (nd 4294967296 (lowP (P1 * Q2) (Q1 * P2))) di1c) ∧ W'.cell? ⟨w7.heap.size, 1, none⟩ = some (.slice di2o (nd 4294967296 (lowQ (P1 * Q2) (Q1 * P2))) di2c) ∧ W'.cell? ⟨w1.heap.size + 1, 0, none⟩ = some (.slice p1o (nd 65536 (P1)) p1c) ∧ W'.cell? ⟨w1.heap.size + 1, 1, none⟩ = some (.slice p2o (nd 65536 (Q1)) p2c) ∧ W'.cell? ⟨w2.heap.size + 1, 0, none⟩ = some (.slice q1o (nd 65536 (P2)) q1c) ∧ W'.cell? ⟨w2.heap.size + 1, 1, none⟩ = some (.slice q2o (nd 65536 (Q2)) q2c)) := fun W' h => ⟨h.cell HC3_di1.out, h.cell HC3_di2.out, h.cell HC3_p1.out, h.cell HC3_p2.out, h.cell HC3_q1.out, h.cell HC3_q2.out⟩
      have hs2 := hs.drew
      have hcl := HCL3.out _ hs2
      have hc0 := HCL3.out _ hs
      have HAK3 := Lib.hid (fun W' (h : Kq cs3 ns3 rs3 w W') => awake_Q h)
      clear hcs hns hrs HS9
      have HRD : Hid (∀ W', Kq cs3 ns3 rs3 w W' → Calls Tryz.prog 19 #[.agg #[.slice p1o (nd 65536 (P1)) p1c, .slice p2o (nd 65536 (Q1)) p2c], .agg #[.slice q1o (nd 65536 (P2)) q1c, .slice q2o (nd 65536 (Q2)) q2c]] W' fun e w' => ∃ o l c o2 l2 c2, e = .returned (.agg #[.slice o l c, .slice o2 l2 c2]) ∧ (R w' (.slice o l c) (lowP (P1 * Q2) (Q1 * P2)) ∧ R w' (.slice o2 l2 c2) (lowQ (P1 * Q2) (Q1 * P2))) ∧ Kq cs3 ns3 rs3 w w') := fun W' h =>
        (RFDiv_any _ _ _ _ P1 Q1 P2 Q2 W' (h.dig _ (HD3_p1.out)) (h.dig _ (HD3_p2.out)) (h.dig _ (HD3_q1.out)) (h.dig _ (HD3_q2.out)) q1 q2 (by omega) (by omega) (by omega) (by omega) HNUM.out).mono fun e w' ⟨r, s, he, hr, hs, hB⟩ => by
          obtain ⟨ro, rc, rfl, -⟩ := hr.shape
          obtain ⟨so, sc, rfl, -⟩ := hs.shape
          exact ⟨ro, _, rc, so, _, sc, he, ⟨hr, hs⟩, h.next hB⟩
      have HSD : Hid (∀ W' r s, Kq cs3 ns3 rs3 w W' → (R W' r (lowP (P1 * Q2) (Q1 * P2)) ∧ R W' s (lowQ (P1 * Q2) (Q1 * P2))) → Calls Tryz.prog 11 #[.agg #[.slice di1o (nd 4294967296 (lowP (P1 * Q2) (Q1 * P2))) di1c, .slice di2o (nd 4294967296 (lowQ (P1 * Q2) (Q1 * P2))) di2c], .int .i64 0, .agg #[r, s], .int .i64 0] W' fun e w' => e = .returned (.bool true) ∧ Kq cs3 ns3 rs3 w w') := fun W' r s h hr =>
        (same_ok _ _ _ _ (lowP (P1 * Q2) (Q1 * P2)) (lowQ (P1 * Q2) (Q1 * P2)) W' (h.num _ (HM3_di1.out)) (h.num _ (HM3_di2.out)) hr.1 hr.2 (by omega) (by omega) (by omega) h.env).mono fun e w' ⟨he, hB⟩ => ⟨he, h.next hB⟩
      go_wp2_with fail
      go_region_held3 (fun W' : World => (W'.cell? ⟨w7.heap.size, 0, none⟩ = some (.slice di1o (nd 4294967296 (lowP (P1 * Q2) (Q1 * P2))) di1c) ∧ W'.cell? ⟨w7.heap.size, 1, none⟩ = some (.slice di2o (nd 4294967296 (lowQ (P1 * Q2) (Q1 * P2))) di2c) ∧ W'.cell? ⟨w1.heap.size + 1, 0, none⟩ = some (.slice p1o (nd 65536 (P1)) p1c) ∧ W'.cell? ⟨w1.heap.size + 1, 1, none⟩ = some (.slice p2o (nd 65536 (Q1)) p2c) ∧ W'.cell? ⟨w2.heap.size + 1, 0, none⟩ = some (.slice q1o (nd 65536 (P2)) q1c) ∧ W'.cell? ⟨w2.heap.size + 1, 1, none⟩ = some (.slice q2o (nd 65536 (Q2)) q2c)) ∧ Kq cs3 ns3 rs3 w W') (first | (refine And.intro ?_ ?_ <;> assumption)) (first
        | (go_at_call 19; with_reducible refine (HRD.out _ ?h).mono ?_; (case h => assumption); rintro e w' ⟨o1, l1, k1, o2, l2, k2, rfl, hr', hs'⟩; have hc' := HCL3.out _ hs')
        | (go_at_call 11; with_reducible refine (HSD.out _ _ _ ?h ?r).mono ?_; (case h => assumption); (case r => first | assumption | exact rchain (by assumption) (by assumption) | exact rchain (by assumption) (rchain (by assumption) (by assumption)) | exact dchain (by assumption) (by assumption)); rintro e w' ⟨rfl, hs'⟩; have hc' := HCL3.out _ hs')
        | (go_at_call 8; with_reducible refine (HAK3.out _ ?h).mono ?_; (case h => assumption); rintro e w' ⟨rfl, hs'⟩; have hc' := HCL3.out _ hs'))
      all_goals go_wp2
      all_goals go_ret
      all_goals exact ⟨by simp, (by assumption : Kq cs3 ns3 rs3 w _).bel⟩
set_option maxHeartbeats 4000000 in
set_option maxRecDepth 100000 in
theorem natFracSums_zero (u0 u1 u2 u3 : Value) (xs0 xs1 xs2 xs3 : List Nat) (w : World) (hu0 : IsRaw w u0 xs0) (hu1 : IsRaw w u1 xs1) (hu2 : IsRaw w u2 xs2) (hu3 : IsRaw w u3 xs3) (hl0 : xs0.length ≤ maxLen) (hl1 : xs1.length ≤ maxLen) (hl2 : xs2.length ≤ maxLen) (hl3 : xs3.length ≤ maxLen) (h1 : 0 < rawN xs1 12) (h2 : 0 < rawN xs3 12) (hcase : lowP (rawN xs2 12) (rawN xs3 12) * lowQ (rawN xs0 12) (rawN xs1 12) ≤ lowP (rawN xs0 12) (rawN xs1 12) * lowQ (rawN xs2 12) (rawN xs3 12)) (hnum : lowP (rawN xs2 12) (rawN xs3 12) = 0) (he : Env w) :
    Calls Tryz.prog 3 #[u0, u1, u2, u3] w fun e w' => e = .returned (.bool true) ∧ Below w.heap.size w w' := by
  have HS0 := Lib.hid (Kq.start he)
  have hn0 := rawN_nd hu0.1 12
  have hn1 := rawN_nd hu1.1 12
  have hn2 := rawN_nd hu2.1 12
  have hn3 := rawN_nd hu3.1 12
  have HU0 := Lib.hid hu0
  have HU1 := Lib.hid hu1
  have HU2 := Lib.hid hu2
  have HU3 := Lib.hid hu3
  have HH1 := Lib.hid (fun W (i1 : IsRaw W u0 xs0) (i2 : IsRaw W u1 xs1) => half_pos u0 u1 xs0 xs1 12 W i1 i2 hl0 hl1 (by decide) h1)
  have HH2 := Lib.hid (fun W (i1 : IsRaw W u2 xs2) (i2 : IsRaw W u3 xs3) => half_pos u2 u3 xs2 xs3 12 W i1 i2 hl2 hl3 (by decide) h2)
  have q1 : 0 < lowQ (rawN xs0 12) (rawN xs1 12) := Nat.div_pos (Nat.gcd_le_right _ h1) (Nat.gcd_pos_of_pos_right _ h1)
  have q2 : 0 < lowQ (rawN xs2 12) (rawN xs3 12) := Nat.div_pos (Nat.gcd_le_right _ h2) (Nat.gcd_pos_of_pos_right _ h2)
  have g1 : nd 65536 (lowP (rawN xs0 12) (rawN xs1 12)) ≤ 12 := Nat.le_trans (nd_mono (by decide) (Nat.div_le_self _ _)) hn0
  have g2 : nd 65536 (lowQ (rawN xs0 12) (rawN xs1 12)) ≤ 12 := Nat.le_trans (nd_mono (by decide) (Nat.div_le_self _ _)) hn1
  have g3 : nd 65536 (lowP (rawN xs2 12) (rawN xs3 12)) ≤ 12 := Nat.le_trans (nd_mono (by decide) (Nat.div_le_self _ _)) hn2
  have g4 : nd 65536 (lowQ (rawN xs2 12) (rawN xs3 12)) ≤ 12 := Nat.le_trans (nd_mono (by decide) (Nat.div_le_self _ _)) hn3
  obtain ⟨uo0, uc0, rfl, -⟩ := hu0.shape
  obtain ⟨uo1, uc1, rfl, -⟩ := hu1.shape
  obtain ⟨uo2, uc2, rfl, -⟩ := hu2.shape
  obtain ⟨uo3, uc3, rfl, -⟩ := hu3.shape
  clear he hu0 hl0 hu1 hl1 hu2 hl2 hu3 hl3
  generalize rawN xs0 12 = a at *
  generalize rawN xs1 12 = b at *
  generalize rawN xs2 12 = c at *
  generalize rawN xs3 12 = d at *
  generalize lowP a b = P1 at *
  generalize lowQ a b = Q1 at *
  generalize lowP c d = P2 at *
  generalize lowQ c d = Q2 at *
  have k1 := nd_32 g1
  have k2 := nd_32 g2
  have k3 := nd_32 g3
  have k4 := nd_32 g4
  have m1 := nd_rmul g1 g4
  have m2 := nd_rmul g3 g2
  have m3 := nd_rmul g2 g4
  have m4 := nd_rmul g1 g3
  have m5 := nd_radd m1 m2
  have p3 : 0 < Q1 * Q2 := Nat.mul_pos q1 q2
  have z1 := low_pos (L := P1 * Q2 + P2 * Q1) p3
  have z2 := low_pos (L := P1 * P2) p3
  have y1 := low_nd m5 m3
  have y2 := low_nd m4 m3
  have HO_a := Lib.hid (fun W v u x y (h1 : D W v P1) (h2 : D W u Q1) (h3 : D W x P2) (h4 : D W y Q2) => FAdd_any v u x y P1 Q1 P2 Q2 W h1 h2 h3 h4 (by omega) (by omega) (by omega) (by omega))
  rw [dn_of q1, dn_of q2] at HO_a
  unfold FRes at HO_a
  rw [(sums_fit (L := P1 * Q2 + P2 * Q1) (M := Q1 * Q2) (by omega) (by omega)).1, (sums_fit (L := P1 * Q2 + P2 * Q1) (M := Q1 * Q2) (by omega) (by omega)).2.1, (sums_fit (L := P1 * Q2 + P2 * Q1) (M := Q1 * Q2) (by omega) (by omega)).2.2] at HO_a
  have HO_m := Lib.hid (fun W v u x y (h1 : D W v P1) (h2 : D W u Q1) (h3 : D W x P2) (h4 : D W y Q2) => FMul_any v u x y P1 Q1 P2 Q2 W h1 h2 h3 h4 (by omega) (by omega) (by omega) (by omega))
  rw [dn_of q1, dn_of q2] at HO_m
  unfold FRes at HO_m
  rw [(sums_fit (L := P1 * P2) (M := Q1 * Q2) (by omega) (by omega)).1, (sums_fit (L := P1 * P2) (M := Q1 * Q2) (by omega) (by omega)).2.1, (sums_fit (L := P1 * P2) (M := Q1 * Q2) (by omega) (by omega)).2.2] at HO_m

  have m6 : nd 65536 (P1 * Q2 - P2 * Q1) ≤ 24 := Nat.le_trans (nd_mono (by decide) (Nat.sub_le _ _)) m1
  have z3 := low_pos (L := P1 * Q2 - P2 * Q1) p3
  have y3 := low_nd m6 m3
  have hkk : 0 ≤ cmpN ((P1 * Q2 : Nat) : Int) ((P2 * Q1 : Nat) : Int) := by
    rcases Nat.lt_or_eq_of_le hcase with h | h
    · rw [cmpN_gt (by omega)]; decide
    · rw [cmpN_eq (by omega)]; decide
  have HO_s := Lib.hid (fun W v u x y (h1 : D W v P1) (h2 : D W u Q1) (h3 : D W x P2) (h4 : D W y Q2) => FSub_any v u x y P1 Q1 P2 Q2 W h1 h2 h3 h4 (by omega) (by omega) (by omega) (by omega) (by rw [dn_of q1, dn_of q2]; exact hcase))
  rw [dn_of q1, dn_of q2] at HO_s
  unfold FRes at HO_s
  rw [(sums_fit (L := P1 * Q2 - P2 * Q1) (M := Q1 * Q2) (by omega) (by omega)).1, (sums_fit (L := P1 * Q2 - P2 * Q1) (M := Q1 * Q2) (by omega) (by omega)).2.1, (sums_fit (L := P1 * Q2 - P2 * Q1) (M := Q1 * Q2) (by omega) (by omega)).2.2] at HO_s

  have HO_d := Lib.hid (fun W v u x y (h1 : D W v P1) (h2 : D W u Q1) (h3 : D W x P2) (h4 : D W y Q2) => FDiv_zero v u x y P1 Q1 Q2 W h1 h2 (hnum ▸ h3) h4)
  have hq0 : ((((nd 65536 P2 : Nat)) : Int) == 0) = true := by rw [hnum, nd_zero]; rfl
  have HFC := Lib.hid (fun W v u x y (h1 : D W v P1) (h2 : D W u Q1) (h3 : D W x P2) (h4 : D W y Q2) => FCmp_any v u x y P1 Q1 P2 Q2 W h1 h2 h3 h4 (by omega) (by omega) (by omega) (by omega))
  rw [dn_of q1, dn_of q2] at HFC
  have HRC := Lib.hid (fun W v u x y (h1 : R W v P1) (h2 : R W u Q1) (h3 : R W x P2) (h4 : R W y Q2) => RFCmp_any v u x y P1 Q1 P2 Q2 W h1 h2 h3 h4 q1 q2 (by omega) (by omega) (by omega) (by omega))
  generalize cmpN ((P1 * Q2 : Nat) : Int) ((P2 * Q1 : Nat) : Int) = kk at *
  have HCASE := Lib.hid hcase; have HNUM := Lib.hid hnum
  clear hcase hnum hn0 hn1 hn2 hn3
  go_enter Tryz.func3, Tryz.ntmps3
  go_wp2_with fail
  refine (HH1.out _ (IsRaw.below HU0.out HS0.out.bel) (IsRaw.below HU1.out HS0.out.bel)).mono ?_
  rintro e w1 ⟨vf1, vf2, vp1, vp2, rfl, hf1, hf2, hp1, hp2, hb⟩
  obtain ⟨f1o, f1c, rfl, -⟩ := hf1.shape
  obtain ⟨f2o, f2c, rfl, -⟩ := hf2.shape
  obtain ⟨p1o, p1c, rfl, -⟩ := hp1.shape
  obtain ⟨p2o, p2c, rfl, -⟩ := hp2.shape
  have hs := ((((((HS0.out.next hb).addNum hf1).addNum hf2).addDig hp1).addDig hp2).boxed2 (.slice f1o (nd 4294967296 (P1)) f1c) (.slice f2o (nd 4294967296 (Q1)) f2c) 26).boxed2 (.slice p1o (nd 65536 (P1)) p1c) (.slice p2o (nd 65536 (Q1)) p2c) 29
  simp only [World.size_alloc] at hs
  have HS1 := Lib.hid hs
  clear hs hb hf1 hf2 hp1 hp2 HS0
  go_wp2_with fail
  refine (HH2.out _ (IsRaw.below HU2.out HS1.out.bel) (IsRaw.below HU3.out HS1.out.bel)).mono ?_
  rintro e w2 ⟨vg1, vg2, vq1, vq2, rfl, hg1, hg2, hq1, hq2, hb⟩
  obtain ⟨g1o, g1c, rfl, -⟩ := hg1.shape
  obtain ⟨g2o, g2c, rfl, -⟩ := hg2.shape
  obtain ⟨q1o, q1c, rfl, -⟩ := hq1.shape
  obtain ⟨q2o, q2c, rfl, -⟩ := hq2.shape
  have hs := ((((((HS1.out.next hb).addNum hg1).addNum hg2).addDig hq1).addDig hq2).boxed2 (.slice g1o (nd 4294967296 (P2)) g1c) (.slice g2o (nd 4294967296 (Q2)) g2c) 26).boxed2 (.slice q1o (nd 65536 (P2)) q1c) (.slice q2o (nd 65536 (Q2)) q2c) 29
  simp only [World.size_alloc] at hs
  have HS2 := Lib.hid hs
  clear hs hb hg1 hg2 hq1 hq2 HS1
  have cf1 := HS2.out.cell (.tail _ (.tail _ (.tail _ (.tail _ (.tail _ (.tail _ (.tail _ (.head _))))))))
  have cf2 := HS2.out.cell (.tail _ (.tail _ (.tail _ (.tail _ (.tail _ (.tail _ (.head _)))))))
  have cg1 := HS2.out.cell (.tail _ (.tail _ (.tail _ (.head _))))
  have cg2 := HS2.out.cell (.tail _ (.tail _ (.head _)))
  go_wp2_with fail
  refine (HO_a.out _ _ _ _ _ (HS2.out.num _ (.tail _ (.tail _ (.tail _ (.head _))))) (HS2.out.num _ (.tail _ (.tail _ (.head _)))) (HS2.out.num _ (.tail _ (.head _))) (HS2.out.num _ (.head _))).mono ?_
  rintro e w3 ⟨vsa1, vsa2, rfl, hsa1, hsa2, hb⟩
  obtain ⟨sa1o, sa1c, rfl, -⟩ := hsa1.shape
  obtain ⟨sa2o, sa2c, rfl, -⟩ := hsa2.shape
  have hs := (((HS2.out.next hb).addNum hsa1).addNum hsa2).boxed2 (.slice sa1o (nd 4294967296 (lowP (P1 * Q2 + P2 * Q1) (Q1 * Q2))) sa1c) (.slice sa2o (nd 4294967296 (lowQ (P1 * Q2 + P2 * Q1) (Q1 * Q2))) sa2c) 26
  have HS3 := Lib.hid hs
  clear hs hb hsa1 hsa2 HS2
  clear cf1 cf2 cg1 cg2
  have cf1 := HS3.out.cell (.tail _ (.tail _ (.tail _ (.tail _ (.tail _ (.tail _ (.tail _ (.tail _ (.tail _ (.head _))))))))))
  have cf2 := HS3.out.cell (.tail _ (.tail _ (.tail _ (.tail _ (.tail _ (.tail _ (.tail _ (.tail _ (.head _)))))))))
  have cg1 := HS3.out.cell (.tail _ (.tail _ (.tail _ (.tail _ (.tail _ (.head _))))))
  have cg2 := HS3.out.cell (.tail _ (.tail _ (.tail _ (.tail _ (.head _)))))
  go_wp2_with fail
  refine (HO_m.out _ _ _ _ _ (HS3.out.num _ (.tail _ (.tail _ (.tail _ (.tail _ (.tail _ (.head _))))))) (HS3.out.num _ (.tail _ (.tail _ (.tail _ (.tail _ (.head _)))))) (HS3.out.num _ (.tail _ (.tail _ (.tail _ (.head _))))) (HS3.out.num _ (.tail _ (.tail _ (.head _))))).mono ?_
  rintro e w4 ⟨vmu1, vmu2, rfl, hmu1, hmu2, hb⟩
  obtain ⟨mu1o, mu1c, rfl, -⟩ := hmu1.shape
  obtain ⟨mu2o, mu2c, rfl, -⟩ := hmu2.shape
  have hs := (((HS3.out.next hb).addNum hmu1).addNum hmu2).boxed2 (.slice mu1o (nd 4294967296 (lowP (P1 * P2) (Q1 * Q2))) mu1c) (.slice mu2o (nd 4294967296 (lowQ (P1 * P2) (Q1 * Q2))) mu2c) 26
  have HS4 := Lib.hid hs
  clear hs hb hmu1 hmu2 HS3
  clear cf1 cf2 cg1 cg2
  have hs := HS4.out
  obtain ⟨cs1, hcs⟩ : ∃ cs : List (Nat × Nat × Value), cs = (w4.heap.size, 1, .slice mu2o (nd 4294967296 (lowQ (P1 * P2) (Q1 * Q2))) mu2c) :: (w4.heap.size, 0, .slice mu1o (nd 4294967296 (lowP (P1 * P2) (Q1 * Q2))) mu1c) :: (w3.heap.size, 1, .slice sa2o (nd 4294967296 (lowQ (P1 * Q2 + P2 * Q1) (Q1 * Q2))) sa2c) :: (w3.heap.size, 0, .slice sa1o (nd 4294967296 (lowP (P1 * Q2 + P2 * Q1) (Q1 * Q2))) sa1c) :: (w2.heap.size + 1, 1, .slice q2o (nd 65536 (Q2)) q2c) :: (w2.heap.size + 1, 0, .slice q1o (nd 65536 (P2)) q1c) :: (w2.heap.size, 1, .slice g2o (nd 4294967296 (Q2)) g2c) :: (w2.heap.size, 0, .slice g1o (nd 4294967296 (P2)) g1c) :: (w1.heap.size + 1, 1, .slice p2o (nd 65536 (Q1)) p2c) :: (w1.heap.size + 1, 0, .slice p1o (nd 65536 (P1)) p1c) :: (w1.heap.size, 1, .slice f2o (nd 4294967296 (Q1)) f2c) :: (w1.heap.size, 0, .slice f1o (nd 4294967296 (P1)) f1c) :: [] := ⟨_, rfl⟩
  obtain ⟨ns1, hns⟩ : ∃ ns : List (Value × Nat), ns = (.slice mu2o (nd 4294967296 (lowQ (P1 * P2) (Q1 * Q2))) mu2c, lowQ (P1 * P2) (Q1 * Q2)) :: (.slice mu1o (nd 4294967296 (lowP (P1 * P2) (Q1 * Q2))) mu1c, lowP (P1 * P2) (Q1 * Q2)) :: (.slice sa2o (nd 4294967296 (lowQ (P1 * Q2 + P2 * Q1) (Q1 * Q2))) sa2c, lowQ (P1 * Q2 + P2 * Q1) (Q1 * Q2)) :: (.slice sa1o (nd 4294967296 (lowP (P1 * Q2 + P2 * Q1) (Q1 * Q2))) sa1c, lowP (P1 * Q2 + P2 * Q1) (Q1 * Q2)) :: (.slice g2o (nd 4294967296 (Q2)) g2c, Q2) :: (.slice g1o (nd 4294967296 (P2)) g1c, P2) :: (.slice f2o (nd 4294967296 (Q1)) f2c, Q1) :: (.slice f1o (nd 4294967296 (P1)) f1c, P1) :: [] := ⟨_, rfl⟩
  obtain ⟨rs1, hrs⟩ : ∃ rs : List (Value × Nat), rs = (.slice q2o (nd 65536 (Q2)) q2c, Q2) :: (.slice q1o (nd 65536 (P2)) q1c, P2) :: (.slice p2o (nd 65536 (Q1)) p2c, Q1) :: (.slice p1o (nd 65536 (P1)) p1c, P1) :: [] := ⟨_, rfl⟩
  rw [← hcs, ← hns, ← hrs] at hs
  have HC1_f1 : Hid (((w1.heap.size, 0, .slice f1o (nd 4294967296 (P1)) f1c) : Nat × Nat × Value) ∈ cs1) := by show _ ∈ _; rw [hcs]; exact (.tail _ (.tail _ (.tail _ (.tail _ (.tail _ (.tail _ (.tail _ (.tail _ (.tail _ (.tail _ (.tail _ (.head _))))))))))))
  have HC1_f2 : Hid (((w1.heap.size, 1, .slice f2o (nd 4294967296 (Q1)) f2c) : Nat × Nat × Value) ∈ cs1) := by show _ ∈ _; rw [hcs]; exact (.tail _ (.tail _ (.tail _ (.tail _ (.tail _ (.tail _ (.tail _ (.tail _ (.tail _ (.tail _ (.head _)))))))))))
  have HC1_g1 : Hid (((w2.heap.size, 0, .slice g1o (nd 4294967296 (P2)) g1c) : Nat × Nat × Value) ∈ cs1) := by show _ ∈ _; rw [hcs]; exact (.tail _ (.tail _ (.tail _ (.tail _ (.tail _ (.tail _ (.tail _ (.head _))))))))
  have HC1_g2 : Hid (((w2.heap.size, 1, .slice g2o (nd 4294967296 (Q2)) g2c) : Nat × Nat × Value) ∈ cs1) := by show _ ∈ _; rw [hcs]; exact (.tail _ (.tail _ (.tail _ (.tail _ (.tail _ (.tail _ (.head _)))))))
  have HC1_p1 : Hid (((w1.heap.size + 1, 0, .slice p1o (nd 65536 (P1)) p1c) : Nat × Nat × Value) ∈ cs1) := by show _ ∈ _; rw [hcs]; exact (.tail _ (.tail _ (.tail _ (.tail _ (.tail _ (.tail _ (.tail _ (.tail _ (.tail _ (.head _))))))))))
  have HC1_p2 : Hid (((w1.heap.size + 1, 1, .slice p2o (nd 65536 (Q1)) p2c) : Nat × Nat × Value) ∈ cs1) := by show _ ∈ _; rw [hcs]; exact (.tail _ (.tail _ (.tail _ (.tail _ (.tail _ (.tail _ (.tail _ (.tail _ (.head _)))))))))
  have HC1_q1 : Hid (((w2.heap.size + 1, 0, .slice q1o (nd 65536 (P2)) q1c) : Nat × Nat × Value) ∈ cs1) := by show _ ∈ _; rw [hcs]; exact (.tail _ (.tail _ (.tail _ (.tail _ (.tail _ (.head _))))))
  have HC1_q2 : Hid (((w2.heap.size + 1, 1, .slice q2o (nd 65536 (Q2)) q2c) : Nat × Nat × Value) ∈ cs1) := by show _ ∈ _; rw [hcs]; exact (.tail _ (.tail _ (.tail _ (.tail _ (.head _)))))
  have HC1_sa1 : Hid (((w3.heap.size, 0, .slice sa1o (nd 4294967296 (lowP (P1 * Q2 + P2 * Q1) (Q1 * Q2))) sa1c) : Nat × Nat × Value) ∈ cs1) := by show _ ∈ _; rw [hcs]; exact (.tail _ (.tail _ (.tail _ (.head _))))
  have HC1_sa2 : Hid (((w3.heap.size, 1, .slice sa2o (nd 4294967296 (lowQ (P1 * Q2 + P2 * Q1) (Q1 * Q2))) sa2c) : Nat × Nat × Value) ∈ cs1) := by show _ ∈ _; rw [hcs]; exact (.tail _ (.tail _ (.head _)))
  have HC1_mu1 : Hid (((w4.heap.size, 0, .slice mu1o (nd 4294967296 (lowP (P1 * P2) (Q1 * Q2))) mu1c) : Nat × Nat × Value) ∈ cs1) := by show _ ∈ _; rw [hcs]; exact (.tail _ (.head _))
  have HC1_mu2 : Hid (((w4.heap.size, 1, .slice mu2o (nd 4294967296 (lowQ (P1 * P2) (Q1 * Q2))) mu2c) : Nat × Nat × Value) ∈ cs1) := by show _ ∈ _; rw [hcs]; exact (.head _)
  have HM1_f1 : Hid (((.slice f1o (nd 4294967296 (P1)) f1c, P1) : Value × Nat) ∈ ns1) := by show _ ∈ _; rw [hns]; exact (.tail _ (.tail _ (.tail _ (.tail _ (.tail _ (.tail _ (.tail _ (.head _))))))))
  have HM1_f2 : Hid (((.slice f2o (nd 4294967296 (Q1)) f2c, Q1) : Value × Nat) ∈ ns1) := by show _ ∈ _; rw [hns]; exact (.tail _ (.tail _ (.tail _ (.tail _ (.tail _ (.tail _ (.head _)))))))
  have HM1_g1 : Hid (((.slice g1o (nd 4294967296 (P2)) g1c, P2) : Value × Nat) ∈ ns1) := by show _ ∈ _; rw [hns]; exact (.tail _ (.tail _ (.tail _ (.tail _ (.tail _ (.head _))))))
  have HM1_g2 : Hid (((.slice g2o (nd 4294967296 (Q2)) g2c, Q2) : Value × Nat) ∈ ns1) := by show _ ∈ _; rw [hns]; exact (.tail _ (.tail _ (.tail _ (.tail _ (.head _)))))
  have HM1_sa1 : Hid (((.slice sa1o (nd 4294967296 (lowP (P1 * Q2 + P2 * Q1) (Q1 * Q2))) sa1c, lowP (P1 * Q2 + P2 * Q1) (Q1 * Q2)) : Value × Nat) ∈ ns1) := by show _ ∈ _; rw [hns]; exact (.tail _ (.tail _ (.tail _ (.head _))))
  have HM1_sa2 : Hid (((.slice sa2o (nd 4294967296 (lowQ (P1 * Q2 + P2 * Q1) (Q1 * Q2))) sa2c, lowQ (P1 * Q2 + P2 * Q1) (Q1 * Q2)) : Value × Nat) ∈ ns1) := by show _ ∈ _; rw [hns]; exact (.tail _ (.tail _ (.head _)))
  have HM1_mu1 : Hid (((.slice mu1o (nd 4294967296 (lowP (P1 * P2) (Q1 * Q2))) mu1c, lowP (P1 * P2) (Q1 * Q2)) : Value × Nat) ∈ ns1) := by show _ ∈ _; rw [hns]; exact (.tail _ (.head _))
  have HM1_mu2 : Hid (((.slice mu2o (nd 4294967296 (lowQ (P1 * P2) (Q1 * Q2))) mu2c, lowQ (P1 * P2) (Q1 * Q2)) : Value × Nat) ∈ ns1) := by show _ ∈ _; rw [hns]; exact (.head _)
  have HD1_p1 : Hid (((.slice p1o (nd 65536 (P1)) p1c, P1) : Value × Nat) ∈ rs1) := by show _ ∈ _; rw [hrs]; exact (.tail _ (.tail _ (.tail _ (.head _))))
  have HD1_p2 : Hid (((.slice p2o (nd 65536 (Q1)) p2c, Q1) : Value × Nat) ∈ rs1) := by show _ ∈ _; rw [hrs]; exact (.tail _ (.tail _ (.head _)))
  have HD1_q1 : Hid (((.slice q1o (nd 65536 (P2)) q1c, P2) : Value × Nat) ∈ rs1) := by show _ ∈ _; rw [hrs]; exact (.tail _ (.head _))
  have HD1_q2 : Hid (((.slice q2o (nd 65536 (Q2)) q2c, Q2) : Value × Nat) ∈ rs1) := by show _ ∈ _; rw [hrs]; exact (.head _)
  have HCL1 : Hid (∀ W', Kq cs1 ns1 rs1 w W' → W'.cell? ⟨w1.heap.size, 0, none⟩ = some (.slice f1o (nd 4294967296 (P1)) f1c) ∧ W'.cell? ⟨w1.heap.size, 1, none⟩ = some (.slice f2o (nd 4294967296 (Q1)) f2c) ∧ W'.cell? ⟨w2.heap.size, 0, none⟩ = some (.slice g1o (nd 4294967296 (P2)) g1c) ∧ W'.cell? ⟨w2.heap.size, 1, none⟩ = some (.slice g2o (nd 4294967296 (Q2)) g2c) ∧ W'.cell? ⟨w1.heap.size + 1, 0, none⟩ = some (.slice p1o (nd 65536 (P1)) p1c) ∧ W'.cell? ⟨w1.heap.size + 1, 1, none⟩ = some (.slice p2o (nd 65536 (Q1)) p2c) ∧ W'.cell? ⟨w2.heap.size + 1, 0, none⟩ = some (.slice q1o (nd 65536 (P2)) q1c) ∧ W'.cell? ⟨w2.heap.size + 1, 1, none⟩ = some (.slice q2o (nd 65536 (Q2)) q2c) ∧ W'.cell? ⟨w3.heap.size, 0, none⟩ = some (.slice sa1o (nd 4294967296 (lowP (P1 * Q2 + P2 * Q1) (Q1 * Q2))) sa1c) ∧ W'.cell? ⟨w3.heap.size, 1, none⟩ = some (.slice sa2o (nd 4294967296 (lowQ (P1 * Q2 + P2 * Q1) (Q1 * Q2))) sa2c) ∧ W'.cell? ⟨w4.heap.size, 0, none⟩ = some (.slice mu1o (nd 4294967296 (lowP (P1 * P2) (Q1 * Q2))) mu1c) ∧ W'.cell? ⟨w4.heap.size, 1, none⟩ = some (.slice mu2o (nd 4294967296 (lowQ (P1 * P2) (Q1 * Q2))) mu2c)) := fun W' h => ⟨h.cell HC1_f1.out, h.cell HC1_f2.out, h.cell HC1_g1.out, h.cell HC1_g2.out, h.cell HC1_p1.out, h.cell HC1_p2.out, h.cell HC1_q1.out, h.cell HC1_q2.out, h.cell HC1_sa1.out, h.cell HC1_sa2.out, h.cell HC1_mu1.out, h.cell HC1_mu2.out⟩
  have hs2 := hs.drew
  have hcl := HCL1.out _ hs2
  have hc0 := HCL1.out _ hs
  have HAK1 := Lib.hid (fun W' (h : Kq cs1 ns1 rs1 w W') => awake_Q h)
  clear hcs hns hrs HS4
  have HRA : Hid (∀ W', Kq cs1 ns1 rs1 w W' → Calls Tryz.prog 12 #[.agg #[.slice p1o (nd 65536 (P1)) p1c, .slice p2o (nd 65536 (Q1)) p2c], .agg #[.slice q1o (nd 65536 (P2)) q1c, .slice q2o (nd 65536 (Q2)) q2c]] W' fun e w' => ∃ o l c o2 l2 c2, e = .returned (.agg #[.slice o l c, .slice o2 l2 c2]) ∧ (R w' (.slice o l c) (lowP (P1 * Q2 + P2 * Q1) (Q1 * Q2)) ∧ R w' (.slice o2 l2 c2) (lowQ (P1 * Q2 + P2 * Q1) (Q1 * Q2))) ∧ Kq cs1 ns1 rs1 w w') := fun W' h =>
    (RFAdd_any _ _ _ _ P1 Q1 P2 Q2 W' (h.dig _ (HD1_p1.out)) (h.dig _ (HD1_p2.out)) (h.dig _ (HD1_q1.out)) (h.dig _ (HD1_q2.out)) q1 q2 (by omega) (by omega) (by omega) (by omega)).mono fun e w' ⟨r, s, he, hr, hs, hB⟩ => by
      obtain ⟨ro, rc, rfl, -⟩ := hr.shape
      obtain ⟨so, sc, rfl, -⟩ := hs.shape
      exact ⟨ro, _, rc, so, _, sc, he, ⟨hr, hs⟩, h.next hB⟩
  have HRM : Hid (∀ W', Kq cs1 ns1 rs1 w W' → Calls Tryz.prog 13 #[.agg #[.slice p1o (nd 65536 (P1)) p1c, .slice p2o (nd 65536 (Q1)) p2c], .agg #[.slice q1o (nd 65536 (P2)) q1c, .slice q2o (nd 65536 (Q2)) q2c]] W' fun e w' => ∃ o l c o2 l2 c2, e = .returned (.agg #[.slice o l c, .slice o2 l2 c2]) ∧ (R w' (.slice o l c) (lowP (P1 * P2) (Q1 * Q2)) ∧ R w' (.slice o2 l2 c2) (lowQ (P1 * P2) (Q1 * Q2))) ∧ Kq cs1 ns1 rs1 w w') := fun W' h =>
    (RFMul_any _ _ _ _ P1 Q1 P2 Q2 W' (h.dig _ (HD1_p1.out)) (h.dig _ (HD1_p2.out)) (h.dig _ (HD1_q1.out)) (h.dig _ (HD1_q2.out)) q1 q2 (by omega) (by omega) (by omega) (by omega)).mono fun e w' ⟨r, s, he, hr, hs, hB⟩ => by
      obtain ⟨ro, rc, rfl, -⟩ := hr.shape
      obtain ⟨so, sc, rfl, -⟩ := hs.shape
      exact ⟨ro, _, rc, so, _, sc, he, ⟨hr, hs⟩, h.next hB⟩
  have HSA : Hid (∀ W' r s, Kq cs1 ns1 rs1 w W' → (R W' r (lowP (P1 * Q2 + P2 * Q1) (Q1 * Q2)) ∧ R W' s (lowQ (P1 * Q2 + P2 * Q1) (Q1 * Q2))) → Calls Tryz.prog 11 #[.agg #[.slice sa1o (nd 4294967296 (lowP (P1 * Q2 + P2 * Q1) (Q1 * Q2))) sa1c, .slice sa2o (nd 4294967296 (lowQ (P1 * Q2 + P2 * Q1) (Q1 * Q2))) sa2c], .int .i64 0, .agg #[r, s], .int .i64 0] W' fun e w' => e = .returned (.bool true) ∧ Kq cs1 ns1 rs1 w w') := fun W' r s h hr =>
    (same_ok _ _ _ _ (lowP (P1 * Q2 + P2 * Q1) (Q1 * Q2)) (lowQ (P1 * Q2 + P2 * Q1) (Q1 * Q2)) W' (h.num _ (HM1_sa1.out)) (h.num _ (HM1_sa2.out)) hr.1 hr.2 (by omega) (by omega) (by omega) h.env).mono fun e w' ⟨he, hB⟩ => ⟨he, h.next hB⟩
  have HSM : Hid (∀ W' r s, Kq cs1 ns1 rs1 w W' → (R W' r (lowP (P1 * P2) (Q1 * Q2)) ∧ R W' s (lowQ (P1 * P2) (Q1 * Q2))) → Calls Tryz.prog 11 #[.agg #[.slice mu1o (nd 4294967296 (lowP (P1 * P2) (Q1 * Q2))) mu1c, .slice mu2o (nd 4294967296 (lowQ (P1 * P2) (Q1 * Q2))) mu2c], .int .i64 0, .agg #[r, s], .int .i64 0] W' fun e w' => e = .returned (.bool true) ∧ Kq cs1 ns1 rs1 w w') := fun W' r s h hr =>
    (same_ok _ _ _ _ (lowP (P1 * P2) (Q1 * Q2)) (lowQ (P1 * P2) (Q1 * Q2)) W' (h.num _ (HM1_mu1.out)) (h.num _ (HM1_mu2.out)) hr.1 hr.2 (by omega) (by omega) (by omega) h.env).mono fun e w' ⟨he, hB⟩ => ⟨he, h.next hB⟩
  have HCF : Hid (∀ W', Kq cs1 ns1 rs1 w W' → Calls Tryz.prog 14 #[.agg #[.slice f1o (nd 4294967296 (P1)) f1c, .slice f2o (nd 4294967296 (Q1)) f2c], .agg #[.slice g1o (nd 4294967296 (P2)) g1c, .slice g2o (nd 4294967296 (Q2)) g2c]] W' fun e w' => e = .returned (.int .i64 kk) ∧ Kq cs1 ns1 rs1 w w') := fun W' h => (HFC.out _ _ _ _ _ (h.num _ (HM1_f1.out)) (h.num _ (HM1_f2.out)) (h.num _ (HM1_g1.out)) (h.num _ (HM1_g2.out))).mono fun e w' ⟨he, hB⟩ => ⟨he, h.next hB⟩
  have HCR : Hid (∀ W', Kq cs1 ns1 rs1 w W' → Calls Tryz.prog 15 #[.agg #[.slice p1o (nd 65536 (P1)) p1c, .slice p2o (nd 65536 (Q1)) p2c], .agg #[.slice q1o (nd 65536 (P2)) q1c, .slice q2o (nd 65536 (Q2)) q2c]] W' fun e w' => e = .returned (.int .i64 kk) ∧ Kq cs1 ns1 rs1 w w') := fun W' h => (HRC.out _ _ _ _ _ (h.dig _ (HD1_p1.out)) (h.dig _ (HD1_p2.out)) (h.dig _ (HD1_q1.out)) (h.dig _ (HD1_q2.out))).mono fun e w' ⟨he, hB⟩ => ⟨he, h.next hB⟩
  go_wp2_with fail
  go_region_held3 (fun W' : World => (W'.cell? ⟨w1.heap.size, 0, none⟩ = some (.slice f1o (nd 4294967296 (P1)) f1c) ∧ W'.cell? ⟨w1.heap.size, 1, none⟩ = some (.slice f2o (nd 4294967296 (Q1)) f2c) ∧ W'.cell? ⟨w2.heap.size, 0, none⟩ = some (.slice g1o (nd 4294967296 (P2)) g1c) ∧ W'.cell? ⟨w2.heap.size, 1, none⟩ = some (.slice g2o (nd 4294967296 (Q2)) g2c) ∧ W'.cell? ⟨w1.heap.size + 1, 0, none⟩ = some (.slice p1o (nd 65536 (P1)) p1c) ∧ W'.cell? ⟨w1.heap.size + 1, 1, none⟩ = some (.slice p2o (nd 65536 (Q1)) p2c) ∧ W'.cell? ⟨w2.heap.size + 1, 0, none⟩ = some (.slice q1o (nd 65536 (P2)) q1c) ∧ W'.cell? ⟨w2.heap.size + 1, 1, none⟩ = some (.slice q2o (nd 65536 (Q2)) q2c) ∧ W'.cell? ⟨w3.heap.size, 0, none⟩ = some (.slice sa1o (nd 4294967296 (lowP (P1 * Q2 + P2 * Q1) (Q1 * Q2))) sa1c) ∧ W'.cell? ⟨w3.heap.size, 1, none⟩ = some (.slice sa2o (nd 4294967296 (lowQ (P1 * Q2 + P2 * Q1) (Q1 * Q2))) sa2c) ∧ W'.cell? ⟨w4.heap.size, 0, none⟩ = some (.slice mu1o (nd 4294967296 (lowP (P1 * P2) (Q1 * Q2))) mu1c) ∧ W'.cell? ⟨w4.heap.size, 1, none⟩ = some (.slice mu2o (nd 4294967296 (lowQ (P1 * P2) (Q1 * Q2))) mu2c)) ∧ Kq cs1 ns1 rs1 w W') (first | (refine And.intro ?_ ?_ <;> assumption)) (first
    | (go_at_call 12; with_reducible refine (HRA.out _ ?h).mono ?_; (case h => assumption); rintro e w' ⟨o1, l1, k1, o2, l2, k2, rfl, hr', hs'⟩; have hc' := HCL1.out _ hs')
    | (go_at_call 13; with_reducible refine (HRM.out _ ?h).mono ?_; (case h => assumption); rintro e w' ⟨o1, l1, k1, o2, l2, k2, rfl, hr', hs'⟩; have hc' := HCL1.out _ hs')
    | (go_at_call 11; with_reducible refine (HSA.out _ _ _ ?h ?r).mono ?_; (case h => assumption); (case r => first | assumption | exact rchain (by assumption) (by assumption) | exact rchain (by assumption) (rchain (by assumption) (by assumption)) | exact dchain (by assumption) (by assumption)); rintro e w' ⟨rfl, hs'⟩; have hc' := HCL1.out _ hs')
    | (go_at_call 11; with_reducible refine (HSM.out _ _ _ ?h ?r).mono ?_; (case h => assumption); (case r => first | assumption | exact rchain (by assumption) (by assumption) | exact rchain (by assumption) (rchain (by assumption) (by assumption)) | exact dchain (by assumption) (by assumption)); rintro e w' ⟨rfl, hs'⟩; have hc' := HCL1.out _ hs')
    | (go_at_call 14; with_reducible refine (HCF.out _ ?h).mono ?_; (case h => assumption); rintro e w' ⟨rfl, hs'⟩; have hc' := HCL1.out _ hs')
    | (go_at_call 15; with_reducible refine (HCR.out _ ?h).mono ?_; (case h => assumption); rintro e w' ⟨rfl, hs'⟩; have hc' := HCL1.out _ hs'))
  all_goals
    have hsx : Kq cs1 ns1 rs1 w w' := by assumption
    have HS5 := Lib.hid hsx
    clear hsx 
    have cf1 := HS5.out.cell (HC1_f1.out)
    have cf2 := HS5.out.cell (HC1_f2.out)
    have cg1 := HS5.out.cell (HC1_g1.out)
    have cg2 := HS5.out.cell (HC1_g2.out)
    go_wp2_with fail
    refine (HO_s.out _ _ _ _ _ (HS5.out.num _ (HM1_f1.out)) (HS5.out.num _ (HM1_f2.out)) (HS5.out.num _ (HM1_g1.out)) (HS5.out.num _ (HM1_g2.out))).mono ?_
    rintro e w5 ⟨vsu1, vsu2, rfl, hsu1, hsu2, hb⟩
    obtain ⟨su1o, su1c, rfl, -⟩ := hsu1.shape
    obtain ⟨su2o, su2c, rfl, -⟩ := hsu2.shape
    have hs := (((HS5.out.next hb).addNum hsu1).addNum hsu2).boxed2 (.slice su1o (nd 4294967296 (lowP (P1 * Q2 - P2 * Q1) (Q1 * Q2))) su1c) (.slice su2o (nd 4294967296 (lowQ (P1 * Q2 - P2 * Q1) (Q1 * Q2))) su2c) 26
    have HS6 := Lib.hid hs
    clear hs hb hsu1 hsu2 HS5
    clear cf1 cf2 cg1 cg2
    have hto := HRC.out _ _ _ _ _ (HS6.out.dig _ (HD1_p1.out)) (HS6.out.dig _ (HD1_p2.out)) (HS6.out.dig _ (HD1_q1.out)) (HS6.out.dig _ (HD1_q2.out))
    have HTO := Lib.hid (hto.mono fun e w' h => And.intro h.1 (HS6.out.next h.2))
    clear hto
    have cp1 := HS6.out.cell (.tail _ (.tail _ (HC1_p1.out)))
    have cp2 := HS6.out.cell (.tail _ (.tail _ (HC1_p2.out)))
    have cq1 := HS6.out.cell (.tail _ (.tail _ (HC1_q1.out)))
    have cq2 := HS6.out.cell (.tail _ (.tail _ (HC1_q2.out)))
    go_wp2_with fail
    refine (HTO.out).mono ?_
    rintro e w6 ⟨rfl, hs⟩
    have HS7 := Lib.hid hs
    clear hs HS6
    clear cp1 cp2 cq1 cq2 HTO
    have hs := HS7.out
    obtain ⟨cs2, hcs⟩ : ∃ cs : List (Nat × Nat × Value), cs = (w5.heap.size, 1, .slice su2o (nd 4294967296 (lowQ (P1 * Q2 - P2 * Q1) (Q1 * Q2))) su2c) :: (w5.heap.size, 0, .slice su1o (nd 4294967296 (lowP (P1 * Q2 - P2 * Q1) (Q1 * Q2))) su1c) :: cs1 := ⟨_, rfl⟩
    obtain ⟨ns2, hns⟩ : ∃ ns : List (Value × Nat), ns = (.slice su2o (nd 4294967296 (lowQ (P1 * Q2 - P2 * Q1) (Q1 * Q2))) su2c, lowQ (P1 * Q2 - P2 * Q1) (Q1 * Q2)) :: (.slice su1o (nd 4294967296 (lowP (P1 * Q2 - P2 * Q1) (Q1 * Q2))) su1c, lowP (P1 * Q2 - P2 * Q1) (Q1 * Q2)) :: ns1 := ⟨_, rfl⟩
    obtain ⟨rs2, hrs⟩ : ∃ rs : List (Value × Nat), rs = rs1 := ⟨_, rfl⟩
    rw [← hcs, ← hns, ← hrs] at hs
    have HC2_f1 : Hid (((w1.heap.size, 0, .slice f1o (nd 4294967296 (P1)) f1c) : Nat × Nat × Value) ∈ cs2) := by show _ ∈ _; rw [hcs]; exact (.tail _ (.tail _ (HC1_f1.out)))
    have HC2_f2 : Hid (((w1.heap.size, 1, .slice f2o (nd 4294967296 (Q1)) f2c) : Nat × Nat × Value) ∈ cs2) := by show _ ∈ _; rw [hcs]; exact (.tail _ (.tail _ (HC1_f2.out)))
    have HC2_g1 : Hid (((w2.heap.size, 0, .slice g1o (nd 4294967296 (P2)) g1c) : Nat × Nat × Value) ∈ cs2) := by show _ ∈ _; rw [hcs]; exact (.tail _ (.tail _ (HC1_g1.out)))
    have HC2_g2 : Hid (((w2.heap.size, 1, .slice g2o (nd 4294967296 (Q2)) g2c) : Nat × Nat × Value) ∈ cs2) := by show _ ∈ _; rw [hcs]; exact (.tail _ (.tail _ (HC1_g2.out)))
    have HC2_p1 : Hid (((w1.heap.size + 1, 0, .slice p1o (nd 65536 (P1)) p1c) : Nat × Nat × Value) ∈ cs2) := by show _ ∈ _; rw [hcs]; exact (.tail _ (.tail _ (HC1_p1.out)))
    have HC2_p2 : Hid (((w1.heap.size + 1, 1, .slice p2o (nd 65536 (Q1)) p2c) : Nat × Nat × Value) ∈ cs2) := by show _ ∈ _; rw [hcs]; exact (.tail _ (.tail _ (HC1_p2.out)))
    have HC2_q1 : Hid (((w2.heap.size + 1, 0, .slice q1o (nd 65536 (P2)) q1c) : Nat × Nat × Value) ∈ cs2) := by show _ ∈ _; rw [hcs]; exact (.tail _ (.tail _ (HC1_q1.out)))
    have HC2_q2 : Hid (((w2.heap.size + 1, 1, .slice q2o (nd 65536 (Q2)) q2c) : Nat × Nat × Value) ∈ cs2) := by show _ ∈ _; rw [hcs]; exact (.tail _ (.tail _ (HC1_q2.out)))
    have HC2_su1 : Hid (((w5.heap.size, 0, .slice su1o (nd 4294967296 (lowP (P1 * Q2 - P2 * Q1) (Q1 * Q2))) su1c) : Nat × Nat × Value) ∈ cs2) := by show _ ∈ _; rw [hcs]; exact (.tail _ (.head _))
    have HC2_su2 : Hid (((w5.heap.size, 1, .slice su2o (nd 4294967296 (lowQ (P1 * Q2 - P2 * Q1) (Q1 * Q2))) su2c) : Nat × Nat × Value) ∈ cs2) := by show _ ∈ _; rw [hcs]; exact (.head _)
    have HM2_f1 : Hid (((.slice f1o (nd 4294967296 (P1)) f1c, P1) : Value × Nat) ∈ ns2) := by show _ ∈ _; rw [hns]; exact (.tail _ (.tail _ (HM1_f1.out)))
    have HM2_f2 : Hid (((.slice f2o (nd 4294967296 (Q1)) f2c, Q1) : Value × Nat) ∈ ns2) := by show _ ∈ _; rw [hns]; exact (.tail _ (.tail _ (HM1_f2.out)))
    have HM2_g1 : Hid (((.slice g1o (nd 4294967296 (P2)) g1c, P2) : Value × Nat) ∈ ns2) := by show _ ∈ _; rw [hns]; exact (.tail _ (.tail _ (HM1_g1.out)))
    have HM2_g2 : Hid (((.slice g2o (nd 4294967296 (Q2)) g2c, Q2) : Value × Nat) ∈ ns2) := by show _ ∈ _; rw [hns]; exact (.tail _ (.tail _ (HM1_g2.out)))
    have HM2_su1 : Hid (((.slice su1o (nd 4294967296 (lowP (P1 * Q2 - P2 * Q1) (Q1 * Q2))) su1c, lowP (P1 * Q2 - P2 * Q1) (Q1 * Q2)) : Value × Nat) ∈ ns2) := by show _ ∈ _; rw [hns]; exact (.tail _ (.head _))
    have HM2_su2 : Hid (((.slice su2o (nd 4294967296 (lowQ (P1 * Q2 - P2 * Q1) (Q1 * Q2))) su2c, lowQ (P1 * Q2 - P2 * Q1) (Q1 * Q2)) : Value × Nat) ∈ ns2) := by show _ ∈ _; rw [hns]; exact (.head _)
    have HD2_p1 : Hid (((.slice p1o (nd 65536 (P1)) p1c, P1) : Value × Nat) ∈ rs2) := by show _ ∈ _; rw [hrs]; exact (HD1_p1.out)
    have HD2_p2 : Hid (((.slice p2o (nd 65536 (Q1)) p2c, Q1) : Value × Nat) ∈ rs2) := by show _ ∈ _; rw [hrs]; exact (HD1_p2.out)
    have HD2_q1 : Hid (((.slice q1o (nd 65536 (P2)) q1c, P2) : Value × Nat) ∈ rs2) := by show _ ∈ _; rw [hrs]; exact (HD1_q1.out)
    have HD2_q2 : Hid (((.slice q2o (nd 65536 (Q2)) q2c, Q2) : Value × Nat) ∈ rs2) := by show _ ∈ _; rw [hrs]; exact (HD1_q2.out)
    have HCL2 : Hid (∀ W', Kq cs2 ns2 rs2 w W' → W'.cell? ⟨w5.heap.size, 0, none⟩ = some (.slice su1o (nd 4294967296 (lowP (P1 * Q2 - P2 * Q1) (Q1 * Q2))) su1c) ∧ W'.cell? ⟨w5.heap.size, 1, none⟩ = some (.slice su2o (nd 4294967296 (lowQ (P1 * Q2 - P2 * Q1) (Q1 * Q2))) su2c) ∧ W'.cell? ⟨w1.heap.size + 1, 0, none⟩ = some (.slice p1o (nd 65536 (P1)) p1c) ∧ W'.cell? ⟨w1.heap.size + 1, 1, none⟩ = some (.slice p2o (nd 65536 (Q1)) p2c) ∧ W'.cell? ⟨w2.heap.size + 1, 0, none⟩ = some (.slice q1o (nd 65536 (P2)) q1c) ∧ W'.cell? ⟨w2.heap.size + 1, 1, none⟩ = some (.slice q2o (nd 65536 (Q2)) q2c)) := fun W' h => ⟨h.cell HC2_su1.out, h.cell HC2_su2.out, h.cell HC2_p1.out, h.cell HC2_p2.out, h.cell HC2_q1.out, h.cell HC2_q2.out⟩
    have hs2 := hs.drew
    have hcl := HCL2.out _ hs2
    have hc0 := HCL2.out _ hs
    have HAK2 := Lib.hid (fun W' (h : Kq cs2 ns2 rs2 w W') => awake_Q h)
    clear hcs hns hrs HS7
    have HRS : Hid (∀ W', Kq cs2 ns2 rs2 w W' → Calls Tryz.prog 17 #[.agg #[.slice p1o (nd 65536 (P1)) p1c, .slice p2o (nd 65536 (Q1)) p2c], .agg #[.slice q1o (nd 65536 (P2)) q1c, .slice q2o (nd 65536 (Q2)) q2c]] W' fun e w' => ∃ o l c o2 l2 c2, e = .returned (.agg #[.slice o l c, .slice o2 l2 c2]) ∧ (R w' (.slice o l c) (lowP (P1 * Q2 - P2 * Q1) (Q1 * Q2)) ∧ R w' (.slice o2 l2 c2) (lowQ (P1 * Q2 - P2 * Q1) (Q1 * Q2))) ∧ Kq cs2 ns2 rs2 w w') := fun W' h =>
      (RFSub_any _ _ _ _ P1 Q1 P2 Q2 W' (h.dig _ (HD2_p1.out)) (h.dig _ (HD2_p2.out)) (h.dig _ (HD2_q1.out)) (h.dig _ (HD2_q2.out)) q1 q2 (by omega) (by omega) (by omega) (by omega) HCASE.out).mono fun e w' ⟨r, s, he, hr, hs, hB⟩ => by
        obtain ⟨ro, rc, rfl, -⟩ := hr.shape
        obtain ⟨so, sc, rfl, -⟩ := hs.shape
        exact ⟨ro, _, rc, so, _, sc, he, ⟨hr, hs⟩, h.next hB⟩
    have HSS : Hid (∀ W' r s, Kq cs2 ns2 rs2 w W' → (R W' r (lowP (P1 * Q2 - P2 * Q1) (Q1 * Q2)) ∧ R W' s (lowQ (P1 * Q2 - P2 * Q1) (Q1 * Q2))) → Calls Tryz.prog 11 #[.agg #[.slice su1o (nd 4294967296 (lowP (P1 * Q2 - P2 * Q1) (Q1 * Q2))) su1c, .slice su2o (nd 4294967296 (lowQ (P1 * Q2 - P2 * Q1) (Q1 * Q2))) su2c], .int .i64 0, .agg #[r, s], .int .i64 0] W' fun e w' => e = .returned (.bool true) ∧ Kq cs2 ns2 rs2 w w') := fun W' r s h hr =>
      (same_ok _ _ _ _ (lowP (P1 * Q2 - P2 * Q1) (Q1 * Q2)) (lowQ (P1 * Q2 - P2 * Q1) (Q1 * Q2)) W' (h.num _ (HM2_su1.out)) (h.num _ (HM2_su2.out)) hr.1 hr.2 (by omega) (by omega) (by omega) h.env).mono fun e w' ⟨he, hB⟩ => ⟨he, h.next hB⟩
    go_wp2_with fail
    go_region_held3 (fun W' : World => (W'.cell? ⟨w5.heap.size, 0, none⟩ = some (.slice su1o (nd 4294967296 (lowP (P1 * Q2 - P2 * Q1) (Q1 * Q2))) su1c) ∧ W'.cell? ⟨w5.heap.size, 1, none⟩ = some (.slice su2o (nd 4294967296 (lowQ (P1 * Q2 - P2 * Q1) (Q1 * Q2))) su2c) ∧ W'.cell? ⟨w1.heap.size + 1, 0, none⟩ = some (.slice p1o (nd 65536 (P1)) p1c) ∧ W'.cell? ⟨w1.heap.size + 1, 1, none⟩ = some (.slice p2o (nd 65536 (Q1)) p2c) ∧ W'.cell? ⟨w2.heap.size + 1, 0, none⟩ = some (.slice q1o (nd 65536 (P2)) q1c) ∧ W'.cell? ⟨w2.heap.size + 1, 1, none⟩ = some (.slice q2o (nd 65536 (Q2)) q2c)) ∧ Kq cs2 ns2 rs2 w W') (first | (refine And.intro ?_ ?_ <;> assumption)) (first
      | (go_at_call 17; with_reducible refine (HRS.out _ ?h).mono ?_; (case h => assumption); rintro e w' ⟨o1, l1, k1, o2, l2, k2, rfl, hr', hs'⟩; have hc' := HCL2.out _ hs')
      | (go_at_call 11; with_reducible refine (HSS.out _ _ _ ?h ?r).mono ?_; (case h => assumption); (case r => first | assumption | exact rchain (by assumption) (by assumption) | exact rchain (by assumption) (rchain (by assumption) (by assumption)) | exact dchain (by assumption) (by assumption)); rintro e w' ⟨rfl, hs'⟩; have hc' := HCL2.out _ hs'))
    all_goals
      have hsx : Kq cs2 ns2 rs2 w w' := by assumption
      have HS8 := Lib.hid hsx
      clear hsx 
      have cf1 := HS8.out.cell (HC2_f1.out)
      have cf2 := HS8.out.cell (HC2_f2.out)
      have cg1 := HS8.out.cell (HC2_g1.out)
      have cg2 := HS8.out.cell (HC2_g2.out)
      go_wp2_with fail
      refine (HO_d.out _ _ _ _ _ (HS8.out.num _ (HM2_f1.out)) (HS8.out.num _ (HM2_f2.out)) (HS8.out.num _ (HM2_g1.out)) (HS8.out.num _ (HM2_g2.out))).mono ?_
      rintro e w7 ⟨rfl, hb⟩
      have hs := ((HS8.out.next hb).addNum (n := 0) (IsN.zero _ _ _ none 0)).boxed2 (.slice none 0 0) (.slice none 0 0) 26
      have HS9 := Lib.hid hs
      clear hs hb HS8
      clear cf1 cf2 cg1 cg2
      have hto := same_err _ _ _ _ 11 _ (HS9.out.num _ (.head _)) (HS9.out.num _ (.head _)) (by decide) ⟨_, HS9.out.dig _ (HD2_p1.out)⟩ ⟨_, HS9.out.dig _ (HD2_p2.out)⟩ HS9.out.env
      have HTO := Lib.hid (hto.mono fun e w' h => And.intro h.1 (HS9.out.next h.2))
      clear hto
      have cdi1 := HS9.out.cell (.tail _ (.head _))
      have cdi2 := HS9.out.cell (.head _)
      have cp1 := HS9.out.cell (.tail _ (.tail _ (HC2_p1.out)))
      have cp2 := HS9.out.cell (.tail _ (.tail _ (HC2_p2.out)))
      have cq1 := HS9.out.cell (.tail _ (.tail _ (HC2_q1.out)))
      go_wp2_with fail
      refine (HTO.out).mono ?_
      rintro e w8 ⟨rfl, hs⟩
      have HS10 := Lib.hid hs
      clear hs HS9
      clear cdi1 cdi2 cp1 cp2 cq1 HTO
      go_wp2_with fail
      refine (awake_Q HS10.out).mono ?_
      rintro e w9 ⟨rfl, hs⟩
      have HS11 := Lib.hid hs
      clear hs HS10
      go_wp2
      go_ret
      exact ⟨by simp, HS11.out.bel⟩
theorem natFracSums_walk (u0 u1 u2 u3 : Value) (xs0 xs1 xs2 xs3 : List Nat) (w : World) (hu0 : IsRaw w u0 xs0) (hu1 : IsRaw w u1 xs1) (hu2 : IsRaw w u2 xs2) (hu3 : IsRaw w u3 xs3) (hl0 : xs0.length ≤ maxLen) (hl1 : xs1.length ≤ maxLen) (hl2 : xs2.length ≤ maxLen) (hl3 : xs3.length ≤ maxLen) (he : Env w) :
    Calls Tryz.prog 3 #[u0, u1, u2, u3] w fun e w' => e = .returned (.bool true) ∧ Below w.heap.size w w' := by
  rcases Nat.eq_zero_or_pos (rawN xs1 12) with h1 | h1
  · rcases Nat.eq_zero_or_pos (rawN xs3 12) with h2 | h2
    · exact natFracSums_zz u0 u1 u2 u3 xs0 xs1 xs2 xs3 w hu0 hu1 hu2 hu3 hl0 hl1 hl2 hl3 h1 h2 he
    · exact natFracSums_zp u0 u1 u2 u3 xs0 xs1 xs2 xs3 w hu0 hu1 hu2 hu3 hl0 hl1 hl2 hl3 h1 h2 he
  · rcases Nat.eq_zero_or_pos (rawN xs3 12) with h2 | h2
    · exact natFracSums_pz u0 u1 u2 u3 xs0 xs1 xs2 xs3 w hu0 hu1 hu2 hu3 hl0 hl1 hl2 hl3 h1 h2 he
    · rcases Nat.lt_or_ge (lowP (rawN xs0 12) (rawN xs1 12) * lowQ (rawN xs2 12) (rawN xs3 12)) (lowP (rawN xs2 12) (rawN xs3 12) * lowQ (rawN xs0 12) (rawN xs1 12)) with h3 | h3
      · refine natFracSums_less u0 u1 u2 u3 xs0 xs1 xs2 xs3 w hu0 hu1 hu2 hu3 hl0 hl1 hl2 hl3 h1 h2 h3 ?_ he
        rcases Nat.eq_zero_or_pos (lowP (rawN xs2 12) (rawN xs3 12)) with h4 | h4
        · rw [h4, Nat.zero_mul] at h3; omega
        · exact h4
      · rcases Nat.eq_zero_or_pos (lowP (rawN xs2 12) (rawN xs3 12)) with h4 | h4
        · exact natFracSums_zero u0 u1 u2 u3 xs0 xs1 xs2 xs3 w hu0 hu1 hu2 hu3 hl0 hl1 hl2 hl3 h1 h2 h3 h4 he
        · exact natFracSums_ge u0 u1 u2 u3 xs0 xs1 xs2 xs3 w hu0 hu1 hu2 hu3 hl0 hl1 hl2 hl3 h1 h2 h3 h4 he
end Go.Proofs.YtepjpegfofhipaaGreatDoor
