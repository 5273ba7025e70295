/- Contracts and lemmas (several texts merged into one). -/
import Derived.Test.YteajinpfigejfaaGreatDoorBGep6
import Derived.Test.YteajinpfigejfaaGreatDoorBGep7
namespace Go.Proofs.YteajinpfigejfaaGreatDoor
open Go Go.RowKit Gu

theorem half_some (u v : Value) (xs ys : List Nat) (m : Nat) (w : World) (hu : IsRaw w u xs) (hv : IsRaw w v ys) (hl1 : xs.length ≤ maxLen) (hl2 : ys.length ≤ maxLen) (hm : m ≤ 300) :
    Calls Tryz.prog 6 #[u, v, .int .i64 m] w fun e w' => ∃ o1 l1 c1 o2 l2 c2 o3 l3 c3 o4 l4 c4 b, e = .returned (.tuple #[.agg #[.slice o1 l1 c1, .slice o2 l2 c2], .agg #[.slice o3 l3 c3, .slice o4 l4 c4], .bool b]) ∧ Below w.heap.size w w' := by
  rcases Nat.eq_zero_or_pos (rawN ys m) with h | h
  · exact (half_zero u v xs ys m w hu hv hl1 hl2 (by omega) h).mono fun e w' ⟨he, hB⟩ => ⟨_, _, _, _, _, _, _, _, _, _, _, _, _, he, hB⟩
  · refine (half_pos u v xs ys m w hu hv hl1 hl2 hm h).mono ?_
    rintro e w' ⟨r1, s1, r2, s2, rfl, h1, h2, h3, h4, hB⟩
    obtain ⟨o1, c1, rfl, -⟩ := h1.shape
    obtain ⟨o2, c2, rfl, -⟩ := h2.shape
    obtain ⟨o3, c3, rfl, -⟩ := h3.shape
    obtain ⟨o4, c4, rfl, -⟩ := h4.shape
    exact ⟨_, _, _, _, _, _, _, _, _, _, _, _, _, rfl, hB⟩
theorem sums_fit' {L M : Nat} (h1 : nd 65536 L ≤ 100) (h2 : nd 65536 M ≤ 100) : ffE (lowP L M) (lowQ L M) = 0 ∧ ffN (lowP L M) (lowQ L M) (lowP L M) = lowP L M ∧ ffN (lowP L M) (lowQ L M) (lowQ L M) = lowQ L M := by
  have e1 := fit_ok (Nat.le_trans (nd_mono (B := 65536) (by decide) (show lowP L M ≤ L from Nat.div_le_self _ _)) (Nat.le_trans h1 (by decide)))
  have e2 := fit_ok (Nat.le_trans (nd_mono (B := 65536) (by decide) (show lowQ L M ≤ M from Nat.div_le_self _ _)) (Nat.le_trans h2 (by decide)))
  exact ⟨if_pos ⟨e1, e2⟩, if_pos ⟨e1, e2⟩, if_pos ⟨e1, e2⟩⟩
theorem low_pos' {L M : Nat} (h : 0 < M) : 0 < lowQ L M := Nat.div_pos (Nat.gcd_le_right _ h) (Nat.gcd_pos_of_pos_right _ h)
theorem low_nd' {L M m k : Nat} (h1 : nd 65536 L ≤ m) (h2 : nd 65536 M ≤ k) : nd 65536 (lowP L M) ≤ m ∧ nd 65536 (lowQ L M) ≤ k := ⟨Nat.le_trans (nd_mono (by decide) (Nat.div_le_self _ _)) h1, Nat.le_trans (nd_mono (by decide) (Nat.div_le_self _ _)) h2⟩
theorem nd_radd' {a b m : Nat} (ha : nd 65536 a ≤ m) (hb : nd 65536 b ≤ m) : nd 65536 (a + b) ≤ m + 1 := by
  have h1 := (nd_le (by decide : 2 ≤ 65536)).1 ha
  have h2 := (nd_le (by decide : 2 ≤ 65536)).1 hb
  apply (nd_le (by decide : 2 ≤ 65536)).2
  have h3 : 65536 ^ m * 2 ≤ 65536 ^ m * 65536 := Nat.mul_le_mul_left _ (by decide)
  rw [Nat.pow_succ]; omega
set_option maxHeartbeats 4000000 in
set_option maxRecDepth 100000 in
theorem natFracField_z1 (u0 u1 u2 u3 u4 u5 : Value) (xs0 xs1 xs2 xs3 xs4 xs5 : List Nat) (w : World) (hu0 : IsRaw w u0 xs0) (hu1 : IsRaw w u1 xs1) (hu2 : IsRaw w u2 xs2) (hu3 : IsRaw w u3 xs3) (hu4 : IsRaw w u4 xs4) (hu5 : IsRaw w u5 xs5) (hl0 : xs0.length ≤ maxLen) (hl1 : xs1.length ≤ maxLen) (hl2 : xs2.length ≤ maxLen) (hl3 : xs3.length ≤ maxLen) (hl4 : xs4.length ≤ maxLen) (hl5 : xs5.length ≤ maxLen) (h1 : rawN xs1 8 = 0) (he : Env w) :
    Calls Tryz.prog 5 #[u0, u1, u2, u3, u4, u5] w fun e w' => e = .returned (.bool true) ∧ Below w.heap.size w w' := by
  have HS0 := Lib.hid (Kq.start he)
  have hn0 := rawN_nd hu0.1 8
  have hn1 := rawN_nd hu1.1 8
  have hn2 := rawN_nd hu2.1 8
  have hn3 := rawN_nd hu3.1 8
  have hn4 := rawN_nd hu4.1 8
  have hn5 := rawN_nd hu5.1 8
  have HU0 := Lib.hid hu0
  have HU1 := Lib.hid hu1
  have HU2 := Lib.hid hu2
  have HU3 := Lib.hid hu3
  have HU4 := Lib.hid hu4
  have HU5 := Lib.hid hu5
  have HH1 := Lib.hid (fun W (i1 : IsRaw W u0 xs0) (i2 : IsRaw W u1 xs1) => half_zero u0 u1 xs0 xs1 8 W i1 i2 hl0 hl1 (by decide) h1)
  have HH2 := Lib.hid (fun W (i1 : IsRaw W u2 xs2) (i2 : IsRaw W u3 xs3) => half_some u2 u3 xs2 xs3 8 W i1 i2 hl2 hl3 (by decide))
  have HH3 := Lib.hid (fun W (i1 : IsRaw W u4 xs4) (i2 : IsRaw W u5 xs5) => half_some u4 u5 xs4 xs5 8 W i1 i2 hl4 hl5 (by decide))

  obtain ⟨uo0, uc0, rfl, -⟩ := hu0.shape
  obtain ⟨uo1, uc1, rfl, -⟩ := hu1.shape
  obtain ⟨uo2, uc2, rfl, -⟩ := hu2.shape
  obtain ⟨uo3, uc3, rfl, -⟩ := hu3.shape
  obtain ⟨uo4, uc4, rfl, -⟩ := hu4.shape
  obtain ⟨uo5, uc5, rfl, -⟩ := hu5.shape
  clear he hu0 hl0 hu1 hl1 hu2 hl2 hu3 hl3 hu4 hl4 hu5 hl5
  generalize rawN xs0 8 = a at *
  generalize rawN xs1 8 = b at *
  generalize rawN xs2 8 = c at *
  generalize rawN xs3 8 = d at *
  generalize rawN xs4 8 = m at *
  generalize rawN xs5 8 = n at *
  go_enter Tryz.func5, Tryz.ntmps5
  go_wp2_with fail
  refine (HH1.out _ (IsRaw.below HU0.out HS0.out.bel) (IsRaw.below HU1.out HS0.out.bel)).mono ?_
  rintro e w1 ⟨rfl, hb⟩
  have hs := ((HS0.out.next hb).boxed2 (.slice none 0 0) (.slice none 0 0) 26).boxed2 (.slice none 0 0) (.slice none 0 0) 29
  have HS1 := Lib.hid hs
  clear hs hb HS0
  go_wp2_with fail
  refine (HH2.out _ (IsRaw.below HU2.out HS1.out.bel) (IsRaw.below HU3.out HS1.out.bel)).mono ?_
  rintro e w2 ⟨x1g1, x1g2, x1g3, x2g1, x2g2, x2g3, x3g1, x3g2, x3g3, x4g1, x4g2, x4g3, bg, rfl, hb⟩
  have hs := ((HS1.out.next hb).boxed2 (.slice x1g1 x1g2 x1g3) (.slice x2g1 x2g2 x2g3) 26).boxed2 (.slice x3g1 x3g2 x3g3) (.slice x4g1 x4g2 x4g3) 29
  have HS2 := Lib.hid hs
  clear hs hb HS1
  go_wp2_with fail
  refine (HH3.out _ (IsRaw.below HU4.out HS2.out.bel) (IsRaw.below HU5.out HS2.out.bel)).mono ?_
  rintro e w3 ⟨x1k1, x1k2, x1k3, x2k1, x2k2, x2k3, x3k1, x3k2, x3k3, x4k1, x4k2, x4k3, bk, rfl, hb⟩
  have hs := ((HS2.out.next hb).boxed2 (.slice x1k1 x1k2 x1k3) (.slice x2k1 x2k2 x2k3) 26).boxed2 (.slice x3k1 x3k2 x3k3) (.slice x4k1 x4k2 x4k3) 29
  have HS3 := Lib.hid hs
  clear hs hb HS2
  go_wp2_with fail
  refine (awake_Q HS3.out).mono ?_
  rintro e w4 ⟨rfl, hs⟩
  have HS4 := Lib.hid hs
  clear hs HS3
  go_wp2
  go_ret
  exact ⟨by simp, HS4.out.bel⟩
set_option maxHeartbeats 4000000 in
set_option maxRecDepth 100000 in
theorem natFracField_z2 (u0 u1 u2 u3 u4 u5 : Value) (xs0 xs1 xs2 xs3 xs4 xs5 : List Nat) (w : World) (hu0 : IsRaw w u0 xs0) (hu1 : IsRaw w u1 xs1) (hu2 : IsRaw w u2 xs2) (hu3 : IsRaw w u3 xs3) (hu4 : IsRaw w u4 xs4) (hu5 : IsRaw w u5 xs5) (hl0 : xs0.length ≤ maxLen) (hl1 : xs1.length ≤ maxLen) (hl2 : xs2.length ≤ maxLen) (hl3 : xs3.length ≤ maxLen) (hl4 : xs4.length ≤ maxLen) (hl5 : xs5.length ≤ maxLen) (h1 : 0 < rawN xs1 8) (h2 : rawN xs3 8 = 0) (he : Env w) :
    Calls Tryz.prog 5 #[u0, u1, u2, u3, u4, u5] w fun e w' => e = .returned (.bool true) ∧ Below w.heap.size w w' := by
  have HS0 := Lib.hid (Kq.start he)
  have hn0 := rawN_nd hu0.1 8
  have hn1 := rawN_nd hu1.1 8
  have hn2 := rawN_nd hu2.1 8
  have hn3 := rawN_nd hu3.1 8
  have hn4 := rawN_nd hu4.1 8
  have hn5 := rawN_nd hu5.1 8
  have HU0 := Lib.hid hu0
  have HU1 := Lib.hid hu1
  have HU2 := Lib.hid hu2
  have HU3 := Lib.hid hu3
  have HU4 := Lib.hid hu4
  have HU5 := Lib.hid hu5
  have HH1 := Lib.hid (fun W (i1 : IsRaw W u0 xs0) (i2 : IsRaw W u1 xs1) => half_pos u0 u1 xs0 xs1 8 W i1 i2 hl0 hl1 (by decide) h1)
  have HH2 := Lib.hid (fun W (i1 : IsRaw W u2 xs2) (i2 : IsRaw W u3 xs3) => half_zero u2 u3 xs2 xs3 8 W i1 i2 hl2 hl3 (by decide) h2)
  have HH3 := Lib.hid (fun W (i1 : IsRaw W u4 xs4) (i2 : IsRaw W u5 xs5) => half_some u4 u5 xs4 xs5 8 W i1 i2 hl4 hl5 (by decide))

  obtain ⟨uo0, uc0, rfl, -⟩ := hu0.shape
  obtain ⟨uo1, uc1, rfl, -⟩ := hu1.shape
  obtain ⟨uo2, uc2, rfl, -⟩ := hu2.shape
  obtain ⟨uo3, uc3, rfl, -⟩ := hu3.shape
  obtain ⟨uo4, uc4, rfl, -⟩ := hu4.shape
  obtain ⟨uo5, uc5, rfl, -⟩ := hu5.shape
  clear he hu0 hl0 hu1 hl1 hu2 hl2 hu3 hl3 hu4 hl4 hu5 hl5
  generalize rawN xs0 8 = a at *
  generalize rawN xs1 8 = b at *
  generalize rawN xs2 8 = c at *
  generalize rawN xs3 8 = d at *
  generalize rawN xs4 8 = m at *
  generalize rawN xs5 8 = n at *
  go_enter Tryz.func5, Tryz.ntmps5
  go_wp2_with fail
  refine (HH1.out _ (IsRaw.below HU0.out HS0.out.bel) (IsRaw.below HU1.out HS0.out.bel)).mono ?_
  rintro e w1 ⟨vf1, vf2, vp1, vp2, rfl, hf1, hf2, hp1, hp2, hb⟩
  obtain ⟨f1o, f1c, rfl, -⟩ := hf1.shape
  obtain ⟨f2o, f2c, rfl, -⟩ := hf2.shape
  obtain ⟨p1o, p1c, rfl, -⟩ := hp1.shape
  obtain ⟨p2o, p2c, rfl, -⟩ := hp2.shape
  have hs := ((((((HS0.out.next hb).addNum hf1).addNum hf2).addDig hp1).addDig hp2).boxed2 (.slice f1o (nd 4294967296 (lowP a b)) f1c) (.slice f2o (nd 4294967296 (lowQ a b)) f2c) 26).boxed2 (.slice p1o (nd 65536 (lowP a b)) p1c) (.slice p2o (nd 65536 (lowQ a b)) p2c) 29
  simp only [World.size_alloc] at hs
  have HS1 := Lib.hid hs
  clear hs hb hf1 hf2 hp1 hp2 HS0
  go_wp2_with fail
  refine (HH2.out _ (IsRaw.below HU2.out HS1.out.bel) (IsRaw.below HU3.out HS1.out.bel)).mono ?_
  rintro e w2 ⟨rfl, hb⟩
  have hs := ((HS1.out.next hb).boxed2 (.slice none 0 0) (.slice none 0 0) 26).boxed2 (.slice none 0 0) (.slice none 0 0) 29
  have HS2 := Lib.hid hs
  clear hs hb HS1
  go_wp2_with fail
  refine (HH3.out _ (IsRaw.below HU4.out HS2.out.bel) (IsRaw.below HU5.out HS2.out.bel)).mono ?_
  rintro e w3 ⟨x1k1, x1k2, x1k3, x2k1, x2k2, x2k3, x3k1, x3k2, x3k3, x4k1, x4k2, x4k3, bk, rfl, hb⟩
  have hs := ((HS2.out.next hb).boxed2 (.slice x1k1 x1k2 x1k3) (.slice x2k1 x2k2 x2k3) 26).boxed2 (.slice x3k1 x3k2 x3k3) (.slice x4k1 x4k2 x4k3) 29
  have HS3 := Lib.hid hs
  clear hs hb HS2
  go_wp2_with fail
  refine (awake_Q HS3.out).mono ?_
  rintro e w4 ⟨rfl, hs⟩
  have HS4 := Lib.hid hs
  clear hs HS3
  go_wp2
  go_ret
  exact ⟨by simp, HS4.out.bel⟩
set_option maxHeartbeats 4000000 in
set_option maxRecDepth 100000 in
theorem natFracField_z3 (u0 u1 u2 u3 u4 u5 : Value) (xs0 xs1 xs2 xs3 xs4 xs5 : List Nat) (w : World) (hu0 : IsRaw w u0 xs0) (hu1 : IsRaw w u1 xs1) (hu2 : IsRaw w u2 xs2) (hu3 : IsRaw w u3 xs3) (hu4 : IsRaw w u4 xs4) (hu5 : IsRaw w u5 xs5) (hl0 : xs0.length ≤ maxLen) (hl1 : xs1.length ≤ maxLen) (hl2 : xs2.length ≤ maxLen) (hl3 : xs3.length ≤ maxLen) (hl4 : xs4.length ≤ maxLen) (hl5 : xs5.length ≤ maxLen) (h1 : 0 < rawN xs1 8) (h2 : 0 < rawN xs3 8) (h3 : rawN xs5 8 = 0) (he : Env w) :
    Calls Tryz.prog 5 #[u0, u1, u2, u3, u4, u5] w fun e w' => e = .returned (.bool true) ∧ Below w.heap.size w w' := by
  have HS0 := Lib.hid (Kq.start he)
  have hn0 := rawN_nd hu0.1 8
  have hn1 := rawN_nd hu1.1 8
  have hn2 := rawN_nd hu2.1 8
  have hn3 := rawN_nd hu3.1 8
  have hn4 := rawN_nd hu4.1 8
  have hn5 := rawN_nd hu5.1 8
  have HU0 := Lib.hid hu0
  have HU1 := Lib.hid hu1
  have HU2 := Lib.hid hu2
  have HU3 := Lib.hid hu3
  have HU4 := Lib.hid hu4
  have HU5 := Lib.hid hu5
  have HH1 := Lib.hid (fun W (i1 : IsRaw W u0 xs0) (i2 : IsRaw W u1 xs1) => half_pos u0 u1 xs0 xs1 8 W i1 i2 hl0 hl1 (by decide) h1)
  have HH2 := Lib.hid (fun W (i1 : IsRaw W u2 xs2) (i2 : IsRaw W u3 xs3) => half_pos u2 u3 xs2 xs3 8 W i1 i2 hl2 hl3 (by decide) h2)
  have HH3 := Lib.hid (fun W (i1 : IsRaw W u4 xs4) (i2 : IsRaw W u5 xs5) => half_zero u4 u5 xs4 xs5 8 W i1 i2 hl4 hl5 (by decide) h3)

  obtain ⟨uo0, uc0, rfl, -⟩ := hu0.shape
  obtain ⟨uo1, uc1, rfl, -⟩ := hu1.shape
  obtain ⟨uo2, uc2, rfl, -⟩ := hu2.shape
  obtain ⟨uo3, uc3, rfl, -⟩ := hu3.shape
  obtain ⟨uo4, uc4, rfl, -⟩ := hu4.shape
  obtain ⟨uo5, uc5, rfl, -⟩ := hu5.shape
  clear he hu0 hl0 hu1 hl1 hu2 hl2 hu3 hl3 hu4 hl4 hu5 hl5
  generalize rawN xs0 8 = a at *
  generalize rawN xs1 8 = b at *
  generalize rawN xs2 8 = c at *
  generalize rawN xs3 8 = d at *
  generalize rawN xs4 8 = m at *
  generalize rawN xs5 8 = n at *
  go_enter Tryz.func5, Tryz.ntmps5
  go_wp2_with fail
  refine (HH1.out _ (IsRaw.below HU0.out HS0.out.bel) (IsRaw.below HU1.out HS0.out.bel)).mono ?_
  rintro e w1 ⟨vf1, vf2, vp1, vp2, rfl, hf1, hf2, hp1, hp2, hb⟩
  obtain ⟨f1o, f1c, rfl, -⟩ := hf1.shape
  obtain ⟨f2o, f2c, rfl, -⟩ := hf2.shape
  obtain ⟨p1o, p1c, rfl, -⟩ := hp1.shape
  obtain ⟨p2o, p2c, rfl, -⟩ := hp2.shape
  have hs := ((((((HS0.out.next hb).addNum hf1).addNum hf2).addDig hp1).addDig hp2).boxed2 (.slice f1o (nd 4294967296 (lowP a b)) f1c) (.slice f2o (nd 4294967296 (lowQ a b)) f2c) 26).boxed2 (.slice p1o (nd 65536 (lowP a b)) p1c) (.slice p2o (nd 65536 (lowQ a b)) p2c) 29
  simp only [World.size_alloc] at hs
  have HS1 := Lib.hid hs
  clear hs hb hf1 hf2 hp1 hp2 HS0
  go_wp2_with fail
  refine (HH2.out _ (IsRaw.below HU2.out HS1.out.bel) (IsRaw.below HU3.out HS1.out.bel)).mono ?_
  rintro e w2 ⟨vg1, vg2, vq1, vq2, rfl, hg1, hg2, hq1, hq2, hb⟩
  obtain ⟨g1o, g1c, rfl, -⟩ := hg1.shape
  obtain ⟨g2o, g2c, rfl, -⟩ := hg2.shape
  obtain ⟨q1o, q1c, rfl, -⟩ := hq1.shape
  obtain ⟨q2o, q2c, rfl, -⟩ := hq2.shape
  have hs := ((((((HS1.out.next hb).addNum hg1).addNum hg2).addDig hq1).addDig hq2).boxed2 (.slice g1o (nd 4294967296 (lowP c d)) g1c) (.slice g2o (nd 4294967296 (lowQ c d)) g2c) 26).boxed2 (.slice q1o (nd 65536 (lowP c d)) q1c) (.slice q2o (nd 65536 (lowQ c d)) q2c) 29
  simp only [World.size_alloc] at hs
  have HS2 := Lib.hid hs
  clear hs hb hg1 hg2 hq1 hq2 HS1
  go_wp2_with fail
  refine (HH3.out _ (IsRaw.below HU4.out HS2.out.bel) (IsRaw.below HU5.out HS2.out.bel)).mono ?_
  rintro e w3 ⟨rfl, hb⟩
  have hs := ((HS2.out.next hb).boxed2 (.slice none 0 0) (.slice none 0 0) 26).boxed2 (.slice none 0 0) (.slice none 0 0) 29
  have HS3 := Lib.hid hs
  clear hs hb HS2
  go_wp2_with fail
  refine (awake_Q HS3.out).mono ?_
  rintro e w4 ⟨rfl, hs⟩
  have HS4 := Lib.hid hs
  clear hs HS3
  go_wp2
  go_ret
  exact ⟨by simp, HS4.out.bel⟩
end Go.Proofs.YteajinpfigejfaaGreatDoor
namespace Go.Proofs.YteajinpfigejfaaGreatDoor
open Go Go.RowKit Gu
set_option maxHeartbeats 4000000 in
set_option maxRecDepth 100000 in
theorem natFracField_m0 (u0 u1 u2 u3 u4 u5 : Value) (xs0 xs1 xs2 xs3 xs4 xs5 : List Nat) (w : World) (hu0 : IsRaw w u0 xs0) (hu1 : IsRaw w u1 xs1) (hu2 : IsRaw w u2 xs2) (hu3 : IsRaw w u3 xs3) (hu4 : IsRaw w u4 xs4) (hu5 : IsRaw w u5 xs5) (hl0 : xs0.length ≤ maxLen) (hl1 : xs1.length ≤ maxLen) (hl2 : xs2.length ≤ maxLen) (hl3 : xs3.length ≤ maxLen) (hl4 : xs4.length ≤ maxLen) (hl5 : xs5.length ≤ maxLen) (h1 : 0 < rawN xs1 8) (h2 : 0 < rawN xs3 8) (h3 : 0 < rawN xs5 8) (hk : lowP (rawN xs2 8) (rawN xs3 8) = 0) (he : Env w) :
    Calls Tryz.prog 5 #[u0, u1, u2, u3, u4, u5] w fun e w' => e = .returned (.bool true) ∧ Below w.heap.size w w' := by
  have HS0 := Lib.hid (Kq.start he)
  have hn0 := rawN_nd hu0.1 8
  have hn1 := rawN_nd hu1.1 8
  have hn2 := rawN_nd hu2.1 8
  have hn3 := rawN_nd hu3.1 8
  have hn4 := rawN_nd hu4.1 8
  have hn5 := rawN_nd hu5.1 8
  have HU0 := Lib.hid hu0
  have HU1 := Lib.hid hu1
  have HU2 := Lib.hid hu2
  have HU3 := Lib.hid hu3
  have HU4 := Lib.hid hu4
  have HU5 := Lib.hid hu5
  have HH1 := Lib.hid (fun W (i1 : IsRaw W u0 xs0) (i2 : IsRaw W u1 xs1) => half_pos u0 u1 xs0 xs1 8 W i1 i2 hl0 hl1 (by decide) h1)
  have HH2 := Lib.hid (fun W (i1 : IsRaw W u2 xs2) (i2 : IsRaw W u3 xs3) => half_pos u2 u3 xs2 xs3 8 W i1 i2 hl2 hl3 (by decide) h2)
  have HH3 := Lib.hid (fun W (i1 : IsRaw W u4 xs4) (i2 : IsRaw W u5 xs5) => half_pos u4 u5 xs4 xs5 8 W i1 i2 hl4 hl5 (by decide) h3)
  have q1 : 0 < lowQ (rawN xs0 8) (rawN xs1 8) := Nat.div_pos (Nat.gcd_le_right _ h1) (Nat.gcd_pos_of_pos_right _ h1)
  have g1 : nd 65536 (lowP (rawN xs0 8) (rawN xs1 8)) ≤ 8 := Nat.le_trans (nd_mono (by decide) (Nat.div_le_self _ _)) hn0
  have g1' : nd 65536 (lowQ (rawN xs0 8) (rawN xs1 8)) ≤ 8 := Nat.le_trans (nd_mono (by decide) (Nat.div_le_self _ _)) hn1
  have q2 : 0 < lowQ (rawN xs2 8) (rawN xs3 8) := Nat.div_pos (Nat.gcd_le_right _ h2) (Nat.gcd_pos_of_pos_right _ h2)
  have g2 : nd 65536 (lowP (rawN xs2 8) (rawN xs3 8)) ≤ 8 := Nat.le_trans (nd_mono (by decide) (Nat.div_le_self _ _)) hn2
  have g2' : nd 65536 (lowQ (rawN xs2 8) (rawN xs3 8)) ≤ 8 := Nat.le_trans (nd_mono (by decide) (Nat.div_le_self _ _)) hn3
  have q3 : 0 < lowQ (rawN xs4 8) (rawN xs5 8) := Nat.div_pos (Nat.gcd_le_right _ h3) (Nat.gcd_pos_of_pos_right _ h3)
  have g3 : nd 65536 (lowP (rawN xs4 8) (rawN xs5 8)) ≤ 8 := Nat.le_trans (nd_mono (by decide) (Nat.div_le_self _ _)) hn4
  have g3' : nd 65536 (lowQ (rawN xs4 8) (rawN xs5 8)) ≤ 8 := Nat.le_trans (nd_mono (by decide) (Nat.div_le_self _ _)) hn5

  obtain ⟨uo0, uc0, rfl, -⟩ := hu0.shape
  obtain ⟨uo1, uc1, rfl, -⟩ := hu1.shape
  obtain ⟨uo2, uc2, rfl, -⟩ := hu2.shape
  obtain ⟨uo3, uc3, rfl, -⟩ := hu3.shape
  obtain ⟨uo4, uc4, rfl, -⟩ := hu4.shape
  obtain ⟨uo5, uc5, rfl, -⟩ := hu5.shape
  clear he hu0 hl0 hu1 hl1 hu2 hl2 hu3 hl3 hu4 hl4 hu5 hl5
  generalize rawN xs0 8 = a at *
  generalize rawN xs1 8 = b at *
  generalize rawN xs2 8 = c at *
  generalize rawN xs3 8 = d at *
  generalize rawN xs4 8 = m at *
  generalize rawN xs5 8 = n at *
  generalize lowP a b = P1 at *
  generalize lowQ a b = Q1 at *
  generalize lowP c d = P2 at *
  generalize lowQ c d = Q2 at *
  generalize lowP m n = P3 at *
  generalize lowQ m n = Q3 at *
  have k32f := nd_32 g1
  have k32f' := nd_32 g1'
  have k32g := nd_32 g2
  have k32g' := nd_32 g2'
  have k32k := nd_32 g3
  have k32k' := nd_32 g3'
  have ls : nd 65536 (P1 * Q2 + P2 * Q1) ≤ 17 := nd_radd' (m := 16) (Nat.le_trans (nd_rmul g1 g2') (by decide)) (Nat.le_trans (nd_rmul g2 g1') (by decide))
  have ms : nd 65536 (Q1 * Q2) ≤ 16 := nd_rmul g1' g2'
  have ps : 0 < Q1 * Q2 := Nat.mul_pos q1 q2
  have HO_s := Lib.hid (fun W v u x y (h1 : D W v P1) (h2 : D W u Q1) (h3 : D W x P2) (h4 : D W y Q2) => FAdd_any v u x y P1 Q1 P2 Q2 W h1 h2 h3 h4 (by omega) (by omega) (by omega) (by omega))
  rw [dn_of q1, dn_of q2] at HO_s
  unfold FRes at HO_s
  rw [(sums_fit' (L := P1 * Q2 + P2 * Q1) (M := Q1 * Q2) (by omega) (by omega)).1, (sums_fit' (L := P1 * Q2 + P2 * Q1) (M := Q1 * Q2) (by omega) (by omega)).2.1, (sums_fit' (L := P1 * Q2 + P2 * Q1) (M := Q1 * Q2) (by omega) (by omega)).2.2] at HO_s
  obtain ⟨gcd_s, hg_s, r1s, r2s⟩ := low_rel (L := P1 * Q2 + P2 * Q1) ps
  have zs := low_pos' (L := P1 * Q2 + P2 * Q1) ps
  obtain ⟨nns, nns'⟩ := low_nd' (L := P1 * Q2 + P2 * Q1) (M := Q1 * Q2) ls ms
  generalize lowP (P1 * Q2 + P2 * Q1) (Q1 * Q2) = S1 at *
  generalize lowQ (P1 * Q2 + P2 * Q1) (Q1 * Q2) = S2 at *
  have k32s := nd_32 nns
  have k32s' := nd_32 nns'
  clear ls ms ps
  have lt : nd 65536 (S1 * Q3 + P3 * S2) ≤ 26 := nd_radd' (m := 25) (Nat.le_trans (nd_rmul nns g3') (by decide)) (Nat.le_trans (nd_rmul g3 nns') (by decide))
  have mt : nd 65536 (S2 * Q3) ≤ 24 := nd_rmul nns' g3'
  have pt : 0 < S2 * Q3 := Nat.mul_pos zs q3
  have HO_t := Lib.hid (fun W v u x y (h1 : D W v S1) (h2 : D W u S2) (h3 : D W x P3) (h4 : D W y Q3) => FAdd_any v u x y S1 S2 P3 Q3 W h1 h2 h3 h4 (by omega) (by omega) (by omega) (by omega))
  rw [dn_of zs, dn_of q3] at HO_t
  unfold FRes at HO_t
  rw [(sums_fit' (L := S1 * Q3 + P3 * S2) (M := S2 * Q3) (by omega) (by omega)).1, (sums_fit' (L := S1 * Q3 + P3 * S2) (M := S2 * Q3) (by omega) (by omega)).2.1, (sums_fit' (L := S1 * Q3 + P3 * S2) (M := S2 * Q3) (by omega) (by omega)).2.2] at HO_t
  obtain ⟨gcd_t, hg_t, r1t, r2t⟩ := low_rel (L := S1 * Q3 + P3 * S2) pt
  have zt := low_pos' (L := S1 * Q3 + P3 * S2) pt
  obtain ⟨nnt, nnt'⟩ := low_nd' (L := S1 * Q3 + P3 * S2) (M := S2 * Q3) lt mt
  have cot := low_coprime (L := S1 * Q3 + P3 * S2) pt
  generalize lowP (S1 * Q3 + P3 * S2) (S2 * Q3) = T1 at *
  generalize lowQ (S1 * Q3 + P3 * S2) (S2 * Q3) = T2 at *
  have k32t := nd_32 nnt
  have k32t' := nd_32 nnt'
  clear lt mt pt
  have lu : nd 65536 (P2 * Q3 + P3 * Q2) ≤ 17 := nd_radd' (m := 16) (Nat.le_trans (nd_rmul g2 g3') (by decide)) (Nat.le_trans (nd_rmul g3 g2') (by decide))
  have mu : nd 65536 (Q2 * Q3) ≤ 16 := nd_rmul g2' g3'
  have pu : 0 < Q2 * Q3 := Nat.mul_pos q2 q3
  have HO_u := Lib.hid (fun W v u x y (h1 : D W v P2) (h2 : D W u Q2) (h3 : D W x P3) (h4 : D W y Q3) => FAdd_any v u x y P2 Q2 P3 Q3 W h1 h2 h3 h4 (by omega) (by omega) (by omega) (by omega))
  rw [dn_of q2, dn_of q3] at HO_u
  unfold FRes at HO_u
  rw [(sums_fit' (L := P2 * Q3 + P3 * Q2) (M := Q2 * Q3) (by omega) (by omega)).1, (sums_fit' (L := P2 * Q3 + P3 * Q2) (M := Q2 * Q3) (by omega) (by omega)).2.1, (sums_fit' (L := P2 * Q3 + P3 * Q2) (M := Q2 * Q3) (by omega) (by omega)).2.2] at HO_u
  obtain ⟨gcd_u, hg_u, r1u, r2u⟩ := low_rel (L := P2 * Q3 + P3 * Q2) pu
  have zu := low_pos' (L := P2 * Q3 + P3 * Q2) pu
  obtain ⟨nnu, nnu'⟩ := low_nd' (L := P2 * Q3 + P3 * Q2) (M := Q2 * Q3) lu mu
  generalize lowP (P2 * Q3 + P3 * Q2) (Q2 * Q3) = U1 at *
  generalize lowQ (P2 * Q3 + P3 * Q2) (Q2 * Q3) = U2 at *
  have k32u := nd_32 nnu
  have k32u' := nd_32 nnu'
  clear lu mu pu
  have lv : nd 65536 (P1 * U2 + U1 * Q1) ≤ 26 := nd_radd' (m := 25) (Nat.le_trans (nd_rmul g1 nnu') (by decide)) (Nat.le_trans (nd_rmul nnu g1') (by decide))
  have mv : nd 65536 (Q1 * U2) ≤ 24 := nd_rmul g1' nnu'
  have pv : 0 < Q1 * U2 := Nat.mul_pos q1 zu
  have HO_v := Lib.hid (fun W v u x y (h1 : D W v P1) (h2 : D W u Q1) (h3 : D W x U1) (h4 : D W y U2) => FAdd_any v u x y P1 Q1 U1 U2 W h1 h2 h3 h4 (by omega) (by omega) (by omega) (by omega))
  rw [dn_of q1, dn_of zu] at HO_v
  unfold FRes at HO_v
  rw [(sums_fit' (L := P1 * U2 + U1 * Q1) (M := Q1 * U2) (by omega) (by omega)).1, (sums_fit' (L := P1 * U2 + U1 * Q1) (M := Q1 * U2) (by omega) (by omega)).2.1, (sums_fit' (L := P1 * U2 + U1 * Q1) (M := Q1 * U2) (by omega) (by omega)).2.2] at HO_v
  obtain ⟨gcd_v, hg_v, r1v, r2v⟩ := low_rel (L := P1 * U2 + U1 * Q1) pv
  have zv := low_pos' (L := P1 * U2 + U1 * Q1) pv
  obtain ⟨nnv, nnv'⟩ := low_nd' (L := P1 * U2 + U1 * Q1) (M := Q1 * U2) lv mv
  generalize lowP (P1 * U2 + U1 * Q1) (Q1 * U2) = V1 at *
  generalize lowQ (P1 * U2 + U1 * Q1) (Q1 * U2) = V2 at *
  have k32v := nd_32 nnv
  have k32v' := nd_32 nnv'
  clear lv mv pv
  have lp : nd 65536 (P1 * U1) ≤ 25 := nd_rmul g1 nnu
  have mp : nd 65536 (Q1 * U2) ≤ 24 := nd_rmul g1' nnu'
  have pp : 0 < Q1 * U2 := Nat.mul_pos q1 zu
  have HO_p := Lib.hid (fun W v u x y (h1 : D W v P1) (h2 : D W u Q1) (h3 : D W x U1) (h4 : D W y U2) => FMul_any v u x y P1 Q1 U1 U2 W h1 h2 h3 h4 (by omega) (by omega) (by omega) (by omega))
  rw [dn_of q1, dn_of zu] at HO_p
  unfold FRes at HO_p
  rw [(sums_fit' (L := P1 * U1) (M := Q1 * U2) (by omega) (by omega)).1, (sums_fit' (L := P1 * U1) (M := Q1 * U2) (by omega) (by omega)).2.1, (sums_fit' (L := P1 * U1) (M := Q1 * U2) (by omega) (by omega)).2.2] at HO_p
  obtain ⟨gcd_p, hg_p, r1p, r2p⟩ := low_rel (L := P1 * U1) pp
  have zp := low_pos' (L := P1 * U1) pp
  obtain ⟨nnp, nnp'⟩ := low_nd' (L := P1 * U1) (M := Q1 * U2) lp mp
  generalize lowP (P1 * U1) (Q1 * U2) = A1 at *
  generalize lowQ (P1 * U1) (Q1 * U2) = A2 at *
  have k32p := nd_32 nnp
  have k32p' := nd_32 nnp'
  clear lp mp pp
  have lq : nd 65536 (P1 * P2) ≤ 16 := nd_rmul g1 g2
  have mq : nd 65536 (Q1 * Q2) ≤ 16 := nd_rmul g1' g2'
  have pq : 0 < Q1 * Q2 := Nat.mul_pos q1 q2
  have HO_q := Lib.hid (fun W v u x y (h1 : D W v P1) (h2 : D W u Q1) (h3 : D W x P2) (h4 : D W y Q2) => FMul_any v u x y P1 Q1 P2 Q2 W h1 h2 h3 h4 (by omega) (by omega) (by omega) (by omega))
  rw [dn_of q1, dn_of q2] at HO_q
  unfold FRes at HO_q
  rw [(sums_fit' (L := P1 * P2) (M := Q1 * Q2) (by omega) (by omega)).1, (sums_fit' (L := P1 * P2) (M := Q1 * Q2) (by omega) (by omega)).2.1, (sums_fit' (L := P1 * P2) (M := Q1 * Q2) (by omega) (by omega)).2.2] at HO_q
  obtain ⟨gcd_q, hg_q, r1q, r2q⟩ := low_rel (L := P1 * P2) pq
  have zq := low_pos' (L := P1 * P2) pq
  obtain ⟨nnq, nnq'⟩ := low_nd' (L := P1 * P2) (M := Q1 * Q2) lq mq
  generalize lowP (P1 * P2) (Q1 * Q2) = M1 at *
  generalize lowQ (P1 * P2) (Q1 * Q2) = M2 at *
  have k32q := nd_32 nnq
  have k32q' := nd_32 nnq'
  clear lq mq pq
  have lr : nd 65536 (P1 * P3) ≤ 16 := nd_rmul g1 g3
  have mr : nd 65536 (Q1 * Q3) ≤ 16 := nd_rmul g1' g3'
  have pr : 0 < Q1 * Q3 := Nat.mul_pos q1 q3
  have HO_r := Lib.hid (fun W v u x y (h1 : D W v P1) (h2 : D W u Q1) (h3 : D W x P3) (h4 : D W y Q3) => FMul_any v u x y P1 Q1 P3 Q3 W h1 h2 h3 h4 (by omega) (by omega) (by omega) (by omega))
  rw [dn_of q1, dn_of q3] at HO_r
  unfold FRes at HO_r
  rw [(sums_fit' (L := P1 * P3) (M := Q1 * Q3) (by omega) (by omega)).1, (sums_fit' (L := P1 * P3) (M := Q1 * Q3) (by omega) (by omega)).2.1, (sums_fit' (L := P1 * P3) (M := Q1 * Q3) (by omega) (by omega)).2.2] at HO_r
  obtain ⟨gcd_r, hg_r, r1r, r2r⟩ := low_rel (L := P1 * P3) pr
  have zr := low_pos' (L := P1 * P3) pr
  obtain ⟨nnr, nnr'⟩ := low_nd' (L := P1 * P3) (M := Q1 * Q3) lr mr
  generalize lowP (P1 * P3) (Q1 * Q3) = R1 at *
  generalize lowQ (P1 * P3) (Q1 * Q3) = R2 at *
  have k32r := nd_32 nnr
  have k32r' := nd_32 nnr'
  clear lr mr pr
  have lw : nd 65536 (M1 * R2 + R1 * M2) ≤ 33 := nd_radd' (m := 32) (Nat.le_trans (nd_rmul nnq nnr') (by decide)) (Nat.le_trans (nd_rmul nnr nnq') (by decide))
  have mw : nd 65536 (M2 * R2) ≤ 32 := nd_rmul nnq' nnr'
  have pw : 0 < M2 * R2 := Nat.mul_pos zq zr
  have HO_w := Lib.hid (fun W v u x y (h1 : D W v M1) (h2 : D W u M2) (h3 : D W x R1) (h4 : D W y R2) => FAdd_any v u x y M1 M2 R1 R2 W h1 h2 h3 h4 (by omega) (by omega) (by omega) (by omega))
  rw [dn_of zq, dn_of zr] at HO_w
  unfold FRes at HO_w
  rw [(sums_fit' (L := M1 * R2 + R1 * M2) (M := M2 * R2) (by omega) (by omega)).1, (sums_fit' (L := M1 * R2 + R1 * M2) (M := M2 * R2) (by omega) (by omega)).2.1, (sums_fit' (L := M1 * R2 + R1 * M2) (M := M2 * R2) (by omega) (by omega)).2.2] at HO_w
  obtain ⟨gcd_w, hg_w, r1w, r2w⟩ := low_rel (L := M1 * R2 + R1 * M2) pw
  have zw := low_pos' (L := M1 * R2 + R1 * M2) pw
  obtain ⟨nnw, nnw'⟩ := low_nd' (L := M1 * R2 + R1 * M2) (M := M2 * R2) lw mw
  generalize lowP (M1 * R2 + R1 * M2) (M2 * R2) = W1 at *
  generalize lowQ (M1 * R2 + R1 * M2) (M2 * R2) = W2 at *
  have k32w := nd_32 nnw
  have k32w' := nd_32 nnw'
  clear lw mw pw
  have HC1 := Lib.hid (fun W v u x y (h1 : D W v T1) (h2 : D W u T2) (h3 : D W x V1) (h4 : D W y V2) => FCmp_any v u x y T1 T2 V1 V2 W h1 h2 h3 h4 (by omega) (by omega) (by omega) (by omega))
  rw [dn_of zt, dn_of zv, show cmpN ((T1 * V2 : Nat) : Int) ((V1 * T2 : Nat) : Int) = 0 from cmpN_eq (by rw [fld_assoc hg_s hg_u hg_t hg_v r1s r2s r1u r2u r1t r2t r1v r2v])] at HC1
  have HC2 := Lib.hid (fun W v u x y (h1 : D W v A1) (h2 : D W u A2) (h3 : D W x W1) (h4 : D W y W2) => FCmp_any v u x y A1 A2 W1 W2 W h1 h2 h3 h4 (by omega) (by omega) (by omega) (by omega))
  rw [dn_of zp, dn_of zw, show cmpN ((A1 * W2 : Nat) : Int) ((W1 * A2 : Nat) : Int) = 0 from cmpN_eq (by rw [fld_distr hg_q hg_r hg_u hg_p hg_w r1u r2u r1q r2q r1r r2r r1p r2p r1w r2w])] at HC2
  have HC3 := Lib.hid (fun W v u x y (h1 : D W v T1) (h2 : D W u T2) (h3 : D W x T1) (h4 : D W y T2) => FCmp_any v u x y T1 T2 T1 T2 W h1 h2 h3 h4 (by omega) (by omega) (by omega) (by omega))
  rw [dn_of zt, show cmpN ((T1 * T2 : Nat) : Int) ((T1 * T2 : Nat) : Int) = 0 from cmpN_eq rfl] at HC3
  have HDZ := Lib.hid (fun W v u x y (h1 : D W v M1) (h2 : D W u M2) (h3 : D W x P2) (h4 : D W y Q2) => FDiv_zero v u x y M1 M2 Q2 W h1 h2 (hk ▸ h3) h4)
  obtain ⟨ST, hST⟩ : ∃ S : ByteArray, S = ⟨(fracText T1 T2).toArray⟩ := ⟨_, rfl⟩
  have HTS := Lib.hid (fun W v u (h1 : D W v T1) (h2 : D W u T2) (he : Env W) => FracString_any v u T1 T2 W h1 h2 (by omega) (by omega) he)
  rw [dn_of zt, ← hST] at HTS
  have HPT := Lib.hid (fun W (he : Env W) => PF_text T1 T2 zt cot (by omega) (by omega) W he)
  rw [← hST] at HPT
  have HFN := Lib.hid (fun W v u (h1 : D W v P2) (h2 : D W u Q2) => FNum_any v u P2 Q2 W h1 h2 (by omega))
  have HBL := Lib.hid (fun W v (h1 : D W v P2) => BitLen_any v P2 W h1 (by omega))
  rw [show nd 2 P2 = 0 from by rw [hk, nd_zero]] at HBL
  rw [show ((0 : Nat) : Int) = 0 from rfl] at HBL
  clear hk hST hn0 hn1 hn2 hn3 hn4 hn5 cot hg_s r1s r2s zs nns nns' k32s k32s' hg_t r1t r2t zt nnt nnt' k32t k32t' hg_u r1u r2u zu nnu nnu' k32u k32u' hg_v r1v r2v zv nnv nnv' k32v k32v' hg_p r1p r2p zp nnp nnp' k32p k32p' hg_q r1q r2q zq nnq nnq' k32q k32q' hg_r r1r r2r zr nnr nnr' k32r k32r' hg_w r1w r2w zw nnw nnw' k32w k32w' q1 q2 q3 g1 g1' g2 g2' g3 g3'
  go_enter Tryz.func5, Tryz.ntmps5
  go_wp2_with fail
  refine (HH1.out _ (IsRaw.below HU0.out HS0.out.bel) (IsRaw.below HU1.out HS0.out.bel)).mono ?_
  rintro e w1 ⟨vf1, vf2, vp1, vp2, rfl, hf1, hf2, hp1, hp2, hb⟩
  obtain ⟨f1o, f1c, rfl, -⟩ := hf1.shape
  obtain ⟨f2o, f2c, rfl, -⟩ := hf2.shape
  obtain ⟨p1o, p1c, rfl, -⟩ := hp1.shape
  obtain ⟨p2o, p2c, rfl, -⟩ := hp2.shape
  have hs := ((((((HS0.out.next hb).addNum hf1).addNum hf2).addDig hp1).addDig hp2).boxed2 (.slice f1o (nd 4294967296 (P1)) f1c) (.slice f2o (nd 4294967296 (Q1)) f2c) 26).boxed2 (.slice p1o (nd 65536 (P1)) p1c) (.slice p2o (nd 65536 (Q1)) p2c) 29
  simp only [World.size_alloc] at hs
  have HS1 := Lib.hid hs
  clear hs hb hf1 hf2 hp1 hp2 HS0
  go_wp2_with fail
  refine (HH2.out _ (IsRaw.below HU2.out HS1.out.bel) (IsRaw.below HU3.out HS1.out.bel)).mono ?_
  rintro e w2 ⟨vg1, vg2, vq1, vq2, rfl, hg1, hg2, hq1, hq2, hb⟩
  obtain ⟨g1o, g1c, rfl, -⟩ := hg1.shape
  obtain ⟨g2o, g2c, rfl, -⟩ := hg2.shape
  obtain ⟨q1o, q1c, rfl, -⟩ := hq1.shape
  obtain ⟨q2o, q2c, rfl, -⟩ := hq2.shape
  have hs := ((((((HS1.out.next hb).addNum hg1).addNum hg2).addDig hq1).addDig hq2).boxed2 (.slice g1o (nd 4294967296 (P2)) g1c) (.slice g2o (nd 4294967296 (Q2)) g2c) 26).boxed2 (.slice q1o (nd 65536 (P2)) q1c) (.slice q2o (nd 65536 (Q2)) q2c) 29
  simp only [World.size_alloc] at hs
  have HS2 := Lib.hid hs
  clear hs hb hg1 hg2 hq1 hq2 HS1
  go_wp2_with fail
  refine (HH3.out _ (IsRaw.below HU4.out HS2.out.bel) (IsRaw.below HU5.out HS2.out.bel)).mono ?_
  rintro e w3 ⟨vk1, vk2, vr1, vr2, rfl, hk1, hk2, hr1, hr2, hb⟩
  obtain ⟨k1o, k1c, rfl, -⟩ := hk1.shape
  obtain ⟨k2o, k2c, rfl, -⟩ := hk2.shape
  obtain ⟨r1o, r1c, rfl, -⟩ := hr1.shape
  obtain ⟨r2o, r2c, rfl, -⟩ := hr2.shape
  have hs := ((((((HS2.out.next hb).addNum hk1).addNum hk2).addDig hr1).addDig hr2).boxed2 (.slice k1o (nd 4294967296 (P3)) k1c) (.slice k2o (nd 4294967296 (Q3)) k2c) 26).boxed2 (.slice r1o (nd 65536 (P3)) r1c) (.slice r2o (nd 65536 (Q3)) r2c) 29
  simp only [World.size_alloc] at hs
  have HS3 := Lib.hid hs
  clear hs hb hk1 hk2 hr1 hr2 HS2
  clear HH1 HH2 HH3 HU0 HU1 HU2 HU3 HU4 HU5
  have cf1 := HS3.out.cell (.tail _ (.tail _ (.tail _ (.tail _ (.tail _ (.tail _ (.tail _ (.tail _ (.tail _ (.tail _ (.tail _ (.head _))))))))))))
  have cf2 := HS3.out.cell (.tail _ (.tail _ (.tail _ (.tail _ (.tail _ (.tail _ (.tail _ (.tail _ (.tail _ (.tail _ (.head _)))))))))))
  have cg1 := HS3.out.cell (.tail _ (.tail _ (.tail _ (.tail _ (.tail _ (.tail _ (.tail _ (.head _))))))))
  have cg2 := HS3.out.cell (.tail _ (.tail _ (.tail _ (.tail _ (.tail _ (.tail _ (.head _)))))))
  go_wp2_with fail
  refine (HO_s.out _ _ _ _ _ (HS3.out.num _ (.tail _ (.tail _ (.tail _ (.tail _ (.tail _ (.head _))))))) (HS3.out.num _ (.tail _ (.tail _ (.tail _ (.tail _ (.head _)))))) (HS3.out.num _ (.tail _ (.tail _ (.tail _ (.head _))))) (HS3.out.num _ (.tail _ (.tail _ (.head _))))).mono ?_
  rintro e w4 ⟨vsa1, vsa2, rfl, hsa1, hsa2, hb⟩
  obtain ⟨sa1o, sa1c, rfl, -⟩ := hsa1.shape
  obtain ⟨sa2o, sa2c, rfl, -⟩ := hsa2.shape
  have hs := (((HS3.out.next hb).addNum hsa1).addNum hsa2).boxed2 (.slice sa1o (nd 4294967296 (S1)) sa1c) (.slice sa2o (nd 4294967296 (S2)) sa2c) 26
  have HS4 := Lib.hid hs
  clear hs hb hsa1 hsa2 HS3
  clear cf1 cf2 cg1 cg2
  have csa1 := HS4.out.cell (.tail _ (.head _))
  have csa2 := HS4.out.cell (.head _)
  have ck1 := HS4.out.cell (.tail _ (.tail _ (.tail _ (.tail _ (.tail _ (.head _))))))
  have ck2 := HS4.out.cell (.tail _ (.tail _ (.tail _ (.tail _ (.head _)))))
  go_wp2_with fail
  refine (HO_t.out _ _ _ _ _ (HS4.out.num _ (.tail _ (.head _))) (HS4.out.num _ (.head _)) (HS4.out.num _ (.tail _ (.tail _ (.tail _ (.head _))))) (HS4.out.num _ (.tail _ (.tail _ (.head _))))).mono ?_
  rintro e w5 ⟨vta1, vta2, rfl, hta1, hta2, hb⟩
  obtain ⟨ta1o, ta1c, rfl, -⟩ := hta1.shape
  obtain ⟨ta2o, ta2c, rfl, -⟩ := hta2.shape
  have hs := (((HS4.out.next hb).addNum hta1).addNum hta2).boxed2 (.slice ta1o (nd 4294967296 (T1)) ta1c) (.slice ta2o (nd 4294967296 (T2)) ta2c) 26
  have HS5 := Lib.hid hs
  clear hs hb hta1 hta2 HS4
  clear csa1 csa2 ck1 ck2
  have cg1 := HS5.out.cell (.tail _ (.tail _ (.tail _ (.tail _ (.tail _ (.tail _ (.tail _ (.tail _ (.tail _ (.tail _ (.tail _ (.head _))))))))))))
  have cg2 := HS5.out.cell (.tail _ (.tail _ (.tail _ (.tail _ (.tail _ (.tail _ (.tail _ (.tail _ (.tail _ (.tail _ (.head _)))))))))))
  have ck1 := HS5.out.cell (.tail _ (.tail _ (.tail _ (.tail _ (.tail _ (.tail _ (.tail _ (.head _))))))))
  have ck2 := HS5.out.cell (.tail _ (.tail _ (.tail _ (.tail _ (.tail _ (.tail _ (.head _)))))))
  go_wp2_with fail
  refine (HO_u.out _ _ _ _ _ (HS5.out.num _ (.tail _ (.tail _ (.tail _ (.tail _ (.tail _ (.tail _ (.tail _ (.head _))))))))) (HS5.out.num _ (.tail _ (.tail _ (.tail _ (.tail _ (.tail _ (.tail _ (.head _)))))))) (HS5.out.num _ (.tail _ (.tail _ (.tail _ (.tail _ (.tail _ (.head _))))))) (HS5.out.num _ (.tail _ (.tail _ (.tail _ (.tail _ (.head _))))))).mono ?_
  rintro e w6 ⟨vua1, vua2, rfl, hua1, hua2, hb⟩
  obtain ⟨ua1o, ua1c, rfl, -⟩ := hua1.shape
  obtain ⟨ua2o, ua2c, rfl, -⟩ := hua2.shape
  have hs := (((HS5.out.next hb).addNum hua1).addNum hua2).boxed2 (.slice ua1o (nd 4294967296 (U1)) ua1c) (.slice ua2o (nd 4294967296 (U2)) ua2c) 26
  have HS6 := Lib.hid hs
  clear hs hb hua1 hua2 HS5
  clear cg1 cg2 ck1 ck2
  have cf1 := HS6.out.cell (.tail _ (.tail _ (.tail _ (.tail _ (.tail _ (.tail _ (.tail _ (.tail _ (.tail _ (.tail _ (.tail _ (.tail _ (.tail _ (.tail _ (.tail _ (.tail _ (.tail _ (.head _))))))))))))))))))
  have cf2 := HS6.out.cell (.tail _ (.tail _ (.tail _ (.tail _ (.tail _ (.tail _ (.tail _ (.tail _ (.tail _ (.tail _ (.tail _ (.tail _ (.tail _ (.tail _ (.tail _ (.tail _ (.head _)))))))))))))))))
  have cua1 := HS6.out.cell (.tail _ (.head _))
  have cua2 := HS6.out.cell (.head _)
  go_wp2_with fail
  refine (HO_v.out _ _ _ _ _ (HS6.out.num _ (.tail _ (.tail _ (.tail _ (.tail _ (.tail _ (.tail _ (.tail _ (.tail _ (.tail _ (.tail _ (.tail _ (.head _))))))))))))) (HS6.out.num _ (.tail _ (.tail _ (.tail _ (.tail _ (.tail _ (.tail _ (.tail _ (.tail _ (.tail _ (.tail _ (.head _)))))))))))) (HS6.out.num _ (.tail _ (.head _))) (HS6.out.num _ (.head _))).mono ?_
  rintro e w7 ⟨vva1, vva2, rfl, hva1, hva2, hb⟩
  obtain ⟨va1o, va1c, rfl, -⟩ := hva1.shape
  obtain ⟨va2o, va2c, rfl, -⟩ := hva2.shape
  have hs := (((HS6.out.next hb).addNum hva1).addNum hva2).boxed2 (.slice va1o (nd 4294967296 (V1)) va1c) (.slice va2o (nd 4294967296 (V2)) va2c) 26
  have HS7 := Lib.hid hs
  clear hs hb hva1 hva2 HS6
  clear cf1 cf2 cua1 cua2
  have cf1 := HS7.out.cell (.tail _ (.tail _ (.tail _ (.tail _ (.tail _ (.tail _ (.tail _ (.tail _ (.tail _ (.tail _ (.tail _ (.tail _ (.tail _ (.tail _ (.tail _ (.tail _ (.tail _ (.tail _ (.tail _ (.head _))))))))))))))))))))
  have cf2 := HS7.out.cell (.tail _ (.tail _ (.tail _ (.tail _ (.tail _ (.tail _ (.tail _ (.tail _ (.tail _ (.tail _ (.tail _ (.tail _ (.tail _ (.tail _ (.tail _ (.tail _ (.tail _ (.tail _ (.head _)))))))))))))))))))
  have cua1 := HS7.out.cell (.tail _ (.tail _ (.tail _ (.head _))))
  have cua2 := HS7.out.cell (.tail _ (.tail _ (.head _)))
  go_wp2_with fail
  refine (HO_p.out _ _ _ _ _ (HS7.out.num _ (.tail _ (.tail _ (.tail _ (.tail _ (.tail _ (.tail _ (.tail _ (.tail _ (.tail _ (.tail _ (.tail _ (.tail _ (.tail _ (.head _))))))))))))))) (HS7.out.num _ (.tail _ (.tail _ (.tail _ (.tail _ (.tail _ (.tail _ (.tail _ (.tail _ (.tail _ (.tail _ (.tail _ (.tail _ (.head _)))))))))))))) (HS7.out.num _ (.tail _ (.tail _ (.tail _ (.head _))))) (HS7.out.num _ (.tail _ (.tail _ (.head _))))).mono ?_
  rintro e w8 ⟨vpa1, vpa2, rfl, hpa1, hpa2, hb⟩
  obtain ⟨pa1o, pa1c, rfl, -⟩ := hpa1.shape
  obtain ⟨pa2o, pa2c, rfl, -⟩ := hpa2.shape
  have hs := (((HS7.out.next hb).addNum hpa1).addNum hpa2).boxed2 (.slice pa1o (nd 4294967296 (A1)) pa1c) (.slice pa2o (nd 4294967296 (A2)) pa2c) 26
  have HS8 := Lib.hid hs
  clear hs hb hpa1 hpa2 HS7
  clear cf1 cf2 cua1 cua2
  have cf1 := HS8.out.cell (.tail _ (.tail _ (.tail _ (.tail _ (.tail _ (.tail _ (.tail _ (.tail _ (.tail _ (.tail _ (.tail _ (.tail _ (.tail _ (.tail _ (.tail _ (.tail _ (.tail _ (.tail _ (.tail _ (.tail _ (.tail _ (.head _))))))))))))))))))))))
  have cf2 := HS8.out.cell (.tail _ (.tail _ (.tail _ (.tail _ (.tail _ (.tail _ (.tail _ (.tail _ (.tail _ (.tail _ (.tail _ (.tail _ (.tail _ (.tail _ (.tail _ (.tail _ (.tail _ (.tail _ (.tail _ (.tail _ (.head _)))))))))))))))))))))
  have cg1 := HS8.out.cell (.tail _ (.tail _ (.tail _ (.tail _ (.tail _ (.tail _ (.tail _ (.tail _ (.tail _ (.tail _ (.tail _ (.tail _ (.tail _ (.tail _ (.tail _ (.tail _ (.tail _ (.head _))))))))))))))))))
  have cg2 := HS8.out.cell (.tail _ (.tail _ (.tail _ (.tail _ (.tail _ (.tail _ (.tail _ (.tail _ (.tail _ (.tail _ (.tail _ (.tail _ (.tail _ (.tail _ (.tail _ (.tail _ (.head _)))))))))))))))))
  go_wp2_with fail
  refine (HO_q.out _ _ _ _ _ (HS8.out.num _ (.tail _ (.tail _ (.tail _ (.tail _ (.tail _ (.tail _ (.tail _ (.tail _ (.tail _ (.tail _ (.tail _ (.tail _ (.tail _ (.tail _ (.tail _ (.head _))))))))))))))))) (HS8.out.num _ (.tail _ (.tail _ (.tail _ (.tail _ (.tail _ (.tail _ (.tail _ (.tail _ (.tail _ (.tail _ (.tail _ (.tail _ (.tail _ (.tail _ (.head _)))))))))))))))) (HS8.out.num _ (.tail _ (.tail _ (.tail _ (.tail _ (.tail _ (.tail _ (.tail _ (.tail _ (.tail _ (.tail _ (.tail _ (.tail _ (.tail _ (.head _))))))))))))))) (HS8.out.num _ (.tail _ (.tail _ (.tail _ (.tail _ (.tail _ (.tail _ (.tail _ (.tail _ (.tail _ (.tail _ (.tail _ (.tail _ (.head _))))))))))))))).mono ?_
  rintro e w9 ⟨vqa1, vqa2, rfl, hqa1, hqa2, hb⟩
  obtain ⟨qa1o, qa1c, rfl, -⟩ := hqa1.shape
  obtain ⟨qa2o, qa2c, rfl, -⟩ := hqa2.shape
  have hs := (((HS8.out.next hb).addNum hqa1).addNum hqa2).boxed2 (.slice qa1o (nd 4294967296 (M1)) qa1c) (.slice qa2o (nd 4294967296 (M2)) qa2c) 26
  have HS9 := Lib.hid hs
  clear hs hb hqa1 hqa2 HS8
  clear cf1 cf2 cg1 cg2
  have cf1 := HS9.out.cell (.tail _ (.tail _ (.tail _ (.tail _ (.tail _ (.tail _ (.tail _ (.tail _ (.tail _ (.tail _ (.tail _ (.tail _ (.tail _ (.tail _ (.tail _ (.tail _ (.tail _ (.tail _ (.tail _ (.tail _ (.tail _ (.tail _ (.tail _ (.head _))))))))))))))))))))))))
  have cf2 := HS9.out.cell (.tail _ (.tail _ (.tail _ (.tail _ (.tail _ (.tail _ (.tail _ (.tail _ (.tail _ (.tail _ (.tail _ (.tail _ (.tail _ (.tail _ (.tail _ (.tail _ (.tail _ (.tail _ (.tail _ (.tail _ (.tail _ (.tail _ (.head _)))))))))))))))))))))))
  have ck1 := HS9.out.cell (.tail _ (.tail _ (.tail _ (.tail _ (.tail _ (.tail _ (.tail _ (.tail _ (.tail _ (.tail _ (.tail _ (.tail _ (.tail _ (.tail _ (.tail _ (.head _))))))))))))))))
  have ck2 := HS9.out.cell (.tail _ (.tail _ (.tail _ (.tail _ (.tail _ (.tail _ (.tail _ (.tail _ (.tail _ (.tail _ (.tail _ (.tail _ (.tail _ (.tail _ (.head _)))))))))))))))
  go_wp2_with fail
  refine (HO_r.out _ _ _ _ _ (HS9.out.num _ (.tail _ (.tail _ (.tail _ (.tail _ (.tail _ (.tail _ (.tail _ (.tail _ (.tail _ (.tail _ (.tail _ (.tail _ (.tail _ (.tail _ (.tail _ (.tail _ (.tail _ (.head _))))))))))))))))))) (HS9.out.num _ (.tail _ (.tail _ (.tail _ (.tail _ (.tail _ (.tail _ (.tail _ (.tail _ (.tail _ (.tail _ (.tail _ (.tail _ (.tail _ (.tail _ (.tail _ (.tail _ (.head _)))))))))))))))))) (HS9.out.num _ (.tail _ (.tail _ (.tail _ (.tail _ (.tail _ (.tail _ (.tail _ (.tail _ (.tail _ (.tail _ (.tail _ (.tail _ (.tail _ (.head _))))))))))))))) (HS9.out.num _ (.tail _ (.tail _ (.tail _ (.tail _ (.tail _ (.tail _ (.tail _ (.tail _ (.tail _ (.tail _ (.tail _ (.tail _ (.head _))))))))))))))).mono ?_
  rintro e w10 ⟨vra1, vra2, rfl, hra1, hra2, hb⟩
  obtain ⟨ra1o, ra1c, rfl, -⟩ := hra1.shape
  obtain ⟨ra2o, ra2c, rfl, -⟩ := hra2.shape
  have hs := (((HS9.out.next hb).addNum hra1).addNum hra2).boxed2 (.slice ra1o (nd 4294967296 (R1)) ra1c) (.slice ra2o (nd 4294967296 (R2)) ra2c) 26
  have HS10 := Lib.hid hs
  clear hs hb hra1 hra2 HS9
  clear cf1 cf2 ck1 ck2
  have cqa1 := HS10.out.cell (.tail _ (.tail _ (.tail _ (.head _))))
  have cqa2 := HS10.out.cell (.tail _ (.tail _ (.head _)))
  have cra1 := HS10.out.cell (.tail _ (.head _))
  have cra2 := HS10.out.cell (.head _)
  go_wp2_with fail
  refine (HO_w.out _ _ _ _ _ (HS10.out.num _ (.tail _ (.tail _ (.tail _ (.head _))))) (HS10.out.num _ (.tail _ (.tail _ (.head _)))) (HS10.out.num _ (.tail _ (.head _))) (HS10.out.num _ (.head _))).mono ?_
  rintro e w11 ⟨vwa1, vwa2, rfl, hwa1, hwa2, hb⟩
  obtain ⟨wa1o, wa1c, rfl, -⟩ := hwa1.shape
  obtain ⟨wa2o, wa2c, rfl, -⟩ := hwa2.shape
  have hs := (((HS10.out.next hb).addNum hwa1).addNum hwa2).boxed2 (.slice wa1o (nd 4294967296 (W1)) wa1c) (.slice wa2o (nd 4294967296 (W2)) wa2c) 26
  have HS11 := Lib.hid hs
  clear hs hb hwa1 hwa2 HS10
  clear cqa1 cqa2 cra1 cra2
  have cta1 := HS11.out.cell (.tail _ (.tail _ (.tail _ (.tail _ (.tail _ (.tail _ (.tail _ (.tail _ (.tail _ (.tail _ (.tail _ (.tail _ (.tail _ (.head _))))))))))))))
  have cta2 := HS11.out.cell (.tail _ (.tail _ (.tail _ (.tail _ (.tail _ (.tail _ (.tail _ (.tail _ (.tail _ (.tail _ (.tail _ (.tail _ (.head _)))))))))))))
  have hto := HTS.out _ _ _ (HS11.out.num _ (.tail _ (.tail _ (.tail _ (.tail _ (.tail _ (.tail _ (.tail _ (.tail _ (.tail _ (.tail _ (.tail _ (.tail _ (.tail _ (.head _))))))))))))))) (HS11.out.num _ (.tail _ (.tail _ (.tail _ (.tail _ (.tail _ (.tail _ (.tail _ (.tail _ (.tail _ (.tail _ (.tail _ (.tail _ (.head _)))))))))))))) HS11.out.env
  have HTO := Lib.hid (hto.mono fun e w' h => And.intro h.1 (HS11.out.next h.2))
  clear hto
  go_wp2_with fail
  refine (HTO.out).mono ?_
  rintro e w12 ⟨rfl, hs⟩
  have HS12 := Lib.hid hs
  clear hs HS11
  clear cta1 cta2 HTO
  go_wp2_with fail
  refine (HPT.out _ HS12.out.env).mono ?_
  rintro e w13 ⟨vba1, vba2, rfl, hba1, hba2, hb⟩
  obtain ⟨ba1o, ba1c, rfl, -⟩ := hba1.shape
  obtain ⟨ba2o, ba2c, rfl, -⟩ := hba2.shape
  have hs := (((HS12.out.next hb).addNum hba1).addNum hba2).boxed2 (.slice ba1o (nd 4294967296 (T1)) ba1c) (.slice ba2o (nd 4294967296 (T2)) ba2c) 26
  have HS13 := Lib.hid hs
  clear hs hb hba1 hba2 HS12
  clear HO_s HO_t HO_u HO_v HO_p HO_r HO_w HTS HPT HO_q
  have hs := HS13.out
  obtain ⟨cs1, hcs⟩ : ∃ cs : List (Nat × Nat × Value), cs = (w13.heap.size, 1, .slice ba2o (nd 4294967296 (T2)) ba2c) :: (w13.heap.size, 0, .slice ba1o (nd 4294967296 (T1)) ba1c) :: (w11.heap.size, 1, .slice wa2o (nd 4294967296 (W2)) wa2c) :: (w11.heap.size, 0, .slice wa1o (nd 4294967296 (W1)) wa1c) :: (w10.heap.size, 1, .slice ra2o (nd 4294967296 (R2)) ra2c) :: (w10.heap.size, 0, .slice ra1o (nd 4294967296 (R1)) ra1c) :: (w9.heap.size, 1, .slice qa2o (nd 4294967296 (M2)) qa2c) :: (w9.heap.size, 0, .slice qa1o (nd 4294967296 (M1)) qa1c) :: (w8.heap.size, 1, .slice pa2o (nd 4294967296 (A2)) pa2c) :: (w8.heap.size, 0, .slice pa1o (nd 4294967296 (A1)) pa1c) :: (w7.heap.size, 1, .slice va2o (nd 4294967296 (V2)) va2c) :: (w7.heap.size, 0, .slice va1o (nd 4294967296 (V1)) va1c) :: (w6.heap.size, 1, .slice ua2o (nd 4294967296 (U2)) ua2c) :: (w6.heap.size, 0, .slice ua1o (nd 4294967296 (U1)) ua1c) :: (w5.heap.size, 1, .slice ta2o (nd 4294967296 (T2)) ta2c) :: (w5.heap.size, 0, .slice ta1o (nd 4294967296 (T1)) ta1c) :: (w4.heap.size, 1, .slice sa2o (nd 4294967296 (S2)) sa2c) :: (w4.heap.size, 0, .slice sa1o (nd 4294967296 (S1)) sa1c) :: (w3.heap.size + 1, 1, .slice r2o (nd 65536 (Q3)) r2c) :: (w3.heap.size + 1, 0, .slice r1o (nd 65536 (P3)) r1c) :: (w3.heap.size, 1, .slice k2o (nd 4294967296 (Q3)) k2c) :: (w3.heap.size, 0, .slice k1o (nd 4294967296 (P3)) k1c) :: (w2.heap.size + 1, 1, .slice q2o (nd 65536 (Q2)) q2c) :: (w2.heap.size + 1, 0, .slice q1o (nd 65536 (P2)) q1c) :: (w2.heap.size, 1, .slice g2o (nd 4294967296 (Q2)) g2c) :: (w2.heap.size, 0, .slice g1o (nd 4294967296 (P2)) g1c) :: (w1.heap.size + 1, 1, .slice p2o (nd 65536 (Q1)) p2c) :: (w1.heap.size + 1, 0, .slice p1o (nd 65536 (P1)) p1c) :: (w1.heap.size, 1, .slice f2o (nd 4294967296 (Q1)) f2c) :: (w1.heap.size, 0, .slice f1o (nd 4294967296 (P1)) f1c) :: [] := ⟨_, rfl⟩
  obtain ⟨ns1, hns⟩ : ∃ ns : List (Value × Nat), ns = (.slice ba2o (nd 4294967296 (T2)) ba2c, T2) :: (.slice ba1o (nd 4294967296 (T1)) ba1c, T1) :: (.slice wa2o (nd 4294967296 (W2)) wa2c, W2) :: (.slice wa1o (nd 4294967296 (W1)) wa1c, W1) :: (.slice ra2o (nd 4294967296 (R2)) ra2c, R2) :: (.slice ra1o (nd 4294967296 (R1)) ra1c, R1) :: (.slice qa2o (nd 4294967296 (M2)) qa2c, M2) :: (.slice qa1o (nd 4294967296 (M1)) qa1c, M1) :: (.slice pa2o (nd 4294967296 (A2)) pa2c, A2) :: (.slice pa1o (nd 4294967296 (A1)) pa1c, A1) :: (.slice va2o (nd 4294967296 (V2)) va2c, V2) :: (.slice va1o (nd 4294967296 (V1)) va1c, V1) :: (.slice ua2o (nd 4294967296 (U2)) ua2c, U2) :: (.slice ua1o (nd 4294967296 (U1)) ua1c, U1) :: (.slice ta2o (nd 4294967296 (T2)) ta2c, T2) :: (.slice ta1o (nd 4294967296 (T1)) ta1c, T1) :: (.slice sa2o (nd 4294967296 (S2)) sa2c, S2) :: (.slice sa1o (nd 4294967296 (S1)) sa1c, S1) :: (.slice k2o (nd 4294967296 (Q3)) k2c, Q3) :: (.slice k1o (nd 4294967296 (P3)) k1c, P3) :: (.slice g2o (nd 4294967296 (Q2)) g2c, Q2) :: (.slice g1o (nd 4294967296 (P2)) g1c, P2) :: (.slice f2o (nd 4294967296 (Q1)) f2c, Q1) :: (.slice f1o (nd 4294967296 (P1)) f1c, P1) :: [] := ⟨_, rfl⟩
  obtain ⟨rs1, hrs⟩ : ∃ rs : List (Value × Nat), rs = (.slice r2o (nd 65536 (Q3)) r2c, Q3) :: (.slice r1o (nd 65536 (P3)) r1c, P3) :: (.slice q2o (nd 65536 (Q2)) q2c, Q2) :: (.slice q1o (nd 65536 (P2)) q1c, P2) :: (.slice p2o (nd 65536 (Q1)) p2c, Q1) :: (.slice p1o (nd 65536 (P1)) p1c, P1) :: [] := ⟨_, rfl⟩
  rw [← hcs, ← hns, ← hrs] at hs
  have HC1_f1 : Hid (((w1.heap.size, 0, .slice f1o (nd 4294967296 (P1)) f1c) : Nat × Nat × Value) ∈ cs1) := by show _ ∈ _; rw [hcs]; exact (.tail _ (.tail _ (.tail _ (.tail _ (.tail _ (.tail _ (.tail _ (.tail _ (.tail _ (.tail _ (.tail _ (.tail _ (.tail _ (.tail _ (.tail _ (.tail _ (.tail _ (.tail _ (.tail _ (.tail _ (.tail _ (.tail _ (.tail _ (.tail _ (.tail _ (.tail _ (.tail _ (.tail _ (.tail _ (.head _))))))))))))))))))))))))))))))
  have HC1_f2 : Hid (((w1.heap.size, 1, .slice f2o (nd 4294967296 (Q1)) f2c) : Nat × Nat × Value) ∈ cs1) := by show _ ∈ _; rw [hcs]; exact (.tail _ (.tail _ (.tail _ (.tail _ (.tail _ (.tail _ (.tail _ (.tail _ (.tail _ (.tail _ (.tail _ (.tail _ (.tail _ (.tail _ (.tail _ (.tail _ (.tail _ (.tail _ (.tail _ (.tail _ (.tail _ (.tail _ (.tail _ (.tail _ (.tail _ (.tail _ (.tail _ (.tail _ (.head _)))))))))))))))))))))))))))))
  have HC1_g1 : Hid (((w2.heap.size, 0, .slice g1o (nd 4294967296 (P2)) g1c) : Nat × Nat × Value) ∈ cs1) := by show _ ∈ _; rw [hcs]; exact (.tail _ (.tail _ (.tail _ (.tail _ (.tail _ (.tail _ (.tail _ (.tail _ (.tail _ (.tail _ (.tail _ (.tail _ (.tail _ (.tail _ (.tail _ (.tail _ (.tail _ (.tail _ (.tail _ (.tail _ (.tail _ (.tail _ (.tail _ (.tail _ (.tail _ (.head _))))))))))))))))))))))))))
  have HC1_g2 : Hid (((w2.heap.size, 1, .slice g2o (nd 4294967296 (Q2)) g2c) : Nat × Nat × Value) ∈ cs1) := by show _ ∈ _; rw [hcs]; exact (.tail _ (.tail _ (.tail _ (.tail _ (.tail _ (.tail _ (.tail _ (.tail _ (.tail _ (.tail _ (.tail _ (.tail _ (.tail _ (.tail _ (.tail _ (.tail _ (.tail _ (.tail _ (.tail _ (.tail _ (.tail _ (.tail _ (.tail _ (.tail _ (.head _)))))))))))))))))))))))))
  have HC1_sa1 : Hid (((w4.heap.size, 0, .slice sa1o (nd 4294967296 (S1)) sa1c) : Nat × Nat × Value) ∈ cs1) := by show _ ∈ _; rw [hcs]; exact (.tail _ (.tail _ (.tail _ (.tail _ (.tail _ (.tail _ (.tail _ (.tail _ (.tail _ (.tail _ (.tail _ (.tail _ (.tail _ (.tail _ (.tail _ (.tail _ (.tail _ (.head _))))))))))))))))))
  have HC1_sa2 : Hid (((w4.heap.size, 1, .slice sa2o (nd 4294967296 (S2)) sa2c) : Nat × Nat × Value) ∈ cs1) := by show _ ∈ _; rw [hcs]; exact (.tail _ (.tail _ (.tail _ (.tail _ (.tail _ (.tail _ (.tail _ (.tail _ (.tail _ (.tail _ (.tail _ (.tail _ (.tail _ (.tail _ (.tail _ (.tail _ (.head _)))))))))))))))))
  have HC1_ta1 : Hid (((w5.heap.size, 0, .slice ta1o (nd 4294967296 (T1)) ta1c) : Nat × Nat × Value) ∈ cs1) := by show _ ∈ _; rw [hcs]; exact (.tail _ (.tail _ (.tail _ (.tail _ (.tail _ (.tail _ (.tail _ (.tail _ (.tail _ (.tail _ (.tail _ (.tail _ (.tail _ (.tail _ (.tail _ (.head _))))))))))))))))
  have HC1_ta2 : Hid (((w5.heap.size, 1, .slice ta2o (nd 4294967296 (T2)) ta2c) : Nat × Nat × Value) ∈ cs1) := by show _ ∈ _; rw [hcs]; exact (.tail _ (.tail _ (.tail _ (.tail _ (.tail _ (.tail _ (.tail _ (.tail _ (.tail _ (.tail _ (.tail _ (.tail _ (.tail _ (.tail _ (.head _)))))))))))))))
  have HC1_va1 : Hid (((w7.heap.size, 0, .slice va1o (nd 4294967296 (V1)) va1c) : Nat × Nat × Value) ∈ cs1) := by show _ ∈ _; rw [hcs]; exact (.tail _ (.tail _ (.tail _ (.tail _ (.tail _ (.tail _ (.tail _ (.tail _ (.tail _ (.tail _ (.tail _ (.head _))))))))))))
  have HC1_va2 : Hid (((w7.heap.size, 1, .slice va2o (nd 4294967296 (V2)) va2c) : Nat × Nat × Value) ∈ cs1) := by show _ ∈ _; rw [hcs]; exact (.tail _ (.tail _ (.tail _ (.tail _ (.tail _ (.tail _ (.tail _ (.tail _ (.tail _ (.tail _ (.head _)))))))))))
  have HC1_pa1 : Hid (((w8.heap.size, 0, .slice pa1o (nd 4294967296 (A1)) pa1c) : Nat × Nat × Value) ∈ cs1) := by show _ ∈ _; rw [hcs]; exact (.tail _ (.tail _ (.tail _ (.tail _ (.tail _ (.tail _ (.tail _ (.tail _ (.tail _ (.head _))))))))))
  have HC1_pa2 : Hid (((w8.heap.size, 1, .slice pa2o (nd 4294967296 (A2)) pa2c) : Nat × Nat × Value) ∈ cs1) := by show _ ∈ _; rw [hcs]; exact (.tail _ (.tail _ (.tail _ (.tail _ (.tail _ (.tail _ (.tail _ (.tail _ (.head _)))))))))
  have HC1_qa1 : Hid (((w9.heap.size, 0, .slice qa1o (nd 4294967296 (M1)) qa1c) : Nat × Nat × Value) ∈ cs1) := by show _ ∈ _; rw [hcs]; exact (.tail _ (.tail _ (.tail _ (.tail _ (.tail _ (.tail _ (.tail _ (.head _))))))))
  have HC1_qa2 : Hid (((w9.heap.size, 1, .slice qa2o (nd 4294967296 (M2)) qa2c) : Nat × Nat × Value) ∈ cs1) := by show _ ∈ _; rw [hcs]; exact (.tail _ (.tail _ (.tail _ (.tail _ (.tail _ (.tail _ (.head _)))))))
  have HC1_wa1 : Hid (((w11.heap.size, 0, .slice wa1o (nd 4294967296 (W1)) wa1c) : Nat × Nat × Value) ∈ cs1) := by show _ ∈ _; rw [hcs]; exact (.tail _ (.tail _ (.tail _ (.head _))))
  have HC1_wa2 : Hid (((w11.heap.size, 1, .slice wa2o (nd 4294967296 (W2)) wa2c) : Nat × Nat × Value) ∈ cs1) := by show _ ∈ _; rw [hcs]; exact (.tail _ (.tail _ (.head _)))
  have HC1_ba1 : Hid (((w13.heap.size, 0, .slice ba1o (nd 4294967296 (T1)) ba1c) : Nat × Nat × Value) ∈ cs1) := by show _ ∈ _; rw [hcs]; exact (.tail _ (.head _))
  have HC1_ba2 : Hid (((w13.heap.size, 1, .slice ba2o (nd 4294967296 (T2)) ba2c) : Nat × Nat × Value) ∈ cs1) := by show _ ∈ _; rw [hcs]; exact (.head _)
  have HM1_f1 : Hid (((.slice f1o (nd 4294967296 (P1)) f1c, P1) : Value × Nat) ∈ ns1) := by show _ ∈ _; rw [hns]; exact (.tail _ (.tail _ (.tail _ (.tail _ (.tail _ (.tail _ (.tail _ (.tail _ (.tail _ (.tail _ (.tail _ (.tail _ (.tail _ (.tail _ (.tail _ (.tail _ (.tail _ (.tail _ (.tail _ (.tail _ (.tail _ (.tail _ (.tail _ (.head _))))))))))))))))))))))))
  have HM1_f2 : Hid (((.slice f2o (nd 4294967296 (Q1)) f2c, Q1) : Value × Nat) ∈ ns1) := by show _ ∈ _; rw [hns]; exact (.tail _ (.tail _ (.tail _ (.tail _ (.tail _ (.tail _ (.tail _ (.tail _ (.tail _ (.tail _ (.tail _ (.tail _ (.tail _ (.tail _ (.tail _ (.tail _ (.tail _ (.tail _ (.tail _ (.tail _ (.tail _ (.tail _ (.head _)))))))))))))))))))))))
  have HM1_g1 : Hid (((.slice g1o (nd 4294967296 (P2)) g1c, P2) : Value × Nat) ∈ ns1) := by show _ ∈ _; rw [hns]; exact (.tail _ (.tail _ (.tail _ (.tail _ (.tail _ (.tail _ (.tail _ (.tail _ (.tail _ (.tail _ (.tail _ (.tail _ (.tail _ (.tail _ (.tail _ (.tail _ (.tail _ (.tail _ (.tail _ (.tail _ (.tail _ (.head _))))))))))))))))))))))
  have HM1_g2 : Hid (((.slice g2o (nd 4294967296 (Q2)) g2c, Q2) : Value × Nat) ∈ ns1) := by show _ ∈ _; rw [hns]; exact (.tail _ (.tail _ (.tail _ (.tail _ (.tail _ (.tail _ (.tail _ (.tail _ (.tail _ (.tail _ (.tail _ (.tail _ (.tail _ (.tail _ (.tail _ (.tail _ (.tail _ (.tail _ (.tail _ (.tail _ (.head _)))))))))))))))))))))
  have HM1_sa1 : Hid (((.slice sa1o (nd 4294967296 (S1)) sa1c, S1) : Value × Nat) ∈ ns1) := by show _ ∈ _; rw [hns]; exact (.tail _ (.tail _ (.tail _ (.tail _ (.tail _ (.tail _ (.tail _ (.tail _ (.tail _ (.tail _ (.tail _ (.tail _ (.tail _ (.tail _ (.tail _ (.tail _ (.tail _ (.head _))))))))))))))))))
  have HM1_sa2 : Hid (((.slice sa2o (nd 4294967296 (S2)) sa2c, S2) : Value × Nat) ∈ ns1) := by show _ ∈ _; rw [hns]; exact (.tail _ (.tail _ (.tail _ (.tail _ (.tail _ (.tail _ (.tail _ (.tail _ (.tail _ (.tail _ (.tail _ (.tail _ (.tail _ (.tail _ (.tail _ (.tail _ (.head _)))))))))))))))))
  have HM1_ta1 : Hid (((.slice ta1o (nd 4294967296 (T1)) ta1c, T1) : Value × Nat) ∈ ns1) := by show _ ∈ _; rw [hns]; exact (.tail _ (.tail _ (.tail _ (.tail _ (.tail _ (.tail _ (.tail _ (.tail _ (.tail _ (.tail _ (.tail _ (.tail _ (.tail _ (.tail _ (.tail _ (.head _))))))))))))))))
  have HM1_ta2 : Hid (((.slice ta2o (nd 4294967296 (T2)) ta2c, T2) : Value × Nat) ∈ ns1) := by show _ ∈ _; rw [hns]; exact (.tail _ (.tail _ (.tail _ (.tail _ (.tail _ (.tail _ (.tail _ (.tail _ (.tail _ (.tail _ (.tail _ (.tail _ (.tail _ (.tail _ (.head _)))))))))))))))
  have HM1_va1 : Hid (((.slice va1o (nd 4294967296 (V1)) va1c, V1) : Value × Nat) ∈ ns1) := by show _ ∈ _; rw [hns]; exact (.tail _ (.tail _ (.tail _ (.tail _ (.tail _ (.tail _ (.tail _ (.tail _ (.tail _ (.tail _ (.tail _ (.head _))))))))))))
  have HM1_va2 : Hid (((.slice va2o (nd 4294967296 (V2)) va2c, V2) : Value × Nat) ∈ ns1) := by show _ ∈ _; rw [hns]; exact (.tail _ (.tail _ (.tail _ (.tail _ (.tail _ (.tail _ (.tail _ (.tail _ (.tail _ (.tail _ (.head _)))))))))))
  have HM1_pa1 : Hid (((.slice pa1o (nd 4294967296 (A1)) pa1c, A1) : Value × Nat) ∈ ns1) := by show _ ∈ _; rw [hns]; exact (.tail _ (.tail _ (.tail _ (.tail _ (.tail _ (.tail _ (.tail _ (.tail _ (.tail _ (.head _))))))))))
  have HM1_pa2 : Hid (((.slice pa2o (nd 4294967296 (A2)) pa2c, A2) : Value × Nat) ∈ ns1) := by show _ ∈ _; rw [hns]; exact (.tail _ (.tail _ (.tail _ (.tail _ (.tail _ (.tail _ (.tail _ (.tail _ (.head _)))))))))
  have HM1_qa1 : Hid (((.slice qa1o (nd 4294967296 (M1)) qa1c, M1) : Value × Nat) ∈ ns1) := by show _ ∈ _; rw [hns]; exact (.tail _ (.tail _ (.tail _ (.tail _ (.tail _ (.tail _ (.tail _ (.head _))))))))
  have HM1_qa2 : Hid (((.slice qa2o (nd 4294967296 (M2)) qa2c, M2) : Value × Nat) ∈ ns1) := by show _ ∈ _; rw [hns]; exact (.tail _ (.tail _ (.tail _ (.tail _ (.tail _ (.tail _ (.head _)))))))
  have HM1_wa1 : Hid (((.slice wa1o (nd 4294967296 (W1)) wa1c, W1) : Value × Nat) ∈ ns1) := by show _ ∈ _; rw [hns]; exact (.tail _ (.tail _ (.tail _ (.head _))))
  have HM1_wa2 : Hid (((.slice wa2o (nd 4294967296 (W2)) wa2c, W2) : Value × Nat) ∈ ns1) := by show _ ∈ _; rw [hns]; exact (.tail _ (.tail _ (.head _)))
  have HM1_ba1 : Hid (((.slice ba1o (nd 4294967296 (T1)) ba1c, T1) : Value × Nat) ∈ ns1) := by show _ ∈ _; rw [hns]; exact (.tail _ (.head _))
  have HM1_ba2 : Hid (((.slice ba2o (nd 4294967296 (T2)) ba2c, T2) : Value × Nat) ∈ ns1) := by show _ ∈ _; rw [hns]; exact (.head _)
  have HCL1 : Hid (∀ W', Kq cs1 ns1 rs1 w W' → W'.cell? ⟨w1.heap.size, 0, none⟩ = some (.slice f1o (nd 4294967296 (P1)) f1c) ∧ W'.cell? ⟨w1.heap.size, 1, none⟩ = some (.slice f2o (nd 4294967296 (Q1)) f2c) ∧ W'.cell? ⟨w2.heap.size, 0, none⟩ = some (.slice g1o (nd 4294967296 (P2)) g1c) ∧ W'.cell? ⟨w2.heap.size, 1, none⟩ = some (.slice g2o (nd 4294967296 (Q2)) g2c) ∧ W'.cell? ⟨w4.heap.size, 0, none⟩ = some (.slice sa1o (nd 4294967296 (S1)) sa1c) ∧ W'.cell? ⟨w4.heap.size, 1, none⟩ = some (.slice sa2o (nd 4294967296 (S2)) sa2c) ∧ W'.cell? ⟨w5.heap.size, 0, none⟩ = some (.slice ta1o (nd 4294967296 (T1)) ta1c) ∧ W'.cell? ⟨w5.heap.size, 1, none⟩ = some (.slice ta2o (nd 4294967296 (T2)) ta2c) ∧ W'.cell? ⟨w7.heap.size, 0, none⟩ = some (.slice va1o (nd 4294967296 (V1)) va1c) ∧ W'.cell? ⟨w7.heap.size, 1, none⟩ = some (.slice va2o (nd 4294967296 (V2)) va2c) ∧ W'.cell? ⟨w8.heap.size, 0, none⟩ = some (.slice pa1o (nd 4294967296 (A1)) pa1c) ∧ W'.cell? ⟨w8.heap.size, 1, none⟩ = some (.slice pa2o (nd 4294967296 (A2)) pa2c) ∧ W'.cell? ⟨w9.heap.size, 0, none⟩ = some (.slice qa1o (nd 4294967296 (M1)) qa1c) ∧ W'.cell? ⟨w9.heap.size, 1, none⟩ = some (.slice qa2o (nd 4294967296 (M2)) qa2c) ∧ W'.cell? ⟨w11.heap.size, 0, none⟩ = some (.slice wa1o (nd 4294967296 (W1)) wa1c) ∧ W'.cell? ⟨w11.heap.size, 1, none⟩ = some (.slice wa2o (nd 4294967296 (W2)) wa2c) ∧ W'.cell? ⟨w13.heap.size, 0, none⟩ = some (.slice ba1o (nd 4294967296 (T1)) ba1c) ∧ W'.cell? ⟨w13.heap.size, 1, none⟩ = some (.slice ba2o (nd 4294967296 (T2)) ba2c)) := fun W' h => ⟨h.cell HC1_f1.out, h.cell HC1_f2.out, h.cell HC1_g1.out, h.cell HC1_g2.out, h.cell HC1_sa1.out, h.cell HC1_sa2.out, h.cell HC1_ta1.out, h.cell HC1_ta2.out, h.cell HC1_va1.out, h.cell HC1_va2.out, h.cell HC1_pa1.out, h.cell HC1_pa2.out, h.cell HC1_qa1.out, h.cell HC1_qa2.out, h.cell HC1_wa1.out, h.cell HC1_wa2.out, h.cell HC1_ba1.out, h.cell HC1_ba2.out⟩
  have hs2 := hs.drew
  have hcl := HCL1.out _ hs2
  have hc0 := HCL1.out _ hs
  have HAK1 := Lib.hid (fun W' (h : Kq cs1 ns1 rs1 w W') => awake_Q h)
  clear hcs hns hrs HS13
  clear hs2 hcl hc0
  have hsE := hs.alloc (.cells #[.int .i64 0, .int .i64 0, .int .i64 0, .int .i64 0, .int .i64 0, .int .i64 0, .int .i64 0, .int .i64 0, .int .i64 0] 33)
  have hcE : ∀ k, k < 9 → ((w13.alloc (.cells #[.slice ba1o (nd 4294967296 (T1)) ba1c, .slice ba2o (nd 4294967296 (T2)) ba2c] 26)).alloc (.cells #[.int .i64 0, .int .i64 0, .int .i64 0, .int .i64 0, .int .i64 0, .int .i64 0, .int .i64 0, .int .i64 0, .int .i64 0] 33)).cell? ⟨w13.heap.size + 1, k, none⟩ = some (.int .i64 0) := fun k hk => by
    rw [World.cell?_alloc_at _ _ _ _ (by simp)]
    match k, hk with
    | 0, _ | 1, _ | 2, _ | 3, _ | 4, _ | 5, _ | 6, _ | 7, _ | 8, _ => rfl
  clear hs
  go_wp2
  generalize (w13.alloc (.cells #[.slice ba1o (nd 4294967296 (T1)) ba1c, .slice ba2o (nd 4294967296 (T2)) ba2c] 26)).alloc (.cells #[.int .i64 0, .int .i64 0, .int .i64 0, .int .i64 0, .int .i64 0, .int .i64 0, .int .i64 0, .int .i64 0, .int .i64 0] 33) = WE at *
  have HSE := Lib.hid hsE
  have HCE := Lib.hid hcE
  clear hsE hcE
  go_loop [145] (fun t => ∃ k : Nat, k ≤ 9 ∧ t = .int .i64 k) (fun t => 9 - (intOf t).toNat)
  case atStart => exact ⟨0, by omega, rfl⟩
  case round =>
    obtain ⟨k, hk, rfl⟩ := hrel
    by_cases hlt : k < 9
    · have hce := HCE.out k hlt
      have hk1 : (k : Int) < 9 := by omega
      go_wp2
      go_round
      case rel => exact ⟨k + 1, by omega, by go_num⟩
      case measure => simp [intOf]; omega
    · obtain rfl : k = 9 := by omega
      clear hlt hk
      have HS14 := HSE
      have C1 : Hid (∀ W', Kq cs1 ns1 rs1 w W' → Calls Tryz.prog 18 #[.agg #[.slice ta1o (nd 4294967296 (T1)) ta1c, .slice ta2o (nd 4294967296 (T2)) ta2c], .agg #[.slice va1o (nd 4294967296 (V1)) va1c, .slice va2o (nd 4294967296 (V2)) va2c]] W' fun e w' => e = .returned (.int .i64 0) ∧ Kq cs1 ns1 rs1 w w') := fun W' h => (HC1.out _ _ _ _ _ (h.num _ (HM1_ta1.out)) (h.num _ (HM1_ta2.out)) (h.num _ (HM1_va1.out)) (h.num _ (HM1_va2.out))).mono fun e w' ⟨he, hB⟩ => ⟨he, h.next hB⟩
      have C2 : Hid (∀ W', Kq cs1 ns1 rs1 w W' → Calls Tryz.prog 18 #[.agg #[.slice pa1o (nd 4294967296 (A1)) pa1c, .slice pa2o (nd 4294967296 (A2)) pa2c], .agg #[.slice wa1o (nd 4294967296 (W1)) wa1c, .slice wa2o (nd 4294967296 (W2)) wa2c]] W' fun e w' => e = .returned (.int .i64 0) ∧ Kq cs1 ns1 rs1 w w') := fun W' h => (HC2.out _ _ _ _ _ (h.num _ (HM1_pa1.out)) (h.num _ (HM1_pa2.out)) (h.num _ (HM1_wa1.out)) (h.num _ (HM1_wa2.out))).mono fun e w' ⟨he, hB⟩ => ⟨he, h.next hB⟩
      have C3 : Hid (∀ W', Kq cs1 ns1 rs1 w W' → Calls Tryz.prog 18 #[.agg #[.slice ba1o (nd 4294967296 (T1)) ba1c, .slice ba2o (nd 4294967296 (T2)) ba2c], .agg #[.slice ta1o (nd 4294967296 (T1)) ta1c, .slice ta2o (nd 4294967296 (T2)) ta2c]] W' fun e w' => e = .returned (.int .i64 0) ∧ Kq cs1 ns1 rs1 w w') := fun W' h => (HC3.out _ _ _ _ _ (h.num _ (HM1_ba1.out)) (h.num _ (HM1_ba2.out)) (h.num _ (HM1_ta1.out)) (h.num _ (HM1_ta2.out))).mono fun e w' ⟨he, hB⟩ => ⟨he, h.next hB⟩
      have cta1 := HS14.out.cell (HC1_ta1.out)
      have cta2 := HS14.out.cell (HC1_ta2.out)
      have cva1 := HS14.out.cell (HC1_va1.out)
      have cva2 := HS14.out.cell (HC1_va2.out)
      have cpa1 := HS14.out.cell (HC1_pa1.out)
      have cpa2 := HS14.out.cell (HC1_pa2.out)
      have cwa1 := HS14.out.cell (HC1_wa1.out)
      have cwa2 := HS14.out.cell (HC1_wa2.out)
      have cba1 := HS14.out.cell (HC1_ba1.out)
      have cba2 := HS14.out.cell (HC1_ba2.out)
      go_wp2_with fail
      refine (C1.out _ HS14.out).mono ?_
      rintro e w14 ⟨rfl, hs⟩
      have HS15 := Lib.hid hs
      clear hs HS14
      clear cta1 cta2 cva1 cva2 cpa1 cpa2 cwa1 cwa2 cba1 cba2
      have cta1 := HS15.out.cell (HC1_ta1.out)
      have cta2 := HS15.out.cell (HC1_ta2.out)
      have cpa1 := HS15.out.cell (HC1_pa1.out)
      have cpa2 := HS15.out.cell (HC1_pa2.out)
      have cwa1 := HS15.out.cell (HC1_wa1.out)
      have cwa2 := HS15.out.cell (HC1_wa2.out)
      have cba1 := HS15.out.cell (HC1_ba1.out)
      have cba2 := HS15.out.cell (HC1_ba2.out)
      go_wp2_with fail
      refine (C2.out _ HS15.out).mono ?_
      rintro e w15 ⟨rfl, hs⟩
      have HS16 := Lib.hid hs
      clear hs HS15
      clear cta1 cta2 cpa1 cpa2 cwa1 cwa2 cba1 cba2
      have cta1 := HS16.out.cell (HC1_ta1.out)
      have cta2 := HS16.out.cell (HC1_ta2.out)
      have cba1 := HS16.out.cell (HC1_ba1.out)
      have cba2 := HS16.out.cell (HC1_ba2.out)
      go_wp2_with fail
      refine (C3.out _ HS16.out).mono ?_
      rintro e w16 ⟨rfl, hs⟩
      have HS17 := Lib.hid hs
      clear hs HS16
      clear cta1 cta2 cba1 cba2
      clear HC1 HC2 HC3 C1 C2 C3 HSE HCE
      have cqa1 := HS17.out.cell (HC1_qa1.out)
      have cqa2 := HS17.out.cell (HC1_qa2.out)
      have cg1 := HS17.out.cell (HC1_g1.out)
      have cg2 := HS17.out.cell (HC1_g2.out)
      go_wp2_with fail
      refine (HDZ.out _ _ _ _ _ (HS17.out.num _ (HM1_qa1.out)) (HS17.out.num _ (HM1_qa2.out)) (HS17.out.num _ (HM1_g1.out)) (HS17.out.num _ (HM1_g2.out))).mono ?_
      rintro e wz ⟨rfl, hb⟩
      have hs := (HS17.out.next hb).boxed2 (.slice none 0 0) (.slice none 0 0) 26
      have HS18 := Lib.hid hs
      clear hs hb HS17
      clear cqa1 cqa2 cg1 cg2
      have cg1 := HS18.out.cell (.tail _ (.tail _ (HC1_g1.out)))
      have cg2 := HS18.out.cell (.tail _ (.tail _ (HC1_g2.out)))
      go_wp2_with fail
      refine (HFN.out _ _ _ (HS18.out.num _ (HM1_g1.out)) (HS18.out.num _ (HM1_g2.out))).mono ?_
      rintro e wn ⟨vn, rfl, hvn, hb⟩
      obtain ⟨no, nc, rfl, -⟩ := hvn.shape
      have hs := (HS18.out.next hb).addNum hvn
      have HS19 := Lib.hid hs
      clear hs hb hvn HS18
      clear cg1 cg2
      have HBB := Lib.hid ((HBL.out _ _ (HS19.out.num _ (.head _))).mono fun e w' h => And.intro h.1 (HS19.out.next h.2))
      go_wp2_with fail
      refine (HBB.out).mono ?_
      rintro e w17 ⟨rfl, hs⟩
      have HS20 := Lib.hid hs
      clear hs HS19
      clear HBB
      go_wp2_with fail
      refine (awake_Q HS20.out).mono ?_
      rintro e w18 ⟨rfl, hs⟩
      have HS21 := Lib.hid hs
      clear hs HS20
      go_wp2
      go_ret
      exact ⟨by simp, HS21.out.bel⟩
end Go.Proofs.YteajinpfigejfaaGreatDoor
