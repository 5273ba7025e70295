/- The law NatPowers: the walk. -/
import Derived.Test.YtgidmlffjelpnaaDoorVf
import Derived.Test.YtgidmlffjelpnaaDoorSo
import Derived.Test.YtgidmlffjelpnaaDoorKp
namespace Go.Proofs.YtgidmlffjelpnaaDoor
open Go Go.RowKit Gu

theorem RPow_any (v : Value) (a n : Nat) (w : World) (hv : R w v a) (ha : nd 65536 a ≤ 1000) (hn2 : n ≤ 9223372036854775807) :
    Calls Tryd.prog 20 #[v, .int .i64 n] w fun e w' => ∃ r b, e = .returned (.tuple #[r, .bool b]) ∧ b = decide (nd 2 (a ^ n) ≤ 16384) ∧ (b = true → R w' r (a ^ n)) ∧ Below w.heap.size w w' := by
  by_cases h1 : n = 0 ∨ a = 1
  · have e : a ^ n = 1 := by
      rcases h1 with h | h
      · rw [h, Nat.pow_zero]
      · rw [h, Nat.one_pow]
    rw [e]
    exact (RPow_unit v a n w hv ha h1).mono fun e w' ⟨r, he, hr, hB⟩ => ⟨r, true, he, by rw [nd_one2]; decide, fun _ => hr, hB⟩
  · by_cases h2 : a = 0
    · subst h2
      have e : 0 ^ n = 0 := Nat.zero_pow (by omega)
      rw [e]
      exact (RPow_zero v n w hv (by omega)).mono fun e w' ⟨r, he, hr, hB⟩ => ⟨r, true, he, by rw [nd_zero]; decide, fun _ => hr, hB⟩
    · exact RPow_loop v a n w hv ha (by omega) (by omega) hn2
theorem RPow_fit (v : Value) (a n : Nat) (w : World) (hv : R w v a) (ha : nd 65536 a ≤ 1000) (hn2 : n ≤ 9223372036854775807) (hf : nd 2 (a ^ n) ≤ 16384) :
    Calls Tryd.prog 20 #[v, .int .i64 n] w fun e w' => ∃ r, e = .returned (.tuple #[r, .bool true]) ∧ R w' r (a ^ n) ∧ Below w.heap.size w w' :=
  (RPow_any v a n w hv ha hn2).mono fun e w' ⟨r, b, he, hb, hr, hB⟩ => by
    obtain rfl : b = true := by rw [hb]; exact decide_eq_true hf
    exact ⟨r, he, hr rfl, hB⟩
theorem RPow_not (v : Value) (a n : Nat) (w : World) (hv : R w v a) (ha : nd 65536 a ≤ 1000) (hn2 : n ≤ 9223372036854775807) (hf : ¬ nd 2 (a ^ n) ≤ 16384) :
    Calls Tryd.prog 20 #[v, .int .i64 n] w fun e w' => ∃ r, e = .returned (.tuple #[r, .bool false]) ∧ Below w.heap.size w w' :=
  (RPow_any v a n w hv ha hn2).mono fun e w' ⟨r, b, he, hb, hr, hB⟩ => by
    obtain rfl : b = false := by rw [hb]; exact decide_eq_false hf
    exact ⟨r, he, hB⟩
theorem pow_huge {a n : Nat} (ha : 2 ≤ a) (hn : 16384 < n) : 16384 < nd 2 (a ^ n) := by
  have h2 : 2 ^ n ≤ a ^ n := Nat.pow_le_pow_left ha n
  rcases Nat.lt_or_ge 16384 (nd 2 (a ^ n)) with h | h
  · exact h
  · have h4 := (nd_le (B := 2) (by decide)).1 (show nd 2 (a ^ n) ≤ n by omega)
    omega
theorem fit_small16 {x : Nat} (h : nd 2 x ≤ 16384) : nd 4294967296 x ≤ 100000 ∧ nd 65536 x ≤ 1000000 := by
  obtain ⟨K, hK, h⟩ : ∃ K, K ≤ 16384 ∧ nd 2 x ≤ K := ⟨_, Nat.le_refl _, h⟩
  have h1 := nd_two_up' h
  have h2 := nd_two_16 h
  omega
theorem bits_raw {a m : Nat} (h : nd 65536 a ≤ m) (hm : m ≤ 1000) : nd 2 a ≤ 30000 := by have := fit_len h; omega
set_option maxHeartbeats 4000000 in
set_option maxRecDepth 100000 in
theorem natPowers_neg (u0 : Value) (xs0 : List Nat) (n : Int) (w : World) (hu0 : IsRaw w u0 xs0) (hl0 : xs0.length ≤ maxLen) (hn : n < 0) (he : Env w) :
    Calls Tryd.prog 4 #[u0, .int .i64 n] w fun e w' => e = .returned (.bool true) ∧ Below w.heap.size w w' := by
  have HR0 := Lib.hid (fun W (h : IsRaw W u0 xs0) => Raw_any u0 xs0 8 W h hl0 (by decide))
  have hna := rawN_nd hu0.1 8
  generalize rawN xs0 8 = a at *
  have HU0 := Lib.hid hu0
  have h32a := nd_32 hna
  have HS0 := Lib.hid (Kp.start he)
  obtain ⟨uo0, uc0, rfl, -⟩ := hu0.shape
  clear he hu0 hl0
  go_enter Tryd.func4, Tryd.ntmps4
  go_wp2_with fail
  refine (HR0.out _ HU0.out).mono ?_
  rintro e w1 ⟨cv, rfl, hc, hb⟩
  obtain ⟨co, cc, rfl, -⟩ := hc.shape
  have HS1 := Lib.hid ((HS0.out.next hb).addDig hc)
  clear hc hb HS0 HU0 HR0
  go_wp2_with fail
  refine (made_any _ a _ (HS1.out.dig _ (.head _)) (by omega)).mono ?_
  rintro e w2 ⟨vx, rfl, hx, hb⟩
  obtain ⟨xo, xc, rfl, -⟩ := hx.shape
  have hs := ((HS1.out.next hb).addNum hx).boxed (.slice xo (nd 4294967296 (a)) xc) 26
  have HS2 := Lib.hid hs
  clear hs hb hx HS1
  have cx := HS2.out.cell (.head _)
  go_wp2_with fail
  refine (Pow_neg _ a n _ (HS2.out.num _ (.head _)) hn).mono ?_
  rintro e w3 ⟨rfl, hb⟩
  have hs := ((HS2.out.next hb).addNum (n := 0) (IsN.zero _ _ _ none 0)).boxed (.slice none 0 0) 26
  have HS3 := Lib.hid hs
  clear hs hb HS2
  clear cx
  have hto := told_err2 _ (.slice none 0 0) 2 _ (HS3.out.num _ (.head _)) (by decide) HS3.out.env
  have HTO := Lib.hid (hto.mono fun e w' h => And.intro h.1 (HS3.out.next h.2))
  clear hto
  have cy := HS3.out.cell (.head _)
  go_wp2_with fail
  refine (HTO.out).mono ?_
  rintro e w4 ⟨rfl, hs⟩
  have HS4 := Lib.hid hs
  clear hs HS3
  clear cy HTO
  go_wp2_with fail
  refine (awake_K HS4.out).mono ?_
  rintro e w5 ⟨rfl, hs⟩
  have HS5 := Lib.hid hs
  clear hs HS4
  go_wp2
  go_ret
  exact ⟨by simp, HS5.out.bel⟩
set_option maxHeartbeats 4000000 in
set_option maxRecDepth 100000 in
theorem natPowers_far (u0 : Value) (xs0 : List Nat) (n : Nat) (w : World) (hu0 : IsRaw w u0 xs0) (hl0 : xs0.length ≤ maxLen) (hn : n ≤ 9223372036854775807) (hfar : 16384 < n) (h2 : 2 ≤ rawN xs0 8) (he : Env w) :
    Calls Tryd.prog 4 #[u0, .int .i64 n] w fun e w' => e = .returned (.bool true) ∧ Below w.heap.size w w' := by
  have HR0 := Lib.hid (fun W (h : IsRaw W u0 xs0) => Raw_any u0 xs0 8 W h hl0 (by decide))
  have hna := rawN_nd hu0.1 8
  generalize rawN xs0 8 = a at *
  have HU0 := Lib.hid hu0
  have h32a := nd_32 hna
  have HS0 := Lib.hid (Kp.start he)
  obtain ⟨uo0, uc0, rfl, -⟩ := hu0.shape
  clear he hu0 hl0
  have hn0 : ¬ ((n : Int) < 0) := by omega
  have ha2 := bits_raw hna (by decide)
  have HPW := Lib.hid (fun W v (h : D W v a) => Pow_any v a n W h ha2 hn)
  have hh := pow_huge h2 hfar
  rw [show fitE (a ^ n) = 3 from if_neg (by omega), show fitN (a ^ n) = 0 from if_neg (by omega)] at HPW
  have h16 : (16384 : Int) < n := by omega
  have HCM := Lib.hid (fun W v u (h : R W v a) (h2 : R W u 1) => RCmp_any v u a 1 W h h2 (by omega) (by have := nd_le_self16 (n := 1) (by decide); omega))
  rw [show cmpN ((a : Nat) : Int) ((1 : Nat) : Int) = 1 from cmpN_gt (by omega)] at HCM
  clear hh h2
  go_enter Tryd.func4, Tryd.ntmps4
  go_wp2_with fail
  refine (HR0.out _ HU0.out).mono ?_
  rintro e w1 ⟨cv, rfl, hc, hb⟩
  obtain ⟨co, cc, rfl, -⟩ := hc.shape
  have HS1 := Lib.hid ((HS0.out.next hb).addDig hc)
  clear hc hb HS0 HU0 HR0
  go_wp2_with fail
  refine (made_any _ a _ (HS1.out.dig _ (.head _)) (by omega)).mono ?_
  rintro e w2 ⟨vx, rfl, hx, hb⟩
  obtain ⟨xo, xc, rfl, -⟩ := hx.shape
  have hs := ((HS1.out.next hb).addNum hx).boxed (.slice xo (nd 4294967296 (a)) xc) 26
  have HS2 := Lib.hid hs
  clear hs hb hx HS1
  have cx := HS2.out.cell (.head _)
  go_wp2_with fail
  refine (HPW.out _ _ (HS2.out.num _ (.head _))).mono ?_
  rintro e w3 ⟨vy, rfl, hy, hb⟩
  obtain ⟨yo, yc, rfl, -⟩ := hy.shape
  have hs := ((HS2.out.next hb).addNum hy).boxed (.slice yo (nd 4294967296 (0)) yc) 26
  have HS3 := Lib.hid hs
  clear hs hb hy HS2
  clear cx
  go_wp2_with fail
  refine (Of_any 1 _ (by decide)).mono ?_
  rintro e w4 ⟨vi, rfl, hi, hb⟩
  obtain ⟨io, ic, rfl, -⟩ := hi.shape
  have HS4 := Lib.hid ((HS3.out.next hb).addDig hi)
  clear hb hi HS3
  go_wp2_with fail
  refine (HCM.out _ _ _ (HS4.out.dig _ (.tail _ (.head _))) (HS4.out.dig _ (.head _))).mono ?_
  rintro e w5 ⟨rfl, q, rfl⟩
  have hs := HS4.out.drewN q
  have HS5 := Lib.hid hs
  clear hs HS4 HCM
  have hto := told_err2 _ (.slice none 0 0) 3 _ (HS5.out.num _ (.head _)) (by decide) HS5.out.env
  have HTO := Lib.hid (hto.mono fun e w' h => And.intro h.1 (HS5.out.next h.2))
  clear hto
  have cy := HS5.out.cell (.head _)
  go_wp2_with fail
  refine (HTO.out).mono ?_
  rintro e w6 ⟨rfl, hs⟩
  have HS6 := Lib.hid hs
  clear hs HS5
  clear cy HTO
  go_wp2_with fail
  refine (awake_K HS6.out).mono ?_
  rintro e w7 ⟨rfl, hs⟩
  have HS7 := Lib.hid hs
  clear hs HS6
  go_wp2
  go_ret
  exact ⟨by simp, HS7.out.bel⟩
set_option maxHeartbeats 4000000 in
set_option maxRecDepth 100000 in
theorem natPowers_fit (u0 : Value) (xs0 : List Nat) (n : Nat) (w : World) (hu0 : IsRaw w u0 xs0) (hl0 : xs0.length ≤ maxLen) (hn : n ≤ 9223372036854775807) (hsm : n ≤ 16384) (hfit : nd 2 (rawN xs0 8 ^ n) ≤ 16384) (he : Env w) :
    Calls Tryd.prog 4 #[u0, .int .i64 n] w fun e w' => e = .returned (.bool true) ∧ Below w.heap.size w w' := by
  have HR0 := Lib.hid (fun W (h : IsRaw W u0 xs0) => Raw_any u0 xs0 8 W h hl0 (by decide))
  have hna := rawN_nd hu0.1 8
  generalize rawN xs0 8 = a at *
  have HU0 := Lib.hid hu0
  have h32a := nd_32 hna
  have HS0 := Lib.hid (Kp.start he)
  obtain ⟨uo0, uc0, rfl, -⟩ := hu0.shape
  clear he hu0 hl0
  have hn0 : ¬ ((n : Int) < 0) := by omega
  have ha2 := bits_raw hna (by decide)
  have HPW := Lib.hid (fun W v (h : D W v a) => Pow_any v a n W h ha2 hn)
  rw [show fitE (a ^ n) = 0 from if_pos hfit, show fitN (a ^ n) = a ^ n from if_pos hfit] at HPW
  have HRP := Lib.hid (fun W v (h : R W v a) => RPow_fit v a n W h (by omega) hn hfit)
  obtain ⟨hp32, hp16⟩ := fit_small16 hfit
  clear hfit
  generalize a ^ n = P at *
  have h16 : ¬ (16384 : Int) < n := by omega
  go_enter Tryd.func4, Tryd.ntmps4
  go_wp2_with fail
  refine (HR0.out _ HU0.out).mono ?_
  rintro e w1 ⟨cv, rfl, hc, hb⟩
  obtain ⟨co, cc, rfl, -⟩ := hc.shape
  have HS1 := Lib.hid ((HS0.out.next hb).addDig hc)
  clear hc hb HS0 HU0 HR0
  go_wp2_with fail
  refine (made_any _ a _ (HS1.out.dig _ (.head _)) (by omega)).mono ?_
  rintro e w2 ⟨vx, rfl, hx, hb⟩
  obtain ⟨xo, xc, rfl, -⟩ := hx.shape
  have hs := ((HS1.out.next hb).addNum hx).boxed (.slice xo (nd 4294967296 (a)) xc) 26
  have HS2 := Lib.hid hs
  clear hs hb hx HS1
  have cx := HS2.out.cell (.head _)
  go_wp2_with fail
  refine (HPW.out _ _ (HS2.out.num _ (.head _))).mono ?_
  rintro e w3 ⟨vy, rfl, hy, hb⟩
  obtain ⟨yo, yc, rfl, -⟩ := hy.shape
  have hs := ((HS2.out.next hb).addNum hy).boxed (.slice yo (nd 4294967296 (P)) yc) 26
  have HS3 := Lib.hid hs
  clear hs hb hy HS2
  clear cx
  go_wp2_with fail
  refine (HRP.out _ _ (HS3.out.dig _ (.head _))).mono ?_
  rintro e w4 ⟨vp, rfl, hp, hb⟩
  obtain ⟨po, pc, rfl, -⟩ := hp.shape
  have HS4 := Lib.hid ((HS3.out.next hb).addDig hp)
  clear hb hp HS3
  have hto := told_is _ _ (P) _ (HS4.out.num _ (.head _)) (HS4.out.dig _ (.head _)) (by omega) (by omega) HS4.out.env
  have HTO := Lib.hid (hto.mono fun e w' h => And.intro h.1 (HS4.out.next h.2))
  clear hto
  have cy := HS4.out.cell (.head _)
  go_wp2_with fail
  refine (HTO.out).mono ?_
  rintro e w5 ⟨rfl, hs⟩
  have HS5 := Lib.hid hs
  clear hs HS4
  clear cy HTO
  go_wp2_with fail
  refine (awake_K HS5.out).mono ?_
  rintro e w6 ⟨rfl, hs⟩
  have HS6 := Lib.hid hs
  clear hs HS5
  go_wp2
  go_ret
  exact ⟨by simp, HS6.out.bel⟩
set_option maxHeartbeats 4000000 in
set_option maxRecDepth 100000 in
theorem natPowers_one (u0 : Value) (xs0 : List Nat) (n : Nat) (w : World) (hu0 : IsRaw w u0 xs0) (hl0 : xs0.length ≤ maxLen) (hn : n ≤ 9223372036854775807) (hfar : 16384 < n) (h1 : rawN xs0 8 ≤ 1) (hfit : nd 2 (rawN xs0 8 ^ n) ≤ 16384) (he : Env w) :
    Calls Tryd.prog 4 #[u0, .int .i64 n] w fun e w' => e = .returned (.bool true) ∧ Below w.heap.size w w' := by
  have HR0 := Lib.hid (fun W (h : IsRaw W u0 xs0) => Raw_any u0 xs0 8 W h hl0 (by decide))
  have hna := rawN_nd hu0.1 8
  generalize rawN xs0 8 = a at *
  have HU0 := Lib.hid hu0
  have h32a := nd_32 hna
  have HS0 := Lib.hid (Kp.start he)
  obtain ⟨uo0, uc0, rfl, -⟩ := hu0.shape
  clear he hu0 hl0
  have hn0 : ¬ ((n : Int) < 0) := by omega
  have ha2 := bits_raw hna (by decide)
  have HPW := Lib.hid (fun W v (h : D W v a) => Pow_any v a n W h ha2 hn)
  rw [show fitE (a ^ n) = 0 from if_pos hfit, show fitN (a ^ n) = a ^ n from if_pos hfit] at HPW
  have HRP := Lib.hid (fun W v (h : R W v a) => RPow_fit v a n W h (by omega) hn hfit)
  obtain ⟨hp32, hp16⟩ := fit_small16 hfit
  clear hfit
  generalize a ^ n = P at *
  have h16 : (16384 : Int) < n := by omega
  have HCM := Lib.hid (fun W v u (h : R W v a) (h2 : R W u 1) => RCmp_any v u a 1 W h h2 (by omega) (by have := nd_le_self16 (n := 1) (by decide); omega))
  have hk : cmpN ((a : Nat) : Int) ((1 : Nat) : Int) ≤ 0 := by
    rcases Nat.lt_or_eq_of_le h1 with h | h
    · rw [cmpN_lt (by omega)]; decide
    · rw [cmpN_eq (by omega)]; decide
  generalize cmpN ((a : Nat) : Int) ((1 : Nat) : Int) = kk at *
  clear h1
  go_enter Tryd.func4, Tryd.ntmps4
  go_wp2_with fail
  refine (HR0.out _ HU0.out).mono ?_
  rintro e w1 ⟨cv, rfl, hc, hb⟩
  obtain ⟨co, cc, rfl, -⟩ := hc.shape
  have HS1 := Lib.hid ((HS0.out.next hb).addDig hc)
  clear hc hb HS0 HU0 HR0
  go_wp2_with fail
  refine (made_any _ a _ (HS1.out.dig _ (.head _)) (by omega)).mono ?_
  rintro e w2 ⟨vx, rfl, hx, hb⟩
  obtain ⟨xo, xc, rfl, -⟩ := hx.shape
  have hs := ((HS1.out.next hb).addNum hx).boxed (.slice xo (nd 4294967296 (a)) xc) 26
  have HS2 := Lib.hid hs
  clear hs hb hx HS1
  have cx := HS2.out.cell (.head _)
  go_wp2_with fail
  refine (HPW.out _ _ (HS2.out.num _ (.head _))).mono ?_
  rintro e w3 ⟨vy, rfl, hy, hb⟩
  obtain ⟨yo, yc, rfl, -⟩ := hy.shape
  have hs := ((HS2.out.next hb).addNum hy).boxed (.slice yo (nd 4294967296 (P)) yc) 26
  have HS3 := Lib.hid hs
  clear hs hb hy HS2
  clear cx
  go_wp2_with fail
  refine (Of_any 1 _ (by decide)).mono ?_
  rintro e w4 ⟨vi, rfl, hi, hb⟩
  obtain ⟨io, ic, rfl, -⟩ := hi.shape
  have HS4 := Lib.hid ((HS3.out.next hb).addDig hi)
  clear hb hi HS3
  go_wp2_with fail
  refine (HCM.out _ _ _ (HS4.out.dig _ (.tail _ (.head _))) (HS4.out.dig _ (.head _))).mono ?_
  rintro e w5 ⟨rfl, q, rfl⟩
  have hs := HS4.out.drewN q
  have HS5 := Lib.hid hs
  clear hs HS4 HCM
  go_wp2_with fail
  refine (HRP.out _ _ (HS5.out.dig _ (.tail _ (.head _)))).mono ?_
  rintro e w6 ⟨vp, rfl, hp, hb⟩
  obtain ⟨po, pc, rfl, -⟩ := hp.shape
  have HS6 := Lib.hid ((HS5.out.next hb).addDig hp)
  clear hb hp HS5
  have hto := told_is _ _ (P) _ (HS6.out.num _ (.head _)) (HS6.out.dig _ (.head _)) (by omega) (by omega) HS6.out.env
  have HTO := Lib.hid (hto.mono fun e w' h => And.intro h.1 (HS6.out.next h.2))
  clear hto
  have cy := HS6.out.cell (.head _)
  go_wp2_with fail
  refine (HTO.out).mono ?_
  rintro e w7 ⟨rfl, hs⟩
  have HS7 := Lib.hid hs
  clear hs HS6
  clear cy HTO
  go_wp2_with fail
  refine (awake_K HS7.out).mono ?_
  rintro e w8 ⟨rfl, hs⟩
  have HS8 := Lib.hid hs
  clear hs HS7
  go_wp2
  go_ret
  exact ⟨by simp, HS8.out.bel⟩
set_option maxHeartbeats 4000000 in
set_option maxRecDepth 100000 in
theorem natPowers_not (u0 : Value) (xs0 : List Nat) (n : Nat) (w : World) (hu0 : IsRaw w u0 xs0) (hl0 : xs0.length ≤ maxLen) (hn : n ≤ 9223372036854775807) (hsm : n ≤ 16384) (hfit : ¬ nd 2 (rawN xs0 8 ^ n) ≤ 16384) (he : Env w) :
    Calls Tryd.prog 4 #[u0, .int .i64 n] w fun e w' => e = .returned (.bool true) ∧ Below w.heap.size w w' := by
  have HR0 := Lib.hid (fun W (h : IsRaw W u0 xs0) => Raw_any u0 xs0 8 W h hl0 (by decide))
  have hna := rawN_nd hu0.1 8
  generalize rawN xs0 8 = a at *
  have HU0 := Lib.hid hu0
  have h32a := nd_32 hna
  have HS0 := Lib.hid (Kp.start he)
  obtain ⟨uo0, uc0, rfl, -⟩ := hu0.shape
  clear he hu0 hl0
  have hn0 : ¬ ((n : Int) < 0) := by omega
  have ha2 := bits_raw hna (by decide)
  have HPW := Lib.hid (fun W v (h : D W v a) => Pow_any v a n W h ha2 hn)
  rw [show fitE (a ^ n) = 3 from if_neg hfit, show fitN (a ^ n) = 0 from if_neg hfit] at HPW
  have HRP := Lib.hid (fun W v (h : R W v a) => RPow_not v a n W h (by omega) hn hfit)
  clear hfit
  have h16 : ¬ (16384 : Int) < n := by omega
  go_enter Tryd.func4, Tryd.ntmps4
  go_wp2_with fail
  refine (HR0.out _ HU0.out).mono ?_
  rintro e w1 ⟨cv, rfl, hc, hb⟩
  obtain ⟨co, cc, rfl, -⟩ := hc.shape
  have HS1 := Lib.hid ((HS0.out.next hb).addDig hc)
  clear hc hb HS0 HU0 HR0
  go_wp2_with fail
  refine (made_any _ a _ (HS1.out.dig _ (.head _)) (by omega)).mono ?_
  rintro e w2 ⟨vx, rfl, hx, hb⟩
  obtain ⟨xo, xc, rfl, -⟩ := hx.shape
  have hs := ((HS1.out.next hb).addNum hx).boxed (.slice xo (nd 4294967296 (a)) xc) 26
  have HS2 := Lib.hid hs
  clear hs hb hx HS1
  have cx := HS2.out.cell (.head _)
  go_wp2_with fail
  refine (HPW.out _ _ (HS2.out.num _ (.head _))).mono ?_
  rintro e w3 ⟨vy, rfl, hy, hb⟩
  obtain ⟨yo, yc, rfl, -⟩ := hy.shape
  have hs := ((HS2.out.next hb).addNum hy).boxed (.slice yo (nd 4294967296 (0)) yc) 26
  have HS3 := Lib.hid hs
  clear hs hb hy HS2
  clear cx
  go_wp2_with fail
  refine (HRP.out _ _ (HS3.out.dig _ (.head _))).mono ?_
  rintro e w4 ⟨pv, rfl, hb⟩
  have hs := HS3.out.next hb
  have HS4 := Lib.hid hs
  clear hs hb HS3 HRP
  have hto := told_err2 _ (.slice none 0 0) 3 _ (HS4.out.num _ (.head _)) (by decide) HS4.out.env
  have HTO := Lib.hid (hto.mono fun e w' h => And.intro h.1 (HS4.out.next h.2))
  clear hto
  have cy := HS4.out.cell (.head _)
  go_wp2_with fail
  refine (HTO.out).mono ?_
  rintro e w5 ⟨rfl, hs⟩
  have HS5 := Lib.hid hs
  clear hs HS4
  clear cy HTO
  go_wp2_with fail
  refine (awake_K HS5.out).mono ?_
  rintro e w6 ⟨rfl, hs⟩
  have HS6 := Lib.hid hs
  clear hs HS5
  go_wp2
  go_ret
  exact ⟨by simp, HS6.out.bel⟩
theorem natPowers_walk (u : Value) (xs : List Nat) (n : Int) (w : World) (hu : IsRaw w u xs) (hl : xs.length ≤ maxLen) (hn : n ≤ 9223372036854775807) (he : Env w) :
    Calls Tryd.prog 4 #[u, .int .i64 n] w fun e w' => e = .returned (.bool true) ∧ Below w.heap.size w w' := by
  by_cases h0 : n < 0
  · exact natPowers_neg u xs n w hu hl h0 he
  · obtain ⟨m, rfl⟩ : ∃ m : Nat, n = m := ⟨n.toNat, by omega⟩
    have hm : m ≤ 9223372036854775807 := by omega
    by_cases hs : m ≤ 16384
    · by_cases hf : nd 2 (rawN xs 8 ^ m) ≤ 16384
      · exact natPowers_fit u xs m w hu hl hm hs hf he
      · exact natPowers_not u xs m w hu hl hm hs hf he
    · by_cases h2 : 2 ≤ rawN xs 8
      · exact natPowers_far u xs m w hu hl hm (by omega) h2 he
      · have h1 : rawN xs 8 ≤ 1 := by omega
        refine natPowers_one u xs m w hu hl hm (by omega) h1 ?_ he
        have h3 : rawN xs 8 ^ m ≤ 1 := by have := Nat.pow_le_pow_left h1 m; rwa [Nat.one_pow] at this
        have h4 := nd_mono (B := 2) (by decide) h3
        rw [nd_one2] at h4
        omega
end Go.Proofs.YtgidmlffjelpnaaDoor
