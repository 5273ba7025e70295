/- The law NatRoots: the walk. -/
import Derived.Test.YtgidmlffjelpnaaDoorVd
import Derived.Test.YtgidmlffjelpnaaDoorSl
import Derived.Test.YtgidmlffjelpnaaDoorLd
import Derived.Test.YtgidmlffjelpnaaDoorKp
namespace Go.Proofs.YtgidmlffjelpnaaDoor
open Go Go.RowKit Gu

theorem nd_succ16 {a m : Nat} (ha : nd 65536 a ≤ m) : nd 65536 (a + 1) ≤ m + 1 := by
  have h1 := (nd_le (by decide : 2 ≤ 65536)).1 ha
  apply (nd_le (by decide : 2 ≤ 65536)).2
  have h2 : 65536 ^ m * 2 ≤ 65536 ^ m * 65536 := Nat.mul_le_mul_left _ (by decide)
  rw [Nat.pow_succ]; omega
theorem RParse_dec (n : Nat) (W : World) (hn : nd 65536 n ≤ 900) :
    Calls Tryd.prog 13 #[.string ⟨(Lib.decDigits n).toArray⟩] W fun e w' => ∃ r, e = .returned (.tuple #[r, .int .i64 0]) ∧ R w' r n ∧ Below W.heap.size W w' := by
  have hlen := dec_len_le (by decide) (lt_ten (t := 300) (by omega : nd 65536 n ≤ 3 * 300))
  have HP := RParse_yes ⟨(Lib.decDigits n).toArray⟩ W (by rw [← len_data]; exact Nat.le_trans hlen (by decide)) (isNum_dec n)
  have hsv : sval (Lib.decDigits n) = n := sval_dec n
  have hd : (⟨(Lib.decDigits n).toArray⟩ : ByteArray).data.toList = Lib.decDigits n := rfl
  rw [hd, hsv, show fitE n = 0 from if_pos (fit_ok (by omega)), show fitN n = n from if_pos (fit_ok (by omega))] at HP
  exact HP
set_option maxHeartbeats 4000000 in
set_option maxRecDepth 100000 in
theorem natRoots_walk (u0 : Value) (xs0 : List Nat) (w : World) (hu0 : IsRaw w u0 xs0) (hl0 : xs0.length ≤ maxLen) (he : Env w) :
    Calls Tryd.prog 7 #[u0] w fun e w' => e = .returned (.bool true) ∧ Below w.heap.size w w' := by
  have HR0 := Lib.hid (fun W (h : IsRaw W u0 xs0) => Raw_any u0 xs0 64 W h hl0 (by decide))
  have hna := rawN_nd hu0.1 64
  generalize rawN xs0 64 = a at *
  have HU0 := Lib.hid hu0
  have h32a := nd_32 hna
  have HS0 := Lib.hid (Kp.start he)
  obtain ⟨uo0, uc0, rfl, -⟩ := hu0.shape
  clear he hu0 hl0
  go_enter Tryd.func7, Tryd.ntmps7
  go_wp2_with fail
  refine (HR0.out _ HU0.out).mono ?_
  rintro e w1 ⟨cv, rfl, hc, hb⟩
  obtain ⟨co, cc, rfl, -⟩ := hc.shape
  have HS1 := Lib.hid ((HS0.out.next hb).addDig hc)
  clear hc hb HS0 HU0 HR0
  go_wp2_with fail
  refine (made_any _ a _ (HS1.out.dig _ (.head _)) (by omega)).mono ?_
  rintro e w2 ⟨vx, rfl, hx, hb⟩
  obtain ⟨xo, xc, rfl, -⟩ := hx.shape
  have hs := ((HS1.out.next hb).addNum hx).boxed (.slice xo (nd 4294967296 (a)) xc) 26
  have HS2 := Lib.hid hs
  clear hs hb hx HS1
  have cx := HS2.out.cell (.head _)
  go_wp2_with fail
  refine (Sqrt_any _ a _ (HS2.out.num _ (.head _)) (by omega)).mono ?_
  rintro e w3 ⟨sv, s, rfl, hs, hs1, hs2, hb⟩
  obtain ⟨so, sc, rfl, -⟩ := hs.shape
  have HS3 := Lib.hid ((HS2.out.next hb).addNum hs)
  clear hb hs HS2
  clear cx
  have hsa : s ≤ a := by
    rcases Nat.eq_zero_or_pos s with h | h
    · omega
    · exact Nat.le_trans (Nat.le_mul_of_pos_left s h) hs1
  have hs16 : nd 65536 s ≤ 64 := Nat.le_trans (nd_mono (by decide) hsa) hna
  have hs32 := nd_32 hs16
  have hp16 := nd_rmul hs16 hs16
  have hn16 : nd 65536 (s + 1) ≤ 65 := Nat.le_trans (nd_mono (by decide) (show s + 1 ≤ a + 1 by omega)) (nd_succ16 hna)
  have hq16 := nd_rmul hn16 hn16
  have HC1 : Hid (cmpN ((s * s : Nat) : Int) (a : Nat) ≤ 0) := by
    show _ ≤ _
    rcases Nat.lt_or_eq_of_le hs1 with h | h
    · rw [cmpN_lt (by omega)]; decide
    · rw [cmpN_eq (by omega)]; decide
  have HC2 : Hid (cmpN (((s + 1) * (s + 1) : Nat) : Int) (a : Nat) = 1) := by
    show _ = _
    exact cmpN_gt (by omega)
  have HST := Lib.hid (String_any _ s _ (HS3.out.num _ (.head _)) (by omega) HS3.out.env)
  have HPS := Lib.hid (fun W => RParse_dec s W (by omega))
  obtain ⟨S, hS⟩ : ∃ S : ByteArray, S = ⟨(Lib.decDigits s).toArray⟩ := ⟨_, rfl⟩
  rw [← hS] at HST HPS
  have HMS := Lib.hid (fun W v (h : R W v s) => RMul_any v v s s W h h (by omega) (by omega))
  have HMN := Lib.hid (fun W v (h : R W v (s + 1)) => RMul_any v v (s + 1) (s + 1) W h h (by omega) (by omega))
  have HAD := Lib.hid (fun W v u (h : R W v s) (h2 : R W u 1) => RAdd_any v u s 1 W h h2 (by omega) (by have := nd_le_self16 (n := 1) (by decide); omega))
  clear hS hs1 hs2 hsa
  generalize s * s = P at *
  generalize (s + 1) * (s + 1) = Q at *
  generalize s + 1 = N at *
  have HTO := Lib.hid (HST.out.mono fun e w' h => And.intro h.1 (HS3.out.next h.2))
  clear HST
  go_wp2_with fail
  refine (HTO.out).mono ?_
  rintro e w4 ⟨rfl, hs⟩
  have HS4 := Lib.hid hs
  clear hs HS3
  clear HTO
  go_wp2_with fail
  refine (HPS.out _).mono ?_
  rintro e w5 ⟨vt, rfl, ht, hb⟩
  obtain ⟨t0, tc, rfl, -⟩ := ht.shape
  have HS5 := Lib.hid ((HS4.out.next hb).addDig ht)
  clear hb ht HS4 HPS
  go_wp2_with fail
  refine (Of_any 1 _ (by decide)).mono ?_
  rintro e w6 ⟨vi, rfl, hi, hb⟩
  obtain ⟨io, ic, rfl, -⟩ := hi.shape
  have HS6 := Lib.hid ((HS5.out.next hb).addDig hi)
  clear hb hi HS5
  go_wp2_with fail
  refine (HAD.out _ _ _ (HS6.out.dig _ (.tail _ (.head _))) (HS6.out.dig _ (.head _))).mono ?_
  rintro e w7 ⟨vn, rfl, hn, hb⟩
  obtain ⟨no, nc, rfl, -⟩ := hn.shape
  have HS7 := Lib.hid ((HS6.out.next hb).addDig hn)
  clear hb hn HS6
  go_wp2_with fail
  refine (HMS.out _ _ (HS7.out.dig _ (.tail _ (.tail _ (.head _))))).mono ?_
  rintro e w8 ⟨vp, rfl, hp, hb⟩
  obtain ⟨po, pc, rfl, -⟩ := hp.shape
  have HS8 := Lib.hid ((HS7.out.next hb).addDig hp)
  clear hb hp HS7
  have HCM := Lib.hid (RCmp_K HS8.out (.head _) (.tail _ (.tail _ (.tail _ (.tail _ (.head _))))) (by omega) (by omega))
  have hc1 := HC1.out
  generalize cmpN ((P : Nat) : Int) (a : Nat) = k1 at *
  go_wp2_with fail
  refine (HCM.out).mono ?_
  rintro e w9 ⟨rfl, hs⟩
  have HS9 := Lib.hid hs
  clear hs HS8
  clear HCM HC1
  go_wp2_with fail
  refine (HMN.out _ _ (HS9.out.dig _ (.tail _ (.head _)))).mono ?_
  rintro e w10 ⟨vq, rfl, hq, hb⟩
  obtain ⟨qo, qc, rfl, -⟩ := hq.shape
  have HS10 := Lib.hid ((HS9.out.next hb).addDig hq)
  clear hb hq HS9
  have HCM := Lib.hid (RCmp_K HS10.out (.head _) (.tail _ (.tail _ (.tail _ (.tail _ (.tail _ (.head _)))))) (by omega) (by omega))
  rw [HC2.out] at HCM
  go_wp2_with fail
  refine (HCM.out).mono ?_
  rintro e w11 ⟨rfl, hs⟩
  have HS11 := Lib.hid hs
  clear hs HS10
  clear HCM HC2
  go_wp2_with fail
  refine (awake_K HS11.out).mono ?_
  rintro e w12 ⟨rfl, hs⟩
  have HS12 := Lib.hid hs
  clear hs HS11
  go_wp2
  go_ret
  exact ⟨by simp, HS12.out.bel⟩
end Go.Proofs.YtgidmlffjelpnaaDoor
