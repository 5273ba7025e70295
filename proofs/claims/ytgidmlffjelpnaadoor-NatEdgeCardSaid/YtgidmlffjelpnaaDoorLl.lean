/- The law NatEdge: the walk. -/
import Derived.Test.YtgidmlffjelpnaaDoorLd
import Derived.Test.YtgidmlffjelpnaaDoorVb
namespace Go.Proofs.YtgidmlffjelpnaaDoor
open Go Go.RowKit Gu

theorem nd2_pow (n : Nat) : nd 2 (2 ^ n) = n + 1 := nd_eq (by decide) (Nat.le_refl _) (Nat.pow_lt_pow_right (by decide) (Nat.lt_succ_self n))
theorem nd2_low (n : Nat) : nd 2 (2 ^ n - 1) = n := by
  cases n with
  | zero => exact nd_zero 2
  | succ m =>
    have h : 2 ^ (m + 1) = 2 * 2 ^ m := by rw [Nat.pow_succ, Nat.mul_comm]
    have h0 : 0 < 2 ^ m := Nat.pow_pos (by decide)
    exact nd_eq (by decide) (by omega) (by omega)
theorem nd2_full (n : Nat) : nd 2 (2 ^ n + (2 ^ n - 1)) = n + 1 := by
  have h : 2 ^ (n + 1) = 2 * 2 ^ n := by rw [Nat.pow_succ, Nat.mul_comm]
  have h0 : 0 < 2 ^ n := Nat.pow_pos (by decide)
  exact nd_eq (by decide) (by omega) (by omega)
theorem bitN_pow (m : Nat) (i : Int) (hi : i = m) : bitN (2 ^ m) i = 1 := by
  subst hi
  unfold bitN
  rw [if_neg (by omega), Int.toNat_natCast]
  unfold dg
  rw [Nat.div_self (Nat.pow_pos (by decide))]
theorem Lsh_one (n : Nat) (v : Value) (W : World) (hv : D W v 1) (hn : n < 16384) :
    Calls Tryd.prog 39 #[.agg #[v], .int .i64 n] W fun e w' => ∃ r, e = .returned (.tuple #[.agg #[r], .int .i64 0]) ∧ D w' r (2 ^ n) ∧ Below W.heap.size W w' := by
  have h1 : nd 2 1 = 1 := nd_eq (k := 0) (by decide) (by decide) (by decide)
  have h := Lsh_any v 1 n W hv (by omega) (by omega)
  rw [show lshE 1 n = 0 from by unfold lshE; rw [if_neg (by decide), if_pos (by omega)], show lshN 1 n = 2 ^ n from by unfold lshN; rw [if_pos (by omega), Nat.one_mul]] at h
  exact h
theorem BitLen_to {v : Value} {n : Nat} (W : World) (m : Int) (hv : D W v n) (hn : nd 2 n ≤ 40000) (hm : (nd 2 n : Int) = m) :
    Calls Tryd.prog 33 #[.agg #[v]] W fun e w' => e = .returned (.int .i64 m) ∧ Below W.heap.size W w' := by
  subst hm
  exact BitLen_any v n W hv (Nat.le_trans (nd_two_up hn) (by decide))
section
variable {cs : List (Nat × Value)} {ns rs : List (Value × Nat)} {w W : World}
theorem BitLen_toK {v : Value} {n : Nat} (m : Int) (hk : Kp cs ns rs w W) (hv : (v, n) ∈ ns) (hn : nd 2 n ≤ 40000) (hm : (nd 2 n : Int) = m) :
    Calls Tryd.prog 33 #[.agg #[v]] W fun e w' => e = .returned (.int .i64 m) ∧ Kp cs ns rs w w' :=
  (BitLen_to W m (hk.num _ hv) hn hm).mono fun _ _ ⟨he, hB⟩ => ⟨he, hk.next hB⟩
theorem Bit_toK {v : Value} {n : Nat} (i : Int) (hk : Kp cs ns rs w W) (hv : (v, n) ∈ ns) (hn : nd 2 n ≤ 40000) (hi : i ≤ 9223372036854775807) (hm : bitN n i = 1) :
    Calls Tryd.prog 41 #[.agg #[v], .int .i64 i] W fun e w' => e = .returned (.int .i64 1) ∧ Kp cs ns rs w w' := by
  have h := Bit_any v n i W (hk.num _ hv) hi (Nat.le_trans (nd_two_up hn) (by decide))
  rw [hm] at h
  exact h.mono fun _ _ ⟨he, hB⟩ => ⟨he, hk.next hB⟩
end
set_option maxHeartbeats 4000000 in
theorem natEdge_bad (n k : Int) (w : World) (hn : n ≤ 9223372036854775807) (hk : k ≤ 9223372036854775807) (hb : n < 0 ∨ k < 0 ∨ 16384 ≤ n ∨ 16384 ≤ k) (he : Env w) :
    Calls Tryd.prog 10 #[.int .i64 n, .int .i64 k] w fun e w' => e = .returned (.bool true) ∧ Below w.heap.size w w' := by
  have HAW := Lib.hid (awake_any w he)
  clear he
  have H : n < 0 ∨ (¬ n < 0 ∧ k < 0) ∨ (¬ n < 0 ∧ ¬ k < 0 ∧ 16384 ≤ n) ∨ (¬ n < 0 ∧ ¬ k < 0 ∧ ¬ 16384 ≤ n ∧ 16384 ≤ k) := by omega
  clear hb
  rcases H with h1 | ⟨h1, h2⟩ | ⟨h1, h2, h3⟩ | ⟨h1, h2, h3, h4⟩
  all_goals
    go_enter Tryd.func10, Tryd.ntmps10
    go_wp2_with fail
    refine HAW.out.mono ?_
    rintro e w1 ⟨rfl, hb⟩
    have HB := Lib.hid hb
    clear hb
    go_wp2
    go_ret
    exact ⟨by simp, HB.out⟩
set_option maxHeartbeats 4000000 in
set_option maxRecDepth 100000 in
theorem natEdge_good (n k : Nat) (w : World) (hn : n < 16384) (hk : k < 16384) (he : Env w) :
    Calls Tryd.prog 10 #[.int .i64 n, .int .i64 k] w fun e w' => e = .returned (.bool true) ∧ Below w.heap.size w w' := by
  have HS0 := Lib.hid (Kp.start he)
  have HNE := Lib.hid (New_any 1 w (by decide))
  obtain ⟨A, hA⟩ : ∃ A, A = 2 ^ n := ⟨_, rfl⟩
  obtain ⟨B, hB⟩ : ∃ B, B = 2 ^ k := ⟨_, rfl⟩
  obtain ⟨L, hL⟩ : ∃ L, L = A - 1 := ⟨_, rfl⟩
  obtain ⟨F, hF⟩ : ∃ F, F = A + L := ⟨_, rfl⟩
  obtain ⟨P, hP⟩ : ∃ P, P = A * B := ⟨_, rfl⟩
  have hA2 : nd 2 A = n + 1 := by rw [hA]; exact nd2_pow n
  have hB2 : nd 2 B = k + 1 := by rw [hB]; exact nd2_pow k
  have hL2 : nd 2 L = n := by rw [hL, hA]; exact nd2_low n
  have hF2 : nd 2 F = n + 1 := by rw [hF, hL, hA]; exact nd2_full n
  have hP2 : nd 2 P = n + k + 1 := by rw [hP, hA, hB, ← Nat.pow_add]; exact nd2_pow _
  have hA0 : 1 ≤ A := by rw [hA]; exact Nat.pow_pos (by decide)
  have hT2 : nd 2 (F + 1) = n + 2 := by
    rw [hF, hL, show A + (A - 1) + 1 = 2 ^ (n + 1) from by rw [Nat.pow_succ, ← hA]; omega]; exact nd2_pow _
  have hA3 := nd_two_up (Nat.le_of_eq hA2)
  have hB3 := nd_two_up (Nat.le_of_eq hB2)
  have hL3 := nd_two_up (Nat.le_of_eq hL2)
  have hF3 := nd_two_up (Nat.le_of_eq hF2)
  have h132' : nd 4294967296 1 ≤ 1 := nd_small (by decide)
  have h132 : nd 4294967296 1 ≤ 1048576 := by omega
  have HLA := Lib.hid (fun v W (h : D W v 1) => Lsh_one n v W h hn)
  have HLB := Lib.hid (fun v W (h : D W v 1) => Lsh_one k v W h hk)
  rw [← hA] at HLA
  rw [← hB] at HLB
  have HM := Lib.hid (fun v u W (h1 : D W v A) (h2 : D W u B) => NMul_any v u A B W h1 h2 (by omega) (by omega))
  rw [← hP] at HM
  have HSB := Lib.hid (fun v u W (h1 : D W v A) (h2 : D W u 1) => NSub_any v u A 1 W h1 h2 (by omega) (by omega))
  rw [← hL, show subE A 1 = 0 from if_neg (by omega)] at HSB
  have HAD := Lib.hid (fun v u W (h1 : D W v A) (h2 : D W u L) => Add_any v u A L W h1 h2 (by omega) (by omega))
  rw [← hF, show fitE F = 0 from if_pos (by omega), show fitN F = F from if_pos (by omega)] at HAD
  have HTO := Lib.hid (fun v u W (h1 : D W v F) (h2 : D W u 1) => Add_any v u F 1 W h1 h2 (by omega) (by omega))
  have HBA : Hid ((nd 2 A : Int) = n + 1) := by show _ = _; omega
  have HBL : Hid ((nd 2 L : Int) = n) := by show _ = _; omega
  have HBF : Hid ((nd 2 F : Int) = n + 1) := by show _ = _; omega
  have HBP : Hid ((nd 2 P : Int) = n + k + 1) := by show _ = _; omega
  have HLE : Hid (nd 2 A ≤ 40000 ∧ nd 2 L ≤ 40000 ∧ nd 2 F ≤ 40000 ∧ nd 2 P ≤ 40000) := by show _ ∧ _; omega
  have HBT : Hid (bitN P ((n : Int) + k) = 1) := by
    show _ = _
    rw [hP, hA, hB, ← Nat.pow_add]; exact bitN_pow _ _ (by omega)
  have HG : Hid ((16384 < n + k + 1 ∧ fitE P = 3) ∨ (¬ 16384 < n + k + 1 ∧ fitE P = 0 ∧ fitN P = P)) := by
    show _ ∨ _
    by_cases h : 16384 < n + k + 1
    · exact .inl ⟨h, if_neg (by omega)⟩
    · exact .inr ⟨h, if_pos (by omega), if_pos (by omega)⟩
  have HJ : Hid ((n = 16383 ∧ fitE (F + 1) = 3) ∨ (n < 16383 ∧ fitE (F + 1) = 0)) := by
    show _ ∨ _
    by_cases h : n = 16383
    · exact .inl ⟨h, if_neg (by omega)⟩
    · exact .inr ⟨by omega, if_pos (by omega)⟩
  generalize fitE P = ge at *
  generalize fitN P = Pn at *
  generalize fitE (F + 1) = je at *
  generalize fitN (F + 1) = Tn at *
  clear he hA hB hL hF hP hA2 hB2 hL2 hF2 hP2 hT2 hA3 hB3 hL3 hF3
  have h1 : ¬ ((n : Int) < 0) := by omega
  have h2 : ¬ ((k : Int) < 0) := by omega
  have h3 : ¬ ((16384 : Int) ≤ n) := by omega
  have h4 : ¬ ((16384 : Int) ≤ k) := by omega
  go_enter Tryd.func10, Tryd.ntmps10
  go_wp2_with fail
  refine (HNE.out).mono ?_
  rintro e w1 ⟨vo, rfl, ho, hb⟩
  obtain ⟨oo, oc, rfl, -⟩ := ho.shape
  have hs := ((HS0.out.next hb).addNum ho).boxed (.slice oo (nd 4294967296 (1)) oc) 26
  have HS1 := Lib.hid hs
  clear hs hb ho HS0
  have co := HS1.out.cell (.head _)
  go_wp2_with fail
  refine (HLA.out _ _ (HS1.out.num _ (.head _))).mono ?_
  rintro e w2 ⟨vx, rfl, hx, hb⟩
  obtain ⟨xo, xc, rfl, -⟩ := hx.shape
  have hs := ((HS1.out.next hb).addNum hx).boxed (.slice xo (nd 4294967296 (A)) xc) 26
  have HS2 := Lib.hid hs
  clear hs hb hx HS1
  clear co
  have co := HS2.out.cell (.tail _ (.head _))
  go_wp2_with fail
  refine (HLB.out _ _ (HS2.out.num _ (.tail _ (.head _)))).mono ?_
  rintro e w3 ⟨vy, rfl, hy, hb⟩
  obtain ⟨yo, yc, rfl, -⟩ := hy.shape
  have hs := ((HS2.out.next hb).addNum hy).boxed (.slice yo (nd 4294967296 (B)) yc) 26
  have HS3 := Lib.hid hs
  clear hs hb hy HS2
  clear co
  have cx := HS3.out.cell (.tail _ (.head _))
  have cy := HS3.out.cell (.head _)
  go_wp2_with fail
  refine (HM.out _ _ _ (HS3.out.num _ (.tail _ (.head _))) (HS3.out.num _ (.head _))).mono ?_
  rintro e w4 ⟨vp, rfl, hp, hb⟩
  obtain ⟨po, pc, rfl, -⟩ := hp.shape
  have hs := ((HS3.out.next hb).addNum hp).boxed (.slice po (nd 4294967296 (Pn)) pc) 26
  have HS4 := Lib.hid hs
  clear hs hb hp HS3
  clear cx cy
  have cx := HS4.out.cell (.tail _ (.tail _ (.head _)))
  have co := HS4.out.cell (.tail _ (.tail _ (.tail _ (.head _))))
  go_wp2_with fail
  refine (HSB.out _ _ _ (HS4.out.num _ (.tail _ (.tail _ (.head _)))) (HS4.out.num _ (.tail _ (.tail _ (.tail _ (.head _)))))).mono ?_
  rintro e w5 ⟨vl, rfl, hl, hb⟩
  obtain ⟨lo, lc, rfl, -⟩ := hl.shape
  have hs := ((HS4.out.next hb).addNum hl).boxed (.slice lo (nd 4294967296 (L)) lc) 26
  have HS5 := Lib.hid hs
  clear hs hb hl HS4
  clear cx co
  have HC := Lib.hid (BitLen_toK _ HS5.out (.tail _ (.tail _ (.tail _ (.head _)))) HLE.out.1 HBA.out)
  have cx := HS5.out.cell (.tail _ (.tail _ (.tail _ (.head _))))
  have cl := HS5.out.cell (.head _)
  go_wp2_with fail
  refine (HC.out).mono ?_
  rintro e w6 ⟨rfl, hs⟩
  have HS6 := Lib.hid hs
  clear hs HS5
  clear cx cl HC
  have HC := Lib.hid (BitLen_toK _ HS6.out (.head _) HLE.out.2.1 HBL.out)
  have cl := HS6.out.cell (.head _)
  go_wp2_with fail
  refine (HC.out).mono ?_
  rintro e w7 ⟨rfl, hs⟩
  have HS7 := Lib.hid hs
  clear hs HS6
  clear cl HC
  rcases HG.out with ⟨hg1, hg2⟩ | ⟨hg1, hg2, hg3⟩
  · skip
    subst hg2
    have hb1 : (16384 : Int) < (n : Int) + k + 1 := by omega
    have cx := HS7.out.cell (.tail _ (.tail _ (.tail _ (.head _))))
    have cl := HS7.out.cell (.head _)
    go_wp2_with fail
    refine (HAD.out _ _ _ (HS7.out.num _ (.tail _ (.tail _ (.tail _ (.head _))))) (HS7.out.num _ (.head _))).mono ?_
    rintro e w8 ⟨vf, rfl, hf, hb⟩
    obtain ⟨fo, fc, rfl, -⟩ := hf.shape
    have hs := ((HS7.out.next hb).addNum hf).boxed (.slice fo (nd 4294967296 (F)) fc) 26
    have HS8 := Lib.hid hs
    clear hs hb hf HS7
    clear cx cl
    have cf := HS8.out.cell (.head _)
    have co := HS8.out.cell (.tail _ (.tail _ (.tail _ (.tail _ (.tail _ (.head _))))))
    go_wp2_with fail
    refine (HTO.out _ _ _ (HS8.out.num _ (.head _)) (HS8.out.num _ (.tail _ (.tail _ (.tail _ (.tail _ (.tail _ (.head _)))))))).mono ?_
    rintro e w9 ⟨vtt, rfl, htt, hb⟩
    obtain ⟨tto, ttc, rfl, -⟩ := htt.shape
    have hs := ((HS8.out.next hb).addNum htt).boxed (.slice tto (nd 4294967296 (Tn)) ttc) 26
    have HS9 := Lib.hid hs
    clear hs hb htt HS8
    clear cf co
    rcases HJ.out with ⟨hj, ej⟩ | ⟨hj, ej⟩
    · skip
      subst ej
      have hq : ((n : Int) + 1 == 16384) = true := by simp; omega
      have HC := Lib.hid (BitLen_toK _ HS9.out (.tail _ (.head _)) HLE.out.2.2.1 HBF.out)
      have cf := HS9.out.cell (.tail _ (.head _))
      go_wp2_with fail
      refine (HC.out).mono ?_
      rintro e w10 ⟨rfl, hs⟩
      have HS10 := Lib.hid hs
      clear hs HS9
      clear cf HC
      go_wp2_with fail
      refine (awake_K HS10.out).mono ?_
      rintro e w11 ⟨rfl, hs⟩
      have HS11 := Lib.hid hs
      clear hs HS10
      go_wp2
      go_ret
      exact ⟨by simp [hq], HS11.out.bel⟩
    · skip
      subst ej
      have hq : ((n : Int) + 1 == 16384) = false := by simp; omega
      have HC := Lib.hid (BitLen_toK _ HS9.out (.tail _ (.head _)) HLE.out.2.2.1 HBF.out)
      have cf := HS9.out.cell (.tail _ (.head _))
      go_wp2_with fail
      refine (HC.out).mono ?_
      rintro e w10 ⟨rfl, hs⟩
      have HS10 := Lib.hid hs
      clear hs HS9
      clear cf HC
      go_wp2_with fail
      refine (awake_K HS10.out).mono ?_
      rintro e w11 ⟨rfl, hs⟩
      have HS11 := Lib.hid hs
      clear hs HS10
      go_wp2
      go_ret
      exact ⟨by simp [hq], HS11.out.bel⟩
  · skip
    subst hg2 hg3
    have hb1 : ¬ (16384 : Int) < (n : Int) + k + 1 := by omega
    have HC := Lib.hid (BitLen_toK _ HS7.out (.tail _ (.head _)) HLE.out.2.2.2 HBP.out)
    have cp := HS7.out.cell (.tail _ (.head _))
    go_wp2_with fail
    refine (HC.out).mono ?_
    rintro e w8 ⟨rfl, hs⟩
    have HS8 := Lib.hid hs
    clear hs HS7
    clear cp HC
    have HC := Lib.hid (Bit_toK _ HS8.out (.tail _ (.head _)) HLE.out.2.2.2 (by omega) HBT.out)
    have cp := HS8.out.cell (.tail _ (.head _))
    go_wp2_with fail
    refine (HC.out).mono ?_
    rintro e w9 ⟨rfl, hs⟩
    have HS9 := Lib.hid hs
    clear hs HS8
    clear cp HC
    have cx := HS9.out.cell (.tail _ (.tail _ (.tail _ (.head _))))
    have cl := HS9.out.cell (.head _)
    go_wp2_with fail
    refine (HAD.out _ _ _ (HS9.out.num _ (.tail _ (.tail _ (.tail _ (.head _))))) (HS9.out.num _ (.head _))).mono ?_
    rintro e w10 ⟨vf, rfl, hf, hb⟩
    obtain ⟨fo, fc, rfl, -⟩ := hf.shape
    have hs := ((HS9.out.next hb).addNum hf).boxed (.slice fo (nd 4294967296 (F)) fc) 26
    have HS10 := Lib.hid hs
    clear hs hb hf HS9
    clear cx cl
    have cf := HS10.out.cell (.head _)
    have co := HS10.out.cell (.tail _ (.tail _ (.tail _ (.tail _ (.tail _ (.head _))))))
    go_wp2_with fail
    refine (HTO.out _ _ _ (HS10.out.num _ (.head _)) (HS10.out.num _ (.tail _ (.tail _ (.tail _ (.tail _ (.tail _ (.head _)))))))).mono ?_
    rintro e w11 ⟨vtt, rfl, htt, hb⟩
    obtain ⟨tto, ttc, rfl, -⟩ := htt.shape
    have hs := ((HS10.out.next hb).addNum htt).boxed (.slice tto (nd 4294967296 (Tn)) ttc) 26
    have HS11 := Lib.hid hs
    clear hs hb htt HS10
    clear cf co
    rcases HJ.out with ⟨hj, ej⟩ | ⟨hj, ej⟩
    · skip
      subst ej
      have hq : ((n : Int) + 1 == 16384) = true := by simp; omega
      have HC := Lib.hid (BitLen_toK _ HS11.out (.tail _ (.head _)) HLE.out.2.2.1 HBF.out)
      have cf := HS11.out.cell (.tail _ (.head _))
      go_wp2_with fail
      refine (HC.out).mono ?_
      rintro e w12 ⟨rfl, hs⟩
      have HS12 := Lib.hid hs
      clear hs HS11
      clear cf HC
      go_wp2_with fail
      refine (awake_K HS12.out).mono ?_
      rintro e w13 ⟨rfl, hs⟩
      have HS13 := Lib.hid hs
      clear hs HS12
      go_wp2
      go_ret
      exact ⟨by simp [hq], HS13.out.bel⟩
    · skip
      subst ej
      have hq : ((n : Int) + 1 == 16384) = false := by simp; omega
      have HC := Lib.hid (BitLen_toK _ HS11.out (.tail _ (.head _)) HLE.out.2.2.1 HBF.out)
      have cf := HS11.out.cell (.tail _ (.head _))
      go_wp2_with fail
      refine (HC.out).mono ?_
      rintro e w12 ⟨rfl, hs⟩
      have HS12 := Lib.hid hs
      clear hs HS11
      clear cf HC
      go_wp2_with fail
      refine (awake_K HS12.out).mono ?_
      rintro e w13 ⟨rfl, hs⟩
      have HS13 := Lib.hid hs
      clear hs HS12
      go_wp2
      go_ret
      exact ⟨by simp [hq], HS13.out.bel⟩
end Go.Proofs.YtgidmlffjelpnaaDoor
