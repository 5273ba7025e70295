/- The law NatPascal: the walk. -/
import Derived.Test.YtmbgnkgjmmhncabDoorVc
import Derived.Test.YtmbgnkgjmmhncabDoorKp
namespace Go.Proofs.YtmbgnkgjmmhncabDoor
open Go Go.RowKit Gu

theorem Bin_nat (n k : Nat) (w : World) (hn : n ≤ 4096) (hk : k ≤ 100000) (a b : Int) (ha : a = n) (hb : b = k) :
    Calls Tryd.prog 10 #[.int .i64 a, .int .i64 b] w fun e w' => ∃ r, e = .returned (.tuple #[.agg #[r], .int .i64 0]) ∧ D w' r (pascalN n k) ∧ Below w.heap.size w w' := by
  subst ha; subst hb
  have h := Binomial_any n k w (by omega) (by omega)
  have hok : ¬ ((n : Int) < 0 ∨ (4096 : Int) < n ∨ (k : Int) < 0) := by omega
  rw [show binE n k = 0 from if_neg hok, show binN n k = pascalN (n : Int).toNat (k : Int).toNat from if_neg hok, Int.toNat_natCast, Int.toNat_natCast] at h
  exact h
set_option maxHeartbeats 4000000 in
theorem natPascal_bad (n k : Int) (w : World) (hn : n ≤ 9223372036854775807) (hk : k ≤ 9223372036854775807) (hb : n < 0 ∨ 4096 ≤ n ∨ k < 0 ∨ 4096 < k) (he : Env w) :
    Calls Tryd.prog 3 #[.int .i64 n, .int .i64 k] w fun e w' => e = .returned (.bool true) ∧ Below w.heap.size w w' := by
  have HAW := Lib.hid (awake_any w he)
  clear he
  by_cases h1 : n < 0
  · clear hb
    go_enter Tryd.func3, Tryd.ntmps3
    go_wp2_with fail
    refine HAW.out.mono ?_
    rintro e w1 ⟨rfl, hb⟩
    have HB := Lib.hid hb
    clear hb
    go_wp2
    go_ret
    exact ⟨by simp, HB.out⟩
  · by_cases h2 : 4096 ≤ n
    · clear hb
      go_enter Tryd.func3, Tryd.ntmps3
      go_wp2_with fail
      refine HAW.out.mono ?_
      rintro e w1 ⟨rfl, hb⟩
      have HB := Lib.hid hb
      clear hb
      go_wp2
      go_ret
      exact ⟨by simp, HB.out⟩
    · by_cases h3 : k < 0
      · clear hb
        go_enter Tryd.func3, Tryd.ntmps3
        go_wp2_with fail
        refine HAW.out.mono ?_
        rintro e w1 ⟨rfl, hb⟩
        have HB := Lib.hid hb
        clear hb
        go_wp2
        go_ret
        exact ⟨by simp, HB.out⟩
      · have h4 : 4096 < k := by omega
        clear hb
        go_enter Tryd.func3, Tryd.ntmps3
        go_wp2_with fail
        refine HAW.out.mono ?_
        rintro e w1 ⟨rfl, hb⟩
        have HB := Lib.hid hb
        clear hb
        go_wp2
        go_ret
        exact ⟨by simp, HB.out⟩
set_option maxHeartbeats 4000000 in
set_option maxRecDepth 100000 in
theorem natPascal_good (n k : Nat) (w : World) (hn : n < 4096) (hk : k ≤ 4096) (he : Env w) :
    Calls Tryd.prog 3 #[.int .i64 n, .int .i64 k] w fun e w' => e = .returned (.bool true) ∧ Below w.heap.size w w' := by
  have HS0 := Lib.hid (Kp.start he)
  have c1 := pascalN_nd (n := n) (k := k) (by omega)
  have c2 := pascalN_nd (n := n) (k := k + 1) (by omega)
  have c3 := pascalN_nd (n := n + 1) (k := k + 1) (by omega)
  have HX := Lib.hid (fun W => Bin_nat (n + 1) (k + 1) W (by omega) (by omega) ((n : Int) + 1) ((k : Int) + 1) (by omega) (by omega))
  have HY := Lib.hid (fun W => Bin_nat n k W (by omega) (by omega) (n : Int) (k : Int) rfl rfl)
  have HZ := Lib.hid (fun W => Bin_nat n (k + 1) W (by omega) (by omega) (n : Int) ((k : Int) + 1) rfl (by omega))
  have HA := Lib.hid (fun W v u (h1 : D W v (pascalN n k)) (h2 : D W u (pascalN n (k + 1))) => Add_any v u _ _ W h1 h2 (by omega) (by omega))
  rw [← pascalN_succ, show fitE (pascalN (n + 1) (k + 1)) = 0 from if_pos (by omega), show fitN (pascalN (n + 1) (k + 1)) = pascalN (n + 1) (k + 1) from if_pos (by omega)] at HA
  have hc32 : nd 4294967296 (pascalN (n + 1) (k + 1)) ≤ 1048576 := by omega
  clear he c1 c2 c3
  generalize pascalN (n + 1) (k + 1) = N1 at *
  generalize pascalN n (k + 1) = N2 at *
  generalize pascalN n k = N3 at *
  have h1 : ¬ ((n : Int) < 0) := by omega
  have h2 : ¬ ((4096 : Int) ≤ n) := by omega
  have h3 : ¬ ((k : Int) < 0) := by omega
  have h4 : ¬ ((4096 : Int) < k) := by omega
  go_enter Tryd.func3, Tryd.ntmps3
  go_wp2_with fail
  refine (HX.out _).mono ?_
  rintro e w1 ⟨vx, rfl, hx, hb⟩
  obtain ⟨xo, xc, rfl, -⟩ := hx.shape
  have hs := ((HS0.out.next hb).addNum hx).boxed (.slice xo (nd 4294967296 (N1)) xc) 26
  have HS1 := Lib.hid hs
  clear hs hb hx HS0
  go_wp2_with fail
  refine (HY.out _).mono ?_
  rintro e w2 ⟨vy, rfl, hy, hb⟩
  obtain ⟨yo, yc, rfl, -⟩ := hy.shape
  have hs := ((HS1.out.next hb).addNum hy).boxed (.slice yo (nd 4294967296 (N3)) yc) 26
  have HS2 := Lib.hid hs
  clear hs hb hy HS1
  go_wp2_with fail
  refine (HZ.out _).mono ?_
  rintro e w3 ⟨vz, rfl, hz, hb⟩
  obtain ⟨zo, zc, rfl, -⟩ := hz.shape
  have hs := ((HS2.out.next hb).addNum hz).boxed (.slice zo (nd 4294967296 (N2)) zc) 26
  have HS3 := Lib.hid hs
  clear hs hb hz HS2
  have cy := HS3.out.cell (.tail _ (.head _))
  have cz := HS3.out.cell (.head _)
  go_wp2_with fail
  refine (HA.out _ _ _ (HS3.out.num _ (.tail _ (.head _))) (HS3.out.num _ (.head _))).mono ?_
  rintro e w4 ⟨vss, rfl, hss, hb⟩
  obtain ⟨sso, ssc, rfl, -⟩ := hss.shape
  have hs := ((HS3.out.next hb).addNum hss).boxed (.slice sso (nd 4294967296 (N1)) ssc) 26
  have HS4 := Lib.hid hs
  clear hs hb hss HS3
  clear cy cz
  have hcm := NCmp_K HS4.out (.tail _ (.tail _ (.tail _ (.head _)))) (.head _) hc32 hc32
  rw [cmpN_eq rfl] at hcm
  have HCM := Lib.hid hcm
  clear hcm
  have cx := HS4.out.cell (.tail _ (.tail _ (.tail _ (.head _))))
  have css := HS4.out.cell (.head _)
  go_wp2_with fail
  refine (HCM.out).mono ?_
  rintro e w5 ⟨rfl, hs⟩
  have HS5 := Lib.hid hs
  clear hs HS4
  clear cx css HCM
  go_wp2_with fail
  refine (awake_K HS5.out).mono ?_
  rintro e w6 ⟨rfl, hs⟩
  have HS6 := Lib.hid hs
  clear hs HS5
  go_wp2
  go_ret
  exact ⟨by simp, HS6.out.bel⟩
end Go.Proofs.YtmbgnkgjmmhncabDoor
