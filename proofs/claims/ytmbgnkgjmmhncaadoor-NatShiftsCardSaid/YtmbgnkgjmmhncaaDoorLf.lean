/- The law NatShifts: the walk. -/
import Derived.Test.YtmbgnkgjmmhncaaDoorVb
import Derived.Test.YtmbgnkgjmmhncaaDoorSf
namespace Go.Proofs.YtmbgnkgjmmhncaaDoor
open Go Go.RowKit Gu

section
variable {cs : List (Nat × Value)} {ns rs : List (Value × Nat)} {w W : World}
theorem nd_two_up16 {a m : Nat} (ha : nd 2 a ≤ m) : nd 65536 a ≤ m := by
  have h1 := (nd_le (by decide : 2 ≤ 2)).1 ha
  exact (nd_le (by decide : 2 ≤ 65536)).2 (Nat.lt_of_lt_of_le h1 (Nat.pow_le_pow_left (by decide) _))
theorem tErr {u r : Value} {n : Nat} {f : Int} (hm : (u, n) ∈ ns) (hn : n = 0) (hf : f ≠ 0) (hk : Kp cs ns rs w W) :
    Calls Tryd.prog 15 #[.agg #[u], .int .i64 f, r, .int .i64 f] W fun e w' => e = .returned (.bool true) ∧ Kp cs ns rs w w' := by
  subst hn
  exact (told_err2 _ r f W (hk.num _ hm) hf hk.env).mono fun _ _ ⟨he, hB⟩ => ⟨he, hk.next hB⟩
theorem tOk {u r : Value} {n : Nat} (hm : (u, n) ∈ ns) (hn : nd 4294967296 n ≤ 100000) (hn2 : nd 65536 n ≤ 1000000) (hk : Kp cs ns rs w W) (hr : R W r n) :
    Calls Tryd.prog 15 #[.agg #[u], .int .i64 0, r, .int .i64 0] W fun e w' => e = .returned (.bool true) ∧ Kp cs ns rs w w' :=
  (told_is _ r n W (hk.num _ hm) hr hn hn2 hk.env).mono fun _ _ ⟨he, hB⟩ => ⟨he, hk.next hB⟩
end
set_option maxHeartbeats 4000000 in
set_option maxRecDepth 100000 in
theorem natShifts_neg (u : Value) (xs : List Nat) (n : Int) (w : World) (hu : IsRaw w u xs) (hl1 : xs.length ≤ maxLen) (hn : n < 0) (he : Env w) :
    Calls Tryd.prog 6 #[u, .int .i64 n] w fun e w' => e = .returned (.bool true) ∧ Below w.heap.size w w' := by
  have HR1 := Lib.hid (Raw_any u xs 1024 w hu hl1 (by decide))
  have hna := rawN_nd hu.1 1024
  generalize rawN xs 1024 = a at *
  have HS0 := Lib.hid (Kp.start he)
  obtain ⟨uo, uc, rfl, -⟩ := hu.shape
  have ha32 := nd_32 hna
  clear hu he hl1
  go_enter Tryd.func6, Tryd.ntmps6
  go_wp2_with fail
  refine HR1.out.mono ?_
  rintro e w1 ⟨cv, rfl, hc, hb1⟩
  obtain ⟨co, cc, rfl, -⟩ := hc.shape
  have HS1 := Lib.hid ((HS0.out.next hb1).addDig hc)
  clear hc hb1 HS0
  go_wp2_with fail
  refine (made_any _ a w1 (HS1.out.dig _ (.head _)) hna).mono ?_
  rintro e w2 ⟨xv, rfl, hx, hb2⟩
  obtain ⟨xo, xc, rfl, -⟩ := hx.shape
  have HS2 := Lib.hid (((HS1.out.next hb2).addNum hx).boxed (.slice xo (nd 4294967296 a) xc) 28)
  clear hx hb2 HS1
  go_wp2_with fail
  refine (Lsh_neg _ a n _ (HS2.out.num _ (.head _)) hn).mono ?_
  rintro e w3 ⟨rfl, hb3⟩
  have HS3 := Lib.hid (((HS2.out.next hb3).addNum (n := 0) (IsN.zero _ _ _ none 0)).boxed (.slice none 0 0) 28)
  have x3 := HS3.out.cell (.tail _ (.head _))
  clear hb3 HS2
  go_wp2_with fail
  refine (Rsh_neg _ a n _ (HS3.out.num _ (.tail _ (.head _))) hn).mono ?_
  rintro e w4 ⟨rfl, hb4⟩
  have HS4 := Lib.hid ((HS3.out.next hb4).boxed (.slice none 0 0) 28)
  clear hb4 HS3 x3
  have y4 := HS4.out.cell (.tail _ (.head _))
  have z4 := HS4.out.cell (.head _)
  go_wp2_with fail
  refine (tErr (W := _) (f := 2) (.head _) rfl (by decide) HS4.out).mono ?_
  rintro e w5 ⟨rfl, hs⟩
  have HS5 := Lib.hid hs
  clear hs HS4 y4 z4
  have z5 := HS5.out.cell (.head _)
  go_wp2_with fail
  refine (tErr (W := _) (f := 2) (.head _) rfl (by decide) HS5.out).mono ?_
  rintro e w6 ⟨rfl, hs⟩
  have HS6 := Lib.hid hs
  clear hs HS5 z5
  go_wp2_with fail
  refine (awake_K HS6.out).mono ?_
  rintro e w7 ⟨rfl, hs⟩
  have HS7 := Lib.hid hs
  clear hs
  go_wp2
  go_ret
  exact ⟨by simp, HS7.out.bel⟩
set_option maxHeartbeats 4000000 in
set_option maxRecDepth 100000 in
theorem natShifts_pos (u : Value) (xs : List Nat) (n : Nat) (w : World) (hu : IsRaw w u xs) (hl1 : xs.length ≤ maxLen) (hn : n ≤ 9223372036854775807) (he : Env w) :
    Calls Tryd.prog 6 #[u, .int .i64 n] w fun e w' => e = .returned (.bool true) ∧ Below w.heap.size w w' := by
  have HR1 := Lib.hid (Raw_any u xs 1024 w hu hl1 (by decide))
  have hna := rawN_nd hu.1 1024
  generalize rawN xs 1024 = a at *
  have HS0 := Lib.hid (Kp.start he)
  obtain ⟨uo, uc, rfl, -⟩ := hu.shape
  have ha32 := nd_32 hna
  have ha2 := fit_ok hna
  have hn0 : ¬ ((n : Int) < 0) := by omega
  clear hu he hl1
  go_enter Tryd.func6, Tryd.ntmps6
  go_wp2_with fail
  refine HR1.out.mono ?_
  rintro e w1 ⟨cv, rfl, hc, hb1⟩
  obtain ⟨co, cc, rfl, -⟩ := hc.shape
  have HS1 := Lib.hid ((HS0.out.next hb1).addDig hc)
  clear hc hb1 HS0
  go_wp2_with fail
  refine (made_any _ a w1 (HS1.out.dig _ (.head _)) hna).mono ?_
  rintro e w2 ⟨xv, rfl, hx, hb2⟩
  obtain ⟨xo, xc, rfl, -⟩ := hx.shape
  have HS2 := Lib.hid (((HS1.out.next hb2).addNum hx).boxed (.slice xo (nd 4294967296 a) xc) 28)
  clear hx hb2 HS1
  have HLE : Hid (lshE a n = lshE a n) := rfl
  obtain ⟨lE, hlE⟩ : ∃ l, l = lshE a n := ⟨_, rfl⟩
  obtain ⟨lN, hlN⟩ : ∃ l, l = lshN a n := ⟨_, rfl⟩
  obtain ⟨q, hq⟩ : ∃ q, q = a / 2 ^ n := ⟨_, rfl⟩
  have hql : q ≤ a := by rw [hq]; exact Nat.div_le_self _ _
  have HLS := Lib.hid (Lsh_any _ a n _ (HS2.out.num _ (.head _)) ha2 hn)
  have HRS := Lib.hid (fun W v (h : D W v a) => Rsh_any v a n W h (by omega) hn)
  have HSR := Lib.hid (fun W v (h : R W v a) => RShr_any v a n W h (by omega) hn)
  rw [← hlE, ← hlN] at HLS
  rw [← hq] at HRS HSR
  have HEE := Lib.hid hlE; have HNN := Lib.hid hlN
  have hq32 := Nat.le_trans (nd_mono (B := 4294967296) (by decide) hql) ha32
  have hq16 := Nat.le_trans (nd_mono (B := 65536) (by decide) hql) hna
  clear hlE hlN hq HLE hql
  go_wp2_with fail
  refine HLS.out.mono ?_
  rintro e w3 ⟨yv, rfl, hy, hb3⟩
  obtain ⟨yo, yc, rfl, -⟩ := hy.shape
  have HS3 := Lib.hid (((HS2.out.next hb3).addNum hy).boxed (.slice yo (nd 4294967296 lN) yc) 28)
  have x3 := HS3.out.cell (.tail _ (.head _))
  clear hb3 HS2 hy HLS
  go_wp2_with fail
  refine (HRS.out _ _ (HS3.out.num _ (.tail _ (.head _)))).mono ?_
  rintro e w4 ⟨zv, rfl, hz, hb4⟩
  obtain ⟨zo, zc, rfl, -⟩ := hz.shape
  have HS4 := Lib.hid (((HS3.out.next hb4).addNum hz).boxed (.slice zo (nd 4294967296 q) zc) 28)
  clear hb4 hz HS3 HRS x3
  have y4 := HS4.out.cell (.tail _ (.head _))
  have z4 := HS4.out.cell (.head _)
  have hs := HS4.out
  obtain ⟨cs, hcs⟩ : ∃ cs : List (Nat × Value), cs = [(w4.heap.size, .slice zo (nd 4294967296 q) zc), (w3.heap.size, .slice yo (nd 4294967296 lN) yc), (w2.heap.size, .slice xo (nd 4294967296 a) xc)] := ⟨_, rfl⟩
  obtain ⟨ns, hns⟩ : ∃ ns : List (Value × Nat), ns = [(.slice zo (nd 4294967296 q) zc, q), (.slice yo (nd 4294967296 lN) yc, lN), (.slice xo (nd 4294967296 a) xc, a)] := ⟨_, rfl⟩
  obtain ⟨rs, hrs⟩ : ∃ rs : List (Value × Nat), rs = [(.slice co (nd 65536 a) cc, a)] := ⟨_, rfl⟩
  rw [← hcs, ← hns, ← hrs] at hs
  have HCL : Hid (∀ W, Kp cs ns rs w W → W.cell? ⟨w3.heap.size, 0, none⟩ = some (.slice yo (nd 4294967296 lN) yc) ∧ W.cell? ⟨w4.heap.size, 0, none⟩ = some (.slice zo (nd 4294967296 q) zc)) := fun W h => by
    rw [hcs] at h
    exact ⟨h.cell (.tail _ (.head _)), h.cell (.head _)⟩
  have HMC : Hid ((Value.slice co (nd 65536 a) cc, a) ∈ rs) := by show _ ∈ _; rw [hrs]; exact .head _
  have HMZ : Hid ((Value.slice zo (nd 4294967296 q) zc, q) ∈ ns) := by show _ ∈ _; rw [hns]; exact .head _
  have HMY : Hid ((Value.slice yo (nd 4294967296 lN) yc, lN) ∈ ns) := by show _ ∈ _; rw [hns]; exact .tail _ (.head _)
  have HSK : Hid (∀ W, Kp cs ns rs w W → Calls Tryd.prog 25 #[.slice co (nd 65536 a) cc, .int .i64 n] W fun e w' => ∃ ro rl rc, e = .returned (.slice ro rl rc) ∧ R w' (.slice ro rl rc) q ∧ Below W.heap.size W w' ∧ Kp cs ns rs w w') := fun W h =>
    (HSR.out _ _ (h.dig _ HMC.out)).mono fun e w' ⟨r, he, hr, hB⟩ => by
      obtain ⟨ro, rc, rfl, -⟩ := hr.shape
      exact ⟨ro, _, rc, he, hr, hB, h.next hB⟩
  have HTZ := Lib.hid (fun W r (h : Kp cs ns rs w W) hr => tOk (W := W) (r := r) HMZ.out (by omega) (by omega) h hr)
  have hs2 := hs.drew
  have hcl := HCL.out _ hs2
  have hc0 := HCL.out _ hs
  clear hcs hns hrs hs HS4 y4 z4 HR1 HSR
  go_wp2_with fail
  go_region_held3 (fun W : World => (W.cell? ⟨w3.heap.size, 0, none⟩ = some (.slice yo (nd 4294967296 lN) yc) ∧ W.cell? ⟨w4.heap.size, 0, none⟩ = some (.slice zo (nd 4294967296 q) zc)) ∧ Kp cs ns rs w W) (first | (refine And.intro ?_ ?_ <;> assumption)) (first
    | (go_at_call 25; with_reducible refine (HSK.out _ ?h).mono ?_; (case h => assumption); rintro e w' ⟨ro, rl, rc, rfl, hr, hB, hs'⟩; have hc' := HCL.out _ hs')
    | (go_at_call 15; with_reducible refine (HTZ.out _ _ ?h ?r).mono ?_; (case h => assumption); (case r => first | assumption | exact rchain (by assumption) (by assumption)); rintro e w' ⟨rfl, hs'⟩; have hc' := HCL.out _ hs'))
  have HS5 := Lib.hid hs'
  have y5 := (HCL.out _ hs').1
  clear hs' hc' hcl hc0 hs2 HTZ HSK
  by_cases ha0 : a = 0
  · have h1 : lE = 0 := by rw [HEE.out]; exact if_pos ha0
    have h2 : lN = 0 := by rw [HNN.out, ha0]; unfold lshN; split <;> simp
    have h3 : nd 65536 a = 0 := by rw [ha0, nd_zero]
    subst h1
    have HT := Lib.hid (tOk (r := .slice none 0 0) HMY.out (by rw [h2, nd_zero]; omega) (by rw [h2, nd_zero]; omega) HS5.out (by rw [h2]; exact IsN.zero _ _ _ _ _))
    rw [h3]
    clear h2 h3 ha0
    go_wp2_with fail
    refine HT.out.mono ?_
    rintro e w6 ⟨rfl, hs⟩
    have HS6 := Lib.hid hs
    have HAW := Lib.hid (awake_K hs)
    clear hs HS5 HT y5
    go_wp2_with fail
    refine HAW.out.mono ?_
    rintro e w7 ⟨rfl, hs⟩
    have HS7 := Lib.hid hs
    clear hs
    go_wp2
    go_ret
    exact ⟨by simp, HS7.out.bel⟩
  · have h3 : 0 < nd 65536 a := nd_pos (by decide) (Nat.pos_of_ne_zero ha0)
    have h4 : ¬ (((nd 65536 a : Nat) : Int) = 0) := by omega
    by_cases hbig : 16384 < n
    · have hb' : (16384 : Int) < n := by omega
      have h1 : lE = 3 := by rw [HEE.out]; unfold lshE; rw [if_neg ha0, if_neg (by omega)]
      have h2 : lN = 0 := by rw [HNN.out]; exact if_neg (by omega)
      subst h1
      have HT := Lib.hid (tErr (r := .slice none 0 0) (f := 3) HMY.out h2 (by decide) HS5.out)
      clear h2 ha0
      go_wp2_with fail
      refine HT.out.mono ?_
      rintro e w6 ⟨rfl, hs⟩
      have HS6 := Lib.hid hs
      have HAW := Lib.hid (awake_K hs)
      clear hs HS5 HT y5
      go_wp2_with fail
      refine HAW.out.mono ?_
      rintro e w7 ⟨rfl, hs⟩
      have HS7 := Lib.hid hs
      clear hs
      go_wp2
      go_ret
      exact ⟨by simp, HS7.out.bel⟩
    · have hb' : ¬ ((16384 : Int) < n) := by omega
      have HBL := Lib.hid (fun W (h : Kp cs ns rs w W) => RBitLen_any _ a W (h.dig _ HMC.out) (by omega))
      by_cases hf : n + nd 2 a ≤ 16384
      · have h1 : lE = 0 := by rw [HEE.out]; unfold lshE; rw [if_neg ha0, if_pos hf]
        have h2 : lN = a * 2 ^ n := by rw [HNN.out]; exact if_pos hf
        subst h1
        have h5 : ¬ ((16384 : Int) < (n : Int) + ((nd 2 a : Nat) : Int)) := by omega
        have hl2 : nd 2 lN ≤ 16384 := by
          rw [h2]
          have h6 := (nd_le (by decide : 2 ≤ 2)).1 (Nat.le_refl (nd 2 a))
          refine Nat.le_trans ((nd_le (by decide)).2 (?_ : _ < 2 ^ (nd 2 a + n))) (by omega)
          rw [Nat.pow_add]
          exact Nat.mul_lt_mul_of_pos_right h6 (Nat.pow_pos (by decide))
        have hl32 := nd_two_up hl2
        have hl16 : nd 65536 lN ≤ 16384 := by
          exact nd_two_up16 hl2
        have HSL := Lib.hid (fun W v (h : R W v a) => RShl_any v a n W h (by omega) (by omega))
        rw [← h2] at HSL
        have HTY := Lib.hid (fun W r (h : Kp cs ns rs w W) hr => tOk (W := W) (r := r) HMY.out (by omega) (by omega) h hr)
        have HLK : Hid (∀ W, Kp cs ns rs w W → Calls Tryd.prog 27 #[.slice co (nd 65536 a) cc, .int .i64 n] W fun e w' => ∃ ro rl rc, e = .returned (.slice ro rl rc) ∧ R w' (.slice ro rl rc) lN ∧ Below W.heap.size W w' ∧ Kp cs ns rs w w') := fun W h =>
          (HSL.out _ _ (h.dig _ HMC.out)).mono fun e w' ⟨r, he, hr, hB⟩ => by
            obtain ⟨ro, rc, rfl, -⟩ := hr.shape
            exact ⟨ro, _, rc, he, hr, hB, h.next hB⟩
        have HAW := Lib.hid (fun W (h : Kp cs ns rs w W) => awake_K h)
        clear h2 ha0 HSL hl2 hf
        generalize nd 2 a = bl at *
        go_wp2_with fail
        refine (HBL.out _ HS5.out).mono ?_
        rintro e w6 ⟨rfl, rfl⟩
        have hs2 := HS5.out.drew
        have hcl := HCL.out _ hs2
        go_wp2_with fail
        go_region_held3 (fun W : World => (W.cell? ⟨w3.heap.size, 0, none⟩ = some (.slice yo (nd 4294967296 lN) yc) ∧ W.cell? ⟨w4.heap.size, 0, none⟩ = some (.slice zo (nd 4294967296 q) zc)) ∧ Kp cs ns rs w W) (first | (refine And.intro ?_ ?_ <;> assumption)) (first
          | (go_at_call 27; with_reducible refine (HLK.out _ ?h).mono ?_; (case h => assumption); rintro e w' ⟨ro, rl, rc, rfl, hr, hB, hs'⟩; have hc' := HCL.out _ hs')
          | (go_at_call 15; with_reducible refine (HTY.out _ _ ?h ?r).mono ?_; (case h => assumption); (case r => first | assumption | exact rchain (by assumption) (by assumption)); rintro e w' ⟨rfl, hs'⟩; have hc' := HCL.out _ hs')
          | (go_at_call 19; with_reducible refine (HAW.out _ ?h).mono ?_; (case h => assumption); rintro e w' ⟨rfl, hs'⟩; have hc' := HCL.out _ hs'))
        go_wp2
        go_ret
        exact ⟨by simp, hs'.bel⟩
      · have h1 : lE = 3 := by rw [HEE.out]; unfold lshE; rw [if_neg ha0, if_neg hf]
        have h2 : lN = 0 := by rw [HNN.out]; exact if_neg hf
        subst h1
        have h5 : (16384 : Int) < (n : Int) + ((nd 2 a : Nat) : Int) := by omega
        have HT := Lib.hid (tErr (r := .slice none 0 0) (f := 3) HMY.out h2 (by decide) HS5.out)
        clear h2 ha0 hf
        generalize nd 2 a = bl at *
        go_wp2_with fail
        refine (HBL.out _ HS5.out).mono ?_
        rintro e w6 ⟨rfl, rfl⟩
        go_wp2_with fail
        refine HT.out.mono ?_
        rintro e w8 ⟨rfl, hs⟩
        have HS6 := Lib.hid hs
        have HAW := Lib.hid (awake_K hs)
        clear hs HS5 HT y5
        go_wp2_with fail
        refine HAW.out.mono ?_
        rintro e w9 ⟨rfl, hs⟩
        have HS7 := Lib.hid hs
        clear hs
        go_wp2
        go_ret
        exact ⟨by simp, HS7.out.bel⟩
end Go.Proofs.YtmbgnkgjmmhncaaDoor
