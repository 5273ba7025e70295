/- The law SpanPieces: its walk. -/
import Derived.Test.YtngjpmlfdipkiabZf
namespace Go.Proofs.Ytngjpmlfdipkiab
open Go Go.RowKit Gs

theorem upd_ways {f g : Int → Int} {size er s e : Int} {q : Option Addr} {W : World} (h : Upd f g size er q s e W) : (e ≠ 0 ∧ q = none ∧ s = 0) ∨ (e = 0 ∧ size = s ∧ er = 0 ∧ IsM g s W q) := by
  rcases h with ⟨h1, h2, h3, h4⟩ | ⟨_, h2, h3, h4, _⟩ | ⟨h1, h2, h3, h4⟩
  · exact .inl ⟨by rw [h2]; exact h1, h3, h4⟩
  · exact .inl ⟨by rw [h2]; decide, h3, h4⟩
  · exact .inr ⟨h2, h3.symm, h1, by rw [h3]; exact h4⟩
theorem act_hit {f : Int → Int} {s alo ahi afr att x : Int} (he : actE s ⟨true, alo, ahi, afr, att⟩ = 0) (h1 : alo ≤ x) (h2 : x < ahi) (h3 : f x = afr) : actF ⟨true, alo, ahi, afr, att⟩ f x = att := by
  obtain ⟨_, _, _, h⟩ := errOf_zero (ts := [afr, att]) he
  have h4 := h afr (by simp); have h5 := h att (by simp)
  show swr f alo ahi afr.toNat att.toNat x = att
  unfold swr swp
  have e : f x = (afr.toNat : Int) := by omega
  rw [if_pos ⟨h1, h2⟩, if_pos e]
  omega
theorem act_miss {f : Int → Int} {s alo ahi afr att x : Int} (he : actE s ⟨true, alo, ahi, afr, att⟩ = 0) (h3 : f x ≠ afr) : actF ⟨true, alo, ahi, afr, att⟩ f x = f x := by
  obtain ⟨_, _, _, h⟩ := errOf_zero (ts := [afr, att]) he
  have h4 := h afr (by simp)
  show swr f alo ahi afr.toNat att.toNat x = f x
  unfold swr swp
  have e : ¬ f x = (afr.toNat : Int) := by omega
  rw [if_neg e]
  split <;> rfl
theorem act_out {f : Int → Int} {b : Bool} {alo ahi afr att x : Int} (h : ¬ (alo ≤ x ∧ x < ahi)) : actF ⟨b, alo, ahi, afr, att⟩ f x = f x := by
  cases b
  · show put f alo ahi att x = f x
    unfold put; rw [if_neg h]
  · show swr f alo ahi afr.toNat att.toNat x = f x
    unfold swr; rw [if_neg h]

set_option maxRecDepth 100000 in
set_option maxHeartbeats 4000000 in
theorem spanPieces_swap (size : Int) (v : Value) (l : List Act) (alo ahi afr att at' : Int) (W : World) (hl : IsAs W v l) :
    Calls Try.prog 3 #[.int .i64 size, v, .agg #[.bool true, .int .i64 alo, .int .i64 ahi, .int .i64 afr, .int .i64 att], .int .i64 at'] W fun e w' => e = .returned (.bool true) ∧ Below W.heap.size W w' := by
  obtain ⟨w0, HW⟩ : ∃ w0, w0 = W.alloc (.cells #[.bool true, .int .i64 alo, .int .i64 ahi, .int .i64 afr, .int .i64 att] 24) := ⟨_, rfl⟩
  have hb0 : Below W.heap.size W w0 := by rw [HW]; exact (Below.refl _ _).alloc (Nat.le_refl _) _
  have hlt0 : W.heap.size < w0.heap.size := by rw [HW]; simp
  have hq0 : w0.cell? ⟨W.heap.size, 0, none⟩ = some (.bool true) := by rw [HW]; exact World.cell?_alloc_at _ _ _ _ rfl
  have hq1 : w0.cell? ⟨W.heap.size, 1, none⟩ = some (.int .i64 alo) := by rw [HW]; exact World.cell?_alloc_at _ _ _ _ rfl
  have hq2 : w0.cell? ⟨W.heap.size, 2, none⟩ = some (.int .i64 ahi) := by rw [HW]; exact World.cell?_alloc_at _ _ _ _ rfl
  have hq3 : w0.cell? ⟨W.heap.size, 3, none⟩ = some (.int .i64 afr) := by rw [HW]; exact World.cell?_alloc_at _ _ _ _ rfl
  have hq4 : w0.cell? ⟨W.heap.size, 4, none⟩ = some (.int .i64 att) := by rw [HW]; exact World.cell?_alloc_at _ _ _ _ rfl
  have HQ : Hid (∀ W', Below w0.heap.size w0 W' → W'.cell? ⟨W.heap.size, 0, none⟩ = some (.bool true) ∧ W'.cell? ⟨W.heap.size, 1, none⟩ = some (.int .i64 alo) ∧ W'.cell? ⟨W.heap.size, 2, none⟩ = some (.int .i64 ahi) ∧ W'.cell? ⟨W.heap.size, 3, none⟩ = some (.int .i64 afr) ∧ W'.cell? ⟨W.heap.size, 4, none⟩ = some (.int .i64 att)) := fun W' h => ⟨(h.cell (p := ⟨W.heap.size, 0, none⟩) hlt0).trans hq0, (h.cell (p := ⟨W.heap.size, 1, none⟩) hlt0).trans hq1, (h.cell (p := ⟨W.heap.size, 2, none⟩) hlt0).trans hq2, (h.cell (p := ⟨W.heap.size, 3, none⟩) hlt0).trans hq3, (h.cell (p := ⟨W.heap.size, 4, none⟩) hlt0).trans hq4⟩
  have HBU := Lib.hid (built_any (size := size) (hl.below hb0))
  have HAW := Lib.hid (fun W' => awake_any W')
  have HB := Lib.hid hb0; have HW' := Lib.hid HW
  obtain ⟨ao, c, rfl, -⟩ := hl
  clear hb0 hlt0 hq0 hq1 hq2 hq3 hq4 HW
  obtain ⟨n, hnn⟩ : ∃ n, n = l.length := ⟨_, rfl⟩
  rw [← hnn] at HBU ⊢
  clear hnn
  go_enter Try.func3, Try.ntmps3
  go_wp2_with fail
  rw [← HW'.out]
  refine HBU.out.mono ?_
  rintro e w1 ⟨q, s, ok, rfl, HOK, -, hb⟩
  have HB1 := Lib.hid hb
  clear hb
  obtain ⟨w2, HW2⟩ : ∃ w2, w2 = w1.alloc (.cells #[.pointer q, .int .i64 s] 27) := ⟨_, rfl⟩
  have hb2 : Below w1.heap.size w1 w2 := by rw [HW2]; exact (Below.refl _ _).alloc (Nat.le_refl _) _
  have hm2 : Mb w1.heap.size q s w2 := by rw [HW2]; exact Mb.new _ _ _ _
  have HM2 := Lib.hid hm2
  have HB12 := Lib.hid hb2
  have HB02 := Lib.hid (HB1.out.trans (hb2.mono HB1.out.size))
  have HBW : Hid (∀ W', Below w2.heap.size w2 W' → Below W.heap.size W W') := fun W' h => HB.out.trans ((HB02.out.trans (h.mono HB02.out.size)).mono HB.out.size)
  have HBw2 : Hid (Below w2.heap.size w2 w2) := Below.refl _ _
  have HAW2 : Hid (∀ W', Below w2.heap.size w2 W' → Calls Try.prog 11 #[] W' fun e w' => e = .returned (.bool true) ∧ Below w2.heap.size w2 w') := fun W' h => (HAW.out W').mono fun e w' ⟨he, hB⟩ => ⟨he, h.trans (hB.mono h.size)⟩
  have HW2' := Lib.hid HW2
  clear hb2 hm2 HW2
  have hout : ∀ (Q : Prop), Q → Q := fun _ h => h
  clear hout
  go_upto_region 2 with fail
  rw [← HW2'.out]
  cases ok with
  | false =>
    go_wp2_with fail
    refine (HAW2.out _ HBw2.out).mono ?_
    rintro e w8 ⟨rfl, hb⟩
    have HF := Lib.hid (HBW.out _ hb)
    clear hb
    go_wp2_with fail
    go_ret
    exact ⟨rfl, HF.out⟩
  | true =>
    obtain ⟨-, rfl, f, hf, -⟩ := HOK.out rfl
    have HI2 := Lib.hid (hf.below HB12.out)
    clear hf
    by_cases ga : at' < 0
    · go_wp2_with fail
      refine (HAW2.out _ HBw2.out).mono ?_
      rintro e w8 ⟨rfl, hb⟩
      have HF := Lib.hid (HBW.out _ hb)
      clear hb
      go_wp2_with fail
      go_ret
      exact ⟨rfl, HF.out⟩
    · by_cases gb : at' ≥ s
      · go_wp2_with fail
        refine (HAW2.out _ HBw2.out).mono ?_
        rintro e w8 ⟨rfl, hb⟩
        have HF := Lib.hid (HBW.out _ hb)
        clear hb
        go_wp2_with fail
        go_ret
        exact ⟨rfl, HF.out⟩
      · have g0 : 0 ≤ at' := by omega
        have g1 : at' < s := by omega
        have HALL : Hid (∀ W', Below w2.heap.size w2 W' → (W'.cell? ⟨w1.heap.size, 0, none⟩ = some (.pointer q) ∧ W'.cell? ⟨w1.heap.size, 1, none⟩ = some (.int .i64 s) ∧ W'.cell? ⟨W.heap.size, 0, none⟩ = some (.bool true) ∧ W'.cell? ⟨W.heap.size, 1, none⟩ = some (.int .i64 alo) ∧ W'.cell? ⟨W.heap.size, 2, none⟩ = some (.int .i64 ahi) ∧ W'.cell? ⟨W.heap.size, 3, none⟩ = some (.int .i64 afr) ∧ W'.cell? ⟨W.heap.size, 4, none⟩ = some (.int .i64 att))) := fun W' h =>
          have hq := HQ.out W' (HB02.out.trans (h.mono HB02.out.size))
          ⟨(HM2.out.next h).c0, (HM2.out.next h).c1, hq⟩
        have HGET : Hid (∀ W', Below w2.heap.size w2 W' → Calls Try.prog 12 #[.agg #[.pointer q, .int .i64 s], .int .i64 at'] W' fun e w' => e = .returned (.tuple #[.int .i64 (f at'), .int .i64 0]) ∧ Below w2.heap.size w2 w') := fun W' h => (Get_ok (HI2.out.below h) g0 g1).mono fun e w' ⟨he, hB⟩ => ⟨he, h.trans (hB.mono h.size)⟩
        have HCALL : Hid (∀ W', Below w2.heap.size w2 W' → Calls Try.prog 13 #[.agg #[.pointer q, .int .i64 s], .int .i64 alo, .int .i64 ahi, .int .i64 afr, .int .i64 att] W' fun e w' => ∃ q2 s2 n2 e2, e = .returned (.tuple #[.agg #[.pointer q2, .int .i64 s2], .int .i64 n2, .int .i64 e2]) ∧ Hid (Upd f (actF ⟨true, alo, ahi, afr, att⟩ f) s (actE s ⟨true, alo, ahi, afr, att⟩) q2 s2 e2 w') ∧ Hid (e2 ≠ 0 → n2 = 0) ∧ Hid (Below W'.heap.size W' w') ∧ Below w2.heap.size w2 w') := fun W' h => (Swap_any (HI2.out.below h)).mono fun e w' ⟨q2, s2, n2, e2, he, hu, hn, hB⟩ => ⟨q2, s2, n2, e2, he, hu, (fun h => hn.out.elim (fun h1 => absurd h1.1 h) fun h2 => h2.2), hB, h.trans (hB.mono h.size)⟩
        obtain ⟨fa, hfa⟩ : ∃ fa, fa = f at' := ⟨_, rfl⟩
        have HFA := Lib.hid hfa
        rw [← hfa] at HGET
        clear hfa
        obtain ⟨k0, k1, k2, k3, k4, k5, k6⟩ := HALL.out w2 HBw2.out
        go_wp2_with fail
        refine (HGET.out _ HBw2.out).mono ?_
        rintro e w3 ⟨rfl, hb⟩
        have HBw3 := Lib.hid hb
        clear hb k0 k1 k2 k3 k4 k5 k6
        obtain ⟨w4, HW4⟩ : ∃ w4, w4 = w3.alloc (.cells #[.pointer q, .int .i64 s] 27) := ⟨_, rfl⟩
        have hm4 : Mb w3.heap.size q s w4 := by rw [HW4]; exact Mb.new _ _ _ _
        have HBw4 : Hid (Below w2.heap.size w2 w4) := by rw [HW4]; exact HBw3.out.alloc HBw3.out.size _
        have HM4 := Lib.hid hm4
        have HW4' := Lib.hid HW4
        clear hm4 HW4
        obtain ⟨k0, k1, k2, k3, k4, k5, k6⟩ := HALL.out w3 HBw3.out
        go_upto_region 8 with fail
        rw [← HW4'.out]
        clear k0 k1 k2 k3 k4 k5 k6
        obtain ⟨k0, k1, k2, k3, k4, k5, k6⟩ := HALL.out w4 HBw4.out
        go_wp2_with fail
        refine (HCALL.out _ HBw4.out).mono ?_
        rintro e w5 ⟨q2, s2, n2, e2, rfl, HU, HNC, hb5, hb⟩
        have HBw5 := Lib.hid hb
        have HM5 := Lib.hid (HM4.out.next hb5.out)
        clear hb k0 k1 k2 k3 k4 k5 k6
        obtain ⟨w6, HW6⟩ : ∃ w6, w6 = (w5.setCell ⟨w3.heap.size, 0, none⟩ (.pointer q2)).setCell ⟨w3.heap.size, 1, none⟩ (.int .i64 s2) := ⟨_, rfl⟩
        have HBw6 : Hid (Below w2.heap.size w2 w6) := by rw [HW6]; exact (HBw5.out.setCell HBw3.out.size _).setCell HBw3.out.size _
        have HM6 : Hid (Mb w3.heap.size q2 s2 w6) := by rw [HW6]; exact HM5.out.put q2 s2
        have HU6 : Hid (Upd f (actF ⟨true, alo, ahi, afr, att⟩ f) s (actE s ⟨true, alo, ahi, afr, att⟩) q2 s2 e2 w6) := by rw [HW6]; exact HM5.out.upd HU.out _ _
        have HW6' := Lib.hid HW6
        clear HW6
        have d0 := HM5.out.c0; have d1 := HM5.out.c1; have d2 := HM5.out.f0; have d3 := HM5.out.f1
        go_upto_region 11 with fail
        rw [← HW6'.out]
        clear d0 d1 d2 d3
        obtain ⟨k0, k1, k2, k3, k4, k5, k6⟩ := HALL.out w6 HBw6.out
        have m0 := HM6.out.c0; have m1 := HM6.out.c1
        rcases upd_ways HU6.out with ⟨hne, rfl, rfl⟩ | ⟨rfl, rfl, he, hg⟩
        · have HSZ := Lib.hid (fun W' => Size_any (none : Option Addr) 0 W')
          obtain rfl := HNC.out hne
          have hnb : (e2 == 0) = false := beq_eq_false_iff_ne.2 hne
          clear hne
          go_wp2_with fail
          refine (HSZ.out _).mono ?_
          rintro e w7 ⟨rfl, hb⟩
          have HBw7 := Lib.hid (HBw6.out.trans (hb.mono HBw6.out.size))
          clear hb
          go_wp2_with fail
          refine (HAW2.out _ HBw7.out).mono ?_
          rintro e w8 ⟨rfl, hb⟩
          have HF := Lib.hid (HBW.out _ hb)
          clear hb
          go_wp2_with fail
          go_ret
          exact ⟨rfl, HF.out⟩
        · have HG6 := Lib.hid hg
          have HE := Lib.hid he
          clear hg he
          have HGN : Hid (Calls Try.prog 12 #[.agg #[.pointer q2, .int .i64 s], .int .i64 at'] w6 fun e w' => e = .returned (.tuple #[.int .i64 (actF ⟨true, alo, ahi, afr, att⟩ f at'), .int .i64 0]) ∧ Below w6.heap.size w6 w') := Get_ok HG6.out g0 g1
          obtain ⟨wnt, hwnt⟩ : ∃ wnt, wnt = actF ⟨true, alo, ahi, afr, att⟩ f at' := ⟨_, rfl⟩
          rw [← hwnt] at HGN
          have HWN := Lib.hid hwnt
          clear hwnt
          go_wp2_with fail
          refine HGN.out.mono ?_
          rintro e w7 ⟨rfl, hb⟩
          have HBw7 := Lib.hid (HBw6.out.trans (hb.mono HBw6.out.size))
          clear hb k0 k1 k2 k3 k4 k5 k6 m0 m1
          obtain ⟨k0, k1, k2, k3, k4, k5, k6⟩ := HALL.out w7 HBw7.out
          go_wp2_with fail
          refine (HGET.out _ HBw7.out).mono ?_
          rintro e w8 ⟨rfl, hb⟩
          have HBw8 := Lib.hid hb
          clear hb k0 k1 k2 k3 k4 k5 k6
          obtain ⟨k0, k1, k2, k3, k4, k5, k6⟩ := HALL.out w8 HBw8.out
          by_cases r1 : alo ≤ at'
          · by_cases r2 : at' < ahi
            · by_cases r3 : fa = afr
              · obtain rfl : wnt = att := by
                  rw [HWN.out]
                  exact act_hit HE.out r1 r2 (HFA.out.symm.trans r3)
                subst r3
                go_wp2_with fail
                refine (HAW2.out _ HBw8.out).mono ?_
                rintro e w9 ⟨rfl, hb⟩
                have HF := Lib.hid (HBW.out _ hb)
                clear hb
                go_wp2_with fail
                go_ret
                exact ⟨rfl, HF.out⟩
              · obtain rfl : wnt = fa := by
                  rw [HWN.out, HFA.out]
                  exact act_miss HE.out (by rw [← HFA.out]; exact r3)
                have r4 : (wnt == afr) = false := beq_eq_false_iff_ne.2 r3
                go_wp2_with fail
                refine (HAW2.out _ HBw8.out).mono ?_
                rintro e w9 ⟨rfl, hb⟩
                have HF := Lib.hid (HBW.out _ hb)
                clear hb
                go_wp2_with fail
                go_ret
                exact ⟨rfl, HF.out⟩
            · obtain rfl : wnt = fa := by
                rw [HWN.out, HFA.out]
                exact act_out (by omega)
              go_wp2_with fail
              refine (HAW2.out _ HBw8.out).mono ?_
              rintro e w9 ⟨rfl, hb⟩
              have HF := Lib.hid (HBW.out _ hb)
              clear hb
              go_wp2_with fail
              go_ret
              exact ⟨rfl, HF.out⟩
          · obtain rfl : wnt = fa := by
              rw [HWN.out, HFA.out]
              exact act_out (by omega)
            go_wp2_with fail
            refine (HAW2.out _ HBw8.out).mono ?_
            rintro e w9 ⟨rfl, hb⟩
            have HF := Lib.hid (HBW.out _ hb)
            clear hb
            go_wp2_with fail
            go_ret
            exact ⟨rfl, HF.out⟩
set_option maxRecDepth 100000 in
set_option maxHeartbeats 4000000 in
theorem spanPieces_set (size : Int) (v : Value) (l : List Act) (alo ahi afr att at' : Int) (W : World) (hl : IsAs W v l) :
    Calls Try.prog 3 #[.int .i64 size, v, .agg #[.bool false, .int .i64 alo, .int .i64 ahi, .int .i64 afr, .int .i64 att], .int .i64 at'] W fun e w' => e = .returned (.bool true) ∧ Below W.heap.size W w' := by
  obtain ⟨w0, HW⟩ : ∃ w0, w0 = W.alloc (.cells #[.bool false, .int .i64 alo, .int .i64 ahi, .int .i64 afr, .int .i64 att] 24) := ⟨_, rfl⟩
  have hb0 : Below W.heap.size W w0 := by rw [HW]; exact (Below.refl _ _).alloc (Nat.le_refl _) _
  have hlt0 : W.heap.size < w0.heap.size := by rw [HW]; simp
  have hq0 : w0.cell? ⟨W.heap.size, 0, none⟩ = some (.bool false) := by rw [HW]; exact World.cell?_alloc_at _ _ _ _ rfl
  have hq1 : w0.cell? ⟨W.heap.size, 1, none⟩ = some (.int .i64 alo) := by rw [HW]; exact World.cell?_alloc_at _ _ _ _ rfl
  have hq2 : w0.cell? ⟨W.heap.size, 2, none⟩ = some (.int .i64 ahi) := by rw [HW]; exact World.cell?_alloc_at _ _ _ _ rfl
  have hq3 : w0.cell? ⟨W.heap.size, 3, none⟩ = some (.int .i64 afr) := by rw [HW]; exact World.cell?_alloc_at _ _ _ _ rfl
  have hq4 : w0.cell? ⟨W.heap.size, 4, none⟩ = some (.int .i64 att) := by rw [HW]; exact World.cell?_alloc_at _ _ _ _ rfl
  have HQ : Hid (∀ W', Below w0.heap.size w0 W' → W'.cell? ⟨W.heap.size, 0, none⟩ = some (.bool false) ∧ W'.cell? ⟨W.heap.size, 1, none⟩ = some (.int .i64 alo) ∧ W'.cell? ⟨W.heap.size, 2, none⟩ = some (.int .i64 ahi) ∧ W'.cell? ⟨W.heap.size, 3, none⟩ = some (.int .i64 afr) ∧ W'.cell? ⟨W.heap.size, 4, none⟩ = some (.int .i64 att)) := fun W' h => ⟨(h.cell (p := ⟨W.heap.size, 0, none⟩) hlt0).trans hq0, (h.cell (p := ⟨W.heap.size, 1, none⟩) hlt0).trans hq1, (h.cell (p := ⟨W.heap.size, 2, none⟩) hlt0).trans hq2, (h.cell (p := ⟨W.heap.size, 3, none⟩) hlt0).trans hq3, (h.cell (p := ⟨W.heap.size, 4, none⟩) hlt0).trans hq4⟩
  have HBU := Lib.hid (built_any (size := size) (hl.below hb0))
  have HAW := Lib.hid (fun W' => awake_any W')
  have HB := Lib.hid hb0; have HW' := Lib.hid HW
  obtain ⟨ao, c, rfl, -⟩ := hl
  clear hb0 hlt0 hq0 hq1 hq2 hq3 hq4 HW
  obtain ⟨n, hnn⟩ : ∃ n, n = l.length := ⟨_, rfl⟩
  rw [← hnn] at HBU ⊢
  clear hnn
  go_enter Try.func3, Try.ntmps3
  go_wp2_with fail
  rw [← HW'.out]
  refine HBU.out.mono ?_
  rintro e w1 ⟨q, s, ok, rfl, HOK, -, hb⟩
  have HB1 := Lib.hid hb
  clear hb
  obtain ⟨w2, HW2⟩ : ∃ w2, w2 = w1.alloc (.cells #[.pointer q, .int .i64 s] 27) := ⟨_, rfl⟩
  have hb2 : Below w1.heap.size w1 w2 := by rw [HW2]; exact (Below.refl _ _).alloc (Nat.le_refl _) _
  have hm2 : Mb w1.heap.size q s w2 := by rw [HW2]; exact Mb.new _ _ _ _
  have HM2 := Lib.hid hm2
  have HB12 := Lib.hid hb2
  have HB02 := Lib.hid (HB1.out.trans (hb2.mono HB1.out.size))
  have HBW : Hid (∀ W', Below w2.heap.size w2 W' → Below W.heap.size W W') := fun W' h => HB.out.trans ((HB02.out.trans (h.mono HB02.out.size)).mono HB.out.size)
  have HBw2 : Hid (Below w2.heap.size w2 w2) := Below.refl _ _
  have HAW2 : Hid (∀ W', Below w2.heap.size w2 W' → Calls Try.prog 11 #[] W' fun e w' => e = .returned (.bool true) ∧ Below w2.heap.size w2 w') := fun W' h => (HAW.out W').mono fun e w' ⟨he, hB⟩ => ⟨he, h.trans (hB.mono h.size)⟩
  have HW2' := Lib.hid HW2
  clear hb2 hm2 HW2
  have hout : ∀ (Q : Prop), Q → Q := fun _ h => h
  clear hout
  go_upto_region 2 with fail
  rw [← HW2'.out]
  cases ok with
  | false =>
    go_wp2_with fail
    refine (HAW2.out _ HBw2.out).mono ?_
    rintro e w8 ⟨rfl, hb⟩
    have HF := Lib.hid (HBW.out _ hb)
    clear hb
    go_wp2_with fail
    go_ret
    exact ⟨rfl, HF.out⟩
  | true =>
    obtain ⟨-, rfl, f, hf, -⟩ := HOK.out rfl
    have HI2 := Lib.hid (hf.below HB12.out)
    clear hf
    by_cases ga : at' < 0
    · go_wp2_with fail
      refine (HAW2.out _ HBw2.out).mono ?_
      rintro e w8 ⟨rfl, hb⟩
      have HF := Lib.hid (HBW.out _ hb)
      clear hb
      go_wp2_with fail
      go_ret
      exact ⟨rfl, HF.out⟩
    · by_cases gb : at' ≥ s
      · go_wp2_with fail
        refine (HAW2.out _ HBw2.out).mono ?_
        rintro e w8 ⟨rfl, hb⟩
        have HF := Lib.hid (HBW.out _ hb)
        clear hb
        go_wp2_with fail
        go_ret
        exact ⟨rfl, HF.out⟩
      · have g0 : 0 ≤ at' := by omega
        have g1 : at' < s := by omega
        have HALL : Hid (∀ W', Below w2.heap.size w2 W' → (W'.cell? ⟨w1.heap.size, 0, none⟩ = some (.pointer q) ∧ W'.cell? ⟨w1.heap.size, 1, none⟩ = some (.int .i64 s) ∧ W'.cell? ⟨W.heap.size, 0, none⟩ = some (.bool false) ∧ W'.cell? ⟨W.heap.size, 1, none⟩ = some (.int .i64 alo) ∧ W'.cell? ⟨W.heap.size, 2, none⟩ = some (.int .i64 ahi) ∧ W'.cell? ⟨W.heap.size, 3, none⟩ = some (.int .i64 afr) ∧ W'.cell? ⟨W.heap.size, 4, none⟩ = some (.int .i64 att))) := fun W' h =>
          have hq := HQ.out W' (HB02.out.trans (h.mono HB02.out.size))
          ⟨(HM2.out.next h).c0, (HM2.out.next h).c1, hq⟩
        have HGET : Hid (∀ W', Below w2.heap.size w2 W' → Calls Try.prog 12 #[.agg #[.pointer q, .int .i64 s], .int .i64 at'] W' fun e w' => e = .returned (.tuple #[.int .i64 (f at'), .int .i64 0]) ∧ Below w2.heap.size w2 w') := fun W' h => (Get_ok (HI2.out.below h) g0 g1).mono fun e w' ⟨he, hB⟩ => ⟨he, h.trans (hB.mono h.size)⟩
        have HCALL : Hid (∀ W', Below w2.heap.size w2 W' → Calls Try.prog 14 #[.agg #[.pointer q, .int .i64 s], .int .i64 alo, .int .i64 ahi, .int .i64 att] W' fun e w' => ∃ q2 s2 e2, e = .returned (.tuple #[.agg #[.pointer q2, .int .i64 s2], .int .i64 e2]) ∧ Hid (Upd f (actF ⟨false, alo, ahi, afr, att⟩ f) s (actE s ⟨false, alo, ahi, afr, att⟩) q2 s2 e2 w') ∧ Hid (True) ∧ Hid (Below W'.heap.size W' w') ∧ Below w2.heap.size w2 w') := fun W' h => (Set_any (HI2.out.below h)).mono fun e w' ⟨q2, s2, e2, he, hu, hB⟩ => ⟨q2, s2, e2, he, hu, trivial, hB, h.trans (hB.mono h.size)⟩
        obtain ⟨fa, hfa⟩ : ∃ fa, fa = f at' := ⟨_, rfl⟩
        have HFA := Lib.hid hfa
        rw [← hfa] at HGET
        clear hfa
        obtain ⟨k0, k1, k2, k3, k4, k5, k6⟩ := HALL.out w2 HBw2.out
        go_wp2_with fail
        refine (HGET.out _ HBw2.out).mono ?_
        rintro e w3 ⟨rfl, hb⟩
        have HBw3 := Lib.hid hb
        clear hb k0 k1 k2 k3 k4 k5 k6
        obtain ⟨w4, HW4⟩ : ∃ w4, w4 = w3.alloc (.cells #[.pointer q, .int .i64 s] 27) := ⟨_, rfl⟩
        have hm4 : Mb w3.heap.size q s w4 := by rw [HW4]; exact Mb.new _ _ _ _
        have HBw4 : Hid (Below w2.heap.size w2 w4) := by rw [HW4]; exact HBw3.out.alloc HBw3.out.size _
        have HM4 := Lib.hid hm4
        have HW4' := Lib.hid HW4
        clear hm4 HW4
        obtain ⟨k0, k1, k2, k3, k4, k5, k6⟩ := HALL.out w3 HBw3.out
        go_upto_region 8 with fail
        rw [← HW4'.out]
        clear k0 k1 k2 k3 k4 k5 k6
        obtain ⟨k0, k1, k2, k3, k4, k5, k6⟩ := HALL.out w4 HBw4.out
        go_wp2_with fail
        refine (HCALL.out _ HBw4.out).mono ?_
        rintro e w5 ⟨q2, s2, e2, rfl, HU, HNC, hb5, hb⟩
        have HBw5 := Lib.hid hb
        have HM5 := Lib.hid (HM4.out.next hb5.out)
        clear hb k0 k1 k2 k3 k4 k5 k6
        obtain ⟨w6, HW6⟩ : ∃ w6, w6 = (w5.setCell ⟨w3.heap.size, 0, none⟩ (.pointer q2)).setCell ⟨w3.heap.size, 1, none⟩ (.int .i64 s2) := ⟨_, rfl⟩
        have HBw6 : Hid (Below w2.heap.size w2 w6) := by rw [HW6]; exact (HBw5.out.setCell HBw3.out.size _).setCell HBw3.out.size _
        have HM6 : Hid (Mb w3.heap.size q2 s2 w6) := by rw [HW6]; exact HM5.out.put q2 s2
        have HU6 : Hid (Upd f (actF ⟨false, alo, ahi, afr, att⟩ f) s (actE s ⟨false, alo, ahi, afr, att⟩) q2 s2 e2 w6) := by rw [HW6]; exact HM5.out.upd HU.out _ _
        have HW6' := Lib.hid HW6
        clear HW6
        have d0 := HM5.out.c0; have d1 := HM5.out.c1; have d2 := HM5.out.f0; have d3 := HM5.out.f1
        go_upto_region 11 with fail
        rw [← HW6'.out]
        clear d0 d1 d2 d3
        obtain ⟨k0, k1, k2, k3, k4, k5, k6⟩ := HALL.out w6 HBw6.out
        have m0 := HM6.out.c0; have m1 := HM6.out.c1
        rcases upd_ways HU6.out with ⟨hne, rfl, rfl⟩ | ⟨rfl, rfl, he, hg⟩
        · have HSZ := Lib.hid (fun W' => Size_any (none : Option Addr) 0 W')
          have hnb : (e2 == 0) = false := beq_eq_false_iff_ne.2 hne
          clear hne
          go_wp2_with fail
          refine (HSZ.out _).mono ?_
          rintro e w7 ⟨rfl, hb⟩
          have HBw7 := Lib.hid (HBw6.out.trans (hb.mono HBw6.out.size))
          clear hb
          go_wp2_with fail
          refine (HAW2.out _ HBw7.out).mono ?_
          rintro e w8 ⟨rfl, hb⟩
          have HF := Lib.hid (HBW.out _ hb)
          clear hb
          go_wp2_with fail
          go_ret
          exact ⟨rfl, HF.out⟩
        · have HG6 := Lib.hid hg
          have HE := Lib.hid he
          clear hg he
          have HGN : Hid (Calls Try.prog 12 #[.agg #[.pointer q2, .int .i64 s], .int .i64 at'] w6 fun e w' => e = .returned (.tuple #[.int .i64 (actF ⟨false, alo, ahi, afr, att⟩ f at'), .int .i64 0]) ∧ Below w6.heap.size w6 w') := Get_ok HG6.out g0 g1
          obtain ⟨wnt, hwnt⟩ : ∃ wnt, wnt = actF ⟨false, alo, ahi, afr, att⟩ f at' := ⟨_, rfl⟩
          rw [← hwnt] at HGN
          have HWN := Lib.hid hwnt
          clear hwnt
          go_wp2_with fail
          refine HGN.out.mono ?_
          rintro e w7 ⟨rfl, hb⟩
          have HBw7 := Lib.hid (HBw6.out.trans (hb.mono HBw6.out.size))
          clear hb k0 k1 k2 k3 k4 k5 k6 m0 m1
          obtain ⟨k0, k1, k2, k3, k4, k5, k6⟩ := HALL.out w7 HBw7.out
          go_wp2_with fail
          refine (HGET.out _ HBw7.out).mono ?_
          rintro e w8 ⟨rfl, hb⟩
          have HBw8 := Lib.hid hb
          clear hb k0 k1 k2 k3 k4 k5 k6
          obtain ⟨k0, k1, k2, k3, k4, k5, k6⟩ := HALL.out w8 HBw8.out
          by_cases r1 : alo ≤ at'
          · by_cases r2 : at' < ahi
            · obtain rfl : wnt = att := by
                rw [HWN.out]
                simp only [actF, Bool.false_eq_true, if_false, put]
                exact if_pos ⟨r1, r2⟩
              go_wp2_with fail
              refine (HAW2.out _ HBw8.out).mono ?_
              rintro e w9 ⟨rfl, hb⟩
              have HF := Lib.hid (HBW.out _ hb)
              clear hb
              go_wp2_with fail
              go_ret
              exact ⟨rfl, HF.out⟩
            · obtain rfl : wnt = fa := by
                rw [HWN.out, HFA.out]
                exact act_out (by omega)
              go_wp2_with fail
              refine (HAW2.out _ HBw8.out).mono ?_
              rintro e w9 ⟨rfl, hb⟩
              have HF := Lib.hid (HBW.out _ hb)
              clear hb
              go_wp2_with fail
              go_ret
              exact ⟨rfl, HF.out⟩
          · obtain rfl : wnt = fa := by
              rw [HWN.out, HFA.out]
              exact act_out (by omega)
            go_wp2_with fail
            refine (HAW2.out _ HBw8.out).mono ?_
            rintro e w9 ⟨rfl, hb⟩
            have HF := Lib.hid (HBW.out _ hb)
            clear hb
            go_wp2_with fail
            go_ret
            exact ⟨rfl, HF.out⟩
theorem spanPieces_walk (size : Int) (v : Value) (l : List Act) (a : Act) (at' : Int) (W : World) (hl : IsAs W v l) :
    Calls Try.prog 3 #[.int .i64 size, v, .agg #[.bool a.sw, .int .i64 a.lo, .int .i64 a.hi, .int .i64 a.fr, .int .i64 a.tt], .int .i64 at'] W fun e w' => e = .returned (.bool true) ∧ Below W.heap.size W w' := by
  obtain ⟨sw, lo, hi, fr, tt⟩ := a
  cases sw
  · exact spanPieces_set size v l lo hi fr tt at' W hl
  · exact spanPieces_swap size v l lo hi fr tt at' W hl
end Go.Proofs.Ytngjpmlfdipkiab
