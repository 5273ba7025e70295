/- The law SpanCounts: its walk. -/
import Derived.Test.YtngjpmlfdipkiabZf
import Derived.Test.YtngjpmlfdipkiabZq
import Derived.BigRegion
namespace Go.Proofs.Ytngjpmlfdipkiab
open Go Go.RowKit Gs

theorem Count_same {f : Int → Int} {size lo hi : Int} {k : Nat} {W : World} {p : Option Addr} {L : List R} (h : IsM f size W p) (hL : Gs.Can f 0 L size) (h1 : 0 ≤ lo) (h2 : lo ≤ hi) (h3 : hi ≤ size) (hk : k < 16) :
    Calls Try.prog 16 #[.agg #[.pointer p, .int .i64 size], .int .i64 lo, .int .i64 hi, .int .i64 k] W fun e w' => e = .returned (.tuple #[.int .i64 (cnt k (clip lo hi L)), .int .i64 0]) ∧ Below W.heap.size W w' := by
  obtain ⟨L', h4, h5⟩ := Count_ok (k := k) h h1 h2 h3 hk
  have := Gs.Can.same h4 hL
  subst this
  rw [cnt_clip k h2 (fun r hr => (Fits.bd h4.1 h.ctx r hr).2.1)]
  exact h5
theorem Runs_same {f : Int → Int} {size lo hi : Int} {W : World} {p : Option Addr} {L : List R} (h : IsM f size W p) (hL : Gs.Can f 0 L size) (h1 : 0 ≤ lo) (h2 : lo ≤ hi) (h3 : hi ≤ size) :
    Calls Try.prog 17 #[.agg #[.pointer p, .int .i64 size], .int .i64 lo, .int .i64 hi, .int .i64 4096] W fun e w' => ∃ v, e = .returned (.tuple #[v, .int .i64 0]) ∧ Hid (IsRs W.heap.size w' v (clip lo hi L)) ∧ Below W.heap.size W w' := by
  obtain ⟨L', h4, h5, h6⟩ := Runs_any (most := 4096) h h1 h2 h3
  have := Gs.Can.same h4 hL
  subst this
  refine h6.mono ?_
  rintro e w' ⟨v, he, hr, hb⟩
  have hl : (clip lo hi L').length ≤ 4096 := Nat.le_trans (clip_len _ _ _) h5
  have e1 : (clip lo hi L').take (4096 : Int).toNat = clip lo hi L' := List.take_of_length_le hl
  rw [e1] at hr
  exact ⟨v, he, IsRs.of_row hr.out, hb⟩
/-- what the counts and their sums are bounded by -/
theorem counts_bd {f : Int → Int} {lo hi : Int} {C : List R} (h : Gs.Can f lo C hi) (hx : Ctx f lo hi) (j : Nat) (hj : j < 16) : (0 ≤ cnt j C ∧ cnt j C ≤ 1099511627776) ∧ (0 ≤ sumc C j ∧ sumc C j ≤ 1099511627776) ∧ sumc C 16 = hi - lo := by
  have hb := Fits.bd h.1 hx
  have h16 := sumc_all h.1 (fun r hr => ⟨(hb r hr).2.2.2.1, (hb r hr).2.2.2.2⟩)
  have hn : ∀ k : Nat, 0 ≤ cnt k C := fun k => (cnt_bd hb).1
  have h1 := sumc_nn hn 0 j (by omega)
  have h2 := sumc_nn hn j 16 (by omega)
  have h3 := sumc_nn hn (j + 1) 16 (by omega)
  have h4 : sumc C (j + 1) = sumc C j + cnt j C := rfl
  have h5 : sumc C 0 = 0 := rfl
  have h6 := hn j
  have h7 := hx.1; have h8 := hx.2.1
  omega
set_option maxRecDepth 100000 in
set_option maxHeartbeats 4000000 in
theorem spanCounts_walk (size : Int) (v : Value) (l : List Act) (lo hi : Int) (W : World) (hl : IsAs W v l) :
    Calls Try.prog 4 #[.int .i64 size, v, .int .i64 lo, .int .i64 hi] W fun e w' => e = .returned (.bool true) ∧ Below W.heap.size W w' := by
  have HBU := Lib.hid (built_any (size := size) hl)
  have HAW : Hid (∀ W', Below W.heap.size W W' → Calls Try.prog 11 #[] W' fun e w' => e = .returned (.bool true) ∧ Hid (Below W.heap.size W w')) := fun W' h => (awake_any W').mono fun e w' ⟨he, hB⟩ => ⟨he, h.trans (hB.mono h.size)⟩
  obtain ⟨ao, c, rfl, -⟩ := hl
  obtain ⟨n, hnn⟩ : ∃ n, n = l.length := ⟨_, rfl⟩
  rw [← hnn] at HBU ⊢
  clear hnn
  go_enter Try.func4, Try.ntmps4
  go_wp2_with fail
  refine HBU.out.mono ?_
  rintro e w1 ⟨q, s, ok, rfl, HOK, -, hb⟩
  have HB1 := Lib.hid hb
  clear hb
  obtain ⟨w2, HW2⟩ : ∃ w2, w2 = w1.alloc (.cells #[.pointer q, .int .i64 s] 27) := ⟨_, rfl⟩
  have b2 : Below w1.heap.size w1 w2 := by rw [HW2]; exact (Below.refl _ _).alloc (Nat.le_refl _) _
  have m2 : Mb w1.heap.size q s w2 := by rw [HW2]; exact Mb.new _ _ _ _
  have HB2 := Lib.hid (HB1.out.trans (b2.mono HB1.out.size))
  have HM2 := Lib.hid m2
  have HS2 := Lib.hid b2
  have HW2' := Lib.hid HW2
  clear HW2 b2 m2
  go_upto_region 2 with fail
  rw [← HW2'.out]
  cases ok with
  | false =>
    go_wp2_with fail
    refine (HAW.out _ HB2.out).mono ?_
    rintro e w9 ⟨rfl, HF⟩
    go_wp2_with fail
    go_ret
    exact ⟨rfl, HF.out⟩
  | true =>
    obtain ⟨-, rfl, f, hf, -⟩ := HOK.out rfl
    obtain ⟨L, hL, hlen⟩ := hf.can
    by_cases g1 : lo < 0
    · clear hf hL
      go_wp2_with fail
      refine (HAW.out _ HB2.out).mono ?_
      rintro e w9 ⟨rfl, HF⟩
      go_wp2_with fail
      go_ret
      exact ⟨rfl, HF.out⟩
    · by_cases g2 : hi < lo
      · clear hf hL
        go_wp2_with fail
        refine (HAW.out _ HB2.out).mono ?_
        rintro e w9 ⟨rfl, HF⟩
        go_wp2_with fail
        go_ret
        exact ⟨rfl, HF.out⟩
      · by_cases g3 : hi > s
        · clear hf hL
          go_wp2_with fail
          refine (HAW.out _ HB2.out).mono ?_
          rintro e w9 ⟨rfl, HF⟩
          go_wp2_with fail
          go_ret
          exact ⟨rfl, HF.out⟩
        · have HI2 := Lib.hid (hf.below HS2.out)
          obtain ⟨C, hC⟩ : ∃ C, C = clip lo hi L := ⟨_, rfl⟩
          have hcan : Gs.Can f lo C hi := by rw [hC]; exact clip_can hL (by omega) (by omega) (by omega)
          have hctx : Ctx f lo hi := hf.ctx.sub (by omega) (by omega)
          have HCLB : Hid (C.length ≤ 4096) := by rw [hC]; exact Nat.le_trans (clip_len _ _ _) hlen
          have HCAN := Lib.hid hcan
          have HCTX := Lib.hid hctx
          have HCNT : Hid (∀ (k : Nat) W', k < 16 → Below w2.heap.size w2 W' → Calls Try.prog 16 #[.agg #[.pointer q, .int .i64 s], .int .i64 lo, .int .i64 hi, .int .i64 k] W' fun e w' => e = .returned (.tuple #[.int .i64 (cnt k C), .int .i64 0]) ∧ Below W'.heap.size W' w') := fun k W' hk h => by
            rw [hC]
            exact Count_same (HI2.out.below h) hL (by omega) (by omega) (by omega) hk
          have HRUN : Hid (∀ W', Below w2.heap.size w2 W' → Calls Try.prog 17 #[.agg #[.pointer q, .int .i64 s], .int .i64 lo, .int .i64 hi, .int .i64 4096] W' fun e w' => ∃ v, e = .returned (.tuple #[v, .int .i64 0]) ∧ Hid (IsRs W'.heap.size w' v C) ∧ Below W'.heap.size W' w') := fun W' h => by
            rw [hC]
            exact Runs_same (HI2.out.below h) hL (by omega) (by omega) (by omega)
          have HALL : Hid (∀ W', Below w2.heap.size w2 W' → W'.cell? ⟨w1.heap.size, 0, none⟩ = some (.pointer q) ∧ W'.cell? ⟨w1.heap.size, 1, none⟩ = some (.int .i64 s)) := fun W' h => ⟨(HM2.out.next h).c0, (HM2.out.next h).c1⟩
          have HBW : Hid (∀ W', Below w2.heap.size w2 W' → Below W.heap.size W W') := fun W' h => HB2.out.trans (h.mono HB2.out.size)
          obtain ⟨w3, HW3⟩ : ∃ w3, w3 = w2.alloc (.cells #[.int .i64 0, .int .i64 0, .int .i64 0, .int .i64 0, .int .i64 0, .int .i64 0, .int .i64 0, .int .i64 0, .int .i64 0, .int .i64 0, .int .i64 0, .int .i64 0, .int .i64 0, .int .i64 0, .int .i64 0, .int .i64 0] 40) := ⟨_, rfl⟩
          have HB3 : Hid (Below w2.heap.size w2 w3) := by rw [HW3]; exact (Below.refl _ _).alloc (Nat.le_refl _) _
          have HA3 : Hid (Arr w2.heap.size (fun _ => 0) w3) := by
            rw [HW3]
            refine ⟨fun k hk => ?_, fun k hk => World.frozen?_alloc_at _ _ _ _ rfl, by simp⟩
            rw [World.cell?_alloc_at _ _ _ _ rfl]
            match k, hk with
            | 0, _ => rfl
            | 1, _ => rfl
            | 2, _ => rfl
            | 3, _ => rfl
            | 4, _ => rfl
            | 5, _ => rfl
            | 6, _ => rfl
            | 7, _ => rfl
            | 8, _ => rfl
            | 9, _ => rfl
            | 10, _ => rfl
            | 11, _ => rfl
            | 12, _ => rfl
            | 13, _ => rfl
            | 14, _ => rfl
            | 15, _ => rfl
            | k + 16, h => exact absurd h (by omega)
          have HW3' := Lib.hid HW3
          have HLH : Hid (lo ≤ hi ∧ 0 ≤ lo ∧ hi ≤ 1099511627776) := ⟨by omega, by omega, hctx.2.1⟩
          clear hf hL hC hcan hctx HW3
          go_upto_region 6 with fail
          rw [← HW3'.out]
          go_wp2_with fail
          go_loopw [11, 13] (fun sv i wr => ∃ (j : Nat) (sj : Int), j ≤ 16 ∧ i = .int .i64 j ∧ sv = .int .i64 sj ∧ Hid (sj = sumc C j) ∧ Hid (Arr w2.heap.size (fun k => if k < j then cnt k C else 0) wr) ∧ Hid (Below w2.heap.size w2 wr)) (fun _ i _ => 16 - (intOf i).toNat)
          case atStart => exact ⟨0, 0, by omega, rfl, rfl, rfl, HA3.out, HB3.out⟩
          case round =>
            obtain ⟨j, sj, hj, rfl, rfl, HSJ, HA, HBr⟩ := hrel
            clear HA3 HB3
            by_cases hlt : j < 16
            · have hj2 : (j : Int) < 16 := by omega
              have HCJ := Lib.hid (HCNT.out j wr hlt HBr.out)
              obtain ⟨⟨y1, y2⟩, ⟨y3, y4⟩, -⟩ := counts_bd HCAN.out HCTX.out j hlt
              rw [← HSJ.out] at y3 y4
              have HS1 : Hid (sumc C (j + 1) = sj + cnt j C) := by
                show sumc C j + cnt j C = _
                rw [HSJ.out]
              have HP : Hid (∀ W', Arr w2.heap.size (fun k => if k < j then cnt k C else 0) W' → Arr w2.heap.size (fun k => if k < j + 1 then cnt k C else 0) (W'.setCell ⟨w2.heap.size, j, none⟩ (.int .i64 (cnt j C)))) := fun W' h => h.put j _ hlt fun k hk => by
                show (if k < j + 1 then cnt k C else 0) = if k = j then cnt j C else if k < j then cnt k C else 0
                by_cases e : k = j
                · subst e; rw [if_pos (by omega), if_pos rfl]
                · rw [if_neg e]
                  by_cases e2 : k < j
                  · rw [if_pos (by omega), if_pos e2]
                  · rw [if_neg (by omega), if_neg e2]
              have HAZ : Hid (∀ W', Arr w2.heap.size (fun k => if k < j then cnt k C else 0) W' → W'.cell? ⟨w2.heap.size, j, none⟩ = some (.int .i64 0) ∧ W'.frozen? ⟨w2.heap.size, j, none⟩ = false) := fun W' h => ⟨(h.c j hlt).trans (by rw [if_neg (by omega)]), h.f j hlt⟩
              generalize cnt j C = cj at *
              have hw : IntKind.i64.wrap (sj + cj) = sj + cj := IntWalk.i64_in _ (by omega)
              have hcj : ¬ cj < 0 := by omega
              obtain ⟨k0, k1⟩ := HALL.out wr HBr.out
              go_wp2_with fail
              refine HCJ.out.mono ?_
              rintro e w5 ⟨rfl, hb⟩
              have HA5 := Lib.hid (HA.out.next hb)
              have HB5 := Lib.hid (HBr.out.trans (hb.mono HBr.out.size))
              obtain ⟨u0, u1⟩ := HAZ.out w5 HA5.out
              clear hb k0 k1
              go_wp2_with fail
              go_roundw
              case rel => exact ⟨j + 1, sj + cj, by omega, by go_num, by go_num, HS1.out.symm, HP.out _ HA5.out, HB5.out.setCell (Nat.le_refl _) _⟩
              case measure => simp [intOf]; omega
            · have hj2 : ¬ (j : Int) < 16 := by omega
              obtain rfl : j = 16 := by omega
              obtain rfl : sj = hi - lo := by rw [HSJ.out]; exact (counts_bd HCAN.out HCTX.out 0 (by omega)).2.2
              have HAC : Hid (Arr w2.heap.size (fun k => cnt k C) wr) := HA.out.same fun k hk => (if_pos hk).symm
              have HRN := Lib.hid (HRUN.out wr HBr.out)
              obtain ⟨k0, k1⟩ := HALL.out wr HBr.out
              clear HA HSJ
              go_wp2_with fail
              refine HRN.out.mono ?_
              rintro e w6 ⟨v, rfl, HRS, hb⟩
              have HA6 := Lib.hid (HAC.out.next hb)
              have HB6 := Lib.hid (HBr.out.trans (hb.mono HBr.out.size))
              obtain ⟨bs, hbs⟩ : ∃ bs, bs = wr.heap.size := ⟨_, rfl⟩
              have HBS : Hid (w2.heap.size < bs) := by rw [hbs]; exact HAC.out.lt
              rw [← hbs] at HRS
              clear hbs
              clear hb k0 k1
              obtain ⟨ra, rc, hv, -⟩ := HRS.out
              subst hv
              obtain ⟨cl, hcl⟩ : ∃ cl, cl = C.length := ⟨_, rfl⟩
              rw [← hcl] at HRS ⊢
              have HCL := Lib.hid hcl
              have hclb : cl ≤ 4096 := by rw [hcl]; exact HCLB.out
              clear hcl
              go_wp2_with fail
              go_loopw [18, 19, 79] (fun av lv i wr => ∃ (j : Nat) (m la : Int), j ≤ cl ∧ i = .int .i64 j ∧ av = .int .i64 m ∧ lv = .int .i64 la ∧ Hid (Gs.Can f m (C.drop j) hi) ∧ Hid (lo ≤ m ∧ ∀ y, (C.drop j).head? = some y → y.tag ≠ la) ∧ Hid (Arr w2.heap.size (fun k => cnt k (C.drop j)) wr) ∧ Hid (IsRs bs wr (.slice ra cl rc) C) ∧ Hid (Below w2.heap.size w2 wr)) (fun _ _ i _ => cl - (intOf i).toNat)
              case atStart =>
                refine ⟨0, lo, -1, by omega, rfl, rfl, rfl, HCAN.out, ⟨Int.le_refl _, fun y hy => ?_⟩, HA6.out, HRS.out, HB6.out⟩
                have := (Fits.bd HCAN.out.1 HCTX.out y (List.mem_of_mem_head? hy)).2.2.2.1
                omega
              case round =>
                obtain ⟨j, m, la, hj, rfl, rfl, rfl, HCJ, HTL, HA, HRS', HBr'⟩ := hrel
                clear HA6 HB6 HRS
                by_cases hlt : j < cl
                · have hj2 : (j : Int) < cl := by omega
                  have hjl : j < C.length := by rw [← HCL.out]; exact hlt
                  obtain ⟨ra', rc', hv, hcs⟩ := HRS'.out
                  injection hv with hv1 hv2 hv3
                  clear hv2 hv3
                  subst hv1
                  obtain ⟨G, rfl, ⟨hG1, hG2⟩, hcs⟩ := hcs (by have := HCL.out; omega)
                  obtain ⟨c0, c1, c2⟩ := hcs j hjl
                  clear hcs
                  have hdr : C.drop j = C[j] :: C.drop (j + 1) := List.drop_eq_getElem_cons hjl
                  have hcan := HCJ.out
                  have htl := HTL.out.2
                  have HAj := HA.out
                  rw [hdr] at hcan htl HAj
                  obtain ⟨⟨xlo, xhi, xtag⟩, hx⟩ : ∃ x, x = C[j] := ⟨_, rfl⟩
                  rw [← hx] at hcan htl HAj c0 c1 c2
                  simp only at c0 c1 c2
                  obtain ⟨e1, e2, e3, e4⟩ := hcan.1
                  simp only at e1 e2 e3 e4
                  have hbx := Fits.bd hcan.1 (HCTX.out.sub HTL.out.1 (Int.le_refl _)) _ (List.mem_cons_self ..)
                  obtain ⟨b1, b2, b3, b4, b5⟩ := hbx
                  simp only at b1 b2 b3 b4 b5
                  obtain ⟨tg, rfl⟩ : ∃ tg : Nat, xtag = tg := ⟨xtag.toNat, by omega⟩
                  have htg : tg < 16 := by omega
                  subst e1
                  have hne := htl _ rfl
                  simp only at hne
                  have HNE : Hid (((tg : Int) == la) = false) := beq_eq_false_iff_ne.2 hne
                  have hcnt : cnt tg (⟨xlo, xhi, tg⟩ :: C.drop (j + 1)) = (xhi - xlo) + cnt tg (C.drop (j + 1)) := by
                    show (if (tg : Int) = tg then xhi - xlo else 0) + _ = _
                    rw [if_pos rfl]
                  have hcb := cb_bd 0 tg hcan.1
                  have hcb2 := cb_bd 0 tg e4
                  have HCAN2 : Hid (Gs.Can f xhi (C.drop (j + 1)) hi) := ⟨e4, hcan.2.tail⟩
                  have HTL2 : Hid (lo ≤ xhi ∧ ∀ y, (C.drop (j + 1)).head? = some y → y.tag ≠ (tg : Int)) := ⟨by have := HTL.out.1; omega, fun y hy he => by
                    have h2 := hcan.2
                    revert h2 hy
                    generalize C.drop (j + 1) = rest
                    intro hy h2
                    cases rest with
                    | nil => cases hy
                    | cons z rest =>
                      have : z = y := by simpa using hy
                      subst this
                      exact h2.1 he.symm⟩
                  have HP : Hid (∀ W', Arr w2.heap.size (fun k => cnt k (⟨xlo, xhi, tg⟩ :: C.drop (j + 1))) W' → Arr w2.heap.size (fun k => cnt k (C.drop (j + 1))) (W'.setCell ⟨w2.heap.size, tg, none⟩ (.int .i64 (cnt tg (C.drop (j + 1)))))) := fun W' h => h.put tg _ htg fun k hk => by
                    show cnt k (C.drop (j + 1)) = if k = tg then cnt tg (C.drop (j + 1)) else (if (tg : Int) = k then xhi - xlo else 0) + cnt k (C.drop (j + 1))
                    by_cases e : k = tg
                    · subst e; rw [if_pos rfl]
                    · rw [if_neg e, if_neg (by omega)]; omega
                  have HAX := Lib.hid HAj
                  obtain ⟨u0, u1⟩ : _ ∧ _ := ⟨HAj.c tg htg, HAj.f tg htg⟩
                  have HHI := HCTX.out.2.1
                  obtain ⟨cv, hcv⟩ : ∃ cv, cv = cnt tg (C.drop (j + 1)) := ⟨_, rfl⟩
                  have u2 : wr.cell? ⟨w2.heap.size, tg, none⟩ = some (.int .i64 (xhi - xlo + cv)) := by rw [hcv, ← hcnt]; exact u0
                  rw [← hcv] at HP
                  have hb1 : 0 ≤ cv ∧ cv ≤ 1099511627776 := by rw [hcv]; omega
                  obtain ⟨wx, HWX⟩ : ∃ wx, wx = wr.alloc (.cells #[.int .i64 xlo, .int .i64 xhi, .int .i64 tg] 46) := ⟨_, rfl⟩
                  have bx : Below wr.heap.size wr wx := by rw [HWX]; exact (Below.refl _ _).alloc (Nat.le_refl _) _
                  have r0 : wx.cell? ⟨wr.heap.size, 0, none⟩ = some (.int .i64 xlo) := by rw [HWX]; exact World.cell?_alloc_at _ _ _ _ rfl
                  have r1 : wx.cell? ⟨wr.heap.size, 1, none⟩ = some (.int .i64 xhi) := by rw [HWX]; exact World.cell?_alloc_at _ _ _ _ rfl
                  have r2 : wx.cell? ⟨wr.heap.size, 2, none⟩ = some (.int .i64 tg) := by rw [HWX]; exact World.cell?_alloc_at _ _ _ _ rfl
                  have v0 : wx.cell? ⟨w2.heap.size, tg, none⟩ = some (.int .i64 (xhi - xlo + cv)) := (bx.cell (p := ⟨w2.heap.size, tg, none⟩) HAX.out.lt).trans u2
                  have v1 : wx.frozen? ⟨w2.heap.size, tg, none⟩ = false := (bx.frozen (p := ⟨w2.heap.size, tg, none⟩) HAX.out.lt).trans u1
                  have HAx := Lib.hid (HAX.out.next bx)
                  have HBx := Lib.hid (HBr'.out.trans (bx.mono HBr'.out.size))
                  have HRx := Lib.hid ((HRS'.out.below bx).set ⟨w2.heap.size, tg, none⟩ HBS.out (.int .i64 cv))
                  have hw1 : IntKind.i64.wrap (xhi - xlo) = xhi - xlo := IntWalk.i64_in _ (by omega)
                  have hw2 : IntKind.i64.wrap (xhi - xlo + cv - (xhi - xlo)) = cv := by rw [show xhi - xlo + cv - (xhi - xlo) = cv by omega]; exact IntWalk.i64_in _ (by omega)
                  have q1 : ¬ xhi ≤ xlo := by omega
                  have q2 : ¬ (tg : Int) < 0 := by omega
                  have q3 : ¬ (tg : Int) ≥ 16 := by omega
                  have q4 : (tg : Int) < 16 := by omega
                  have q5 := HNE.out
                  have HWX' := Lib.hid HWX
                  clear hdr hcan htl HAj hx e2 e3 e4 b1 b2 b3 b4 b5 hne hcnt hcb hcb2 HHI hcv u0 u1 u2 hb1 HWX bx hG1 HCJ HTL
                  go_upto_region 19 with fail
                  rw [← HWX'.out]
                  clear c0 c1 c2
                  go_wp2_with fail
                  go_region
                  obtain ⟨wz, HWZ⟩ : ∃ wz, wz = (wx.setCell ⟨w2.heap.size, tg, none⟩ (.int .i64 cv)).drew := ⟨_, rfl⟩
                  rw [← HWZ]
                  have hne2 : ∀ i, (⟨w2.heap.size, tg, none⟩ : Addr) ≠ ⟨wr.heap.size, i, none⟩ := fun i e => by
                    injection e with e1
                    have := HA.out.lt
                    omega
                  have t1 : wz.cell? ⟨wr.heap.size, 1, none⟩ = some (.int .i64 xhi) := by rw [HWZ]; exact (World.cell?_setCell_other _ _ _ _ (hne2 1)).trans r1
                  have t2 : wz.cell? ⟨wr.heap.size, 2, none⟩ = some (.int .i64 tg) := by rw [HWZ]; exact (World.cell?_setCell_other _ _ _ _ (hne2 2)).trans r2
                  have HAZ : Hid (Arr w2.heap.size (fun k => cnt k (C.drop (j + 1))) wz) := by rw [HWZ]; exact (HP.out _ HAx.out).next (Below.refl _ _).drew
                  have HRZ : Hid (IsRs bs wz (.slice (some ⟨G, 0, none⟩) cl rc) C) := by rw [HWZ]; exact HRx.out.below (Below.refl _ _).drew
                  have HBZ : Hid (Below w2.heap.size w2 wz) := by rw [HWZ]; exact (HBx.out.setCell (Nat.le_refl _) _).drew
                  clear HWZ r0 r1 r2 v0 v1
                  go_wp2_with fail
                  go_roundw
                  case rel => exact ⟨j + 1, xhi, tg, by omega, by go_num, rfl, rfl, HCAN2.out, HTL2.out, HAZ.out, HRZ.out, HBZ.out⟩
                  case measure => simp [intOf]; omega
                · have hj3 : ¬ (j : Int) < cl := by omega
                  obtain rfl : j = cl := by omega
                  have hdr : C.drop j = [] := List.drop_eq_nil_of_le (by rw [HCL.out]; exact Nat.le_refl _)
                  obtain rfl : m = hi := by have := HCJ.out.1; rw [hdr] at this; exact this
                  have HA0 := HA.out
                  rw [hdr] at HA0
                  have HZ : Hid (∀ k, k < 16 → wr.cell? ⟨w2.heap.size, k, none⟩ = some (.int .i64 0)) := fun k hk => HA0.c k hk
                  clear hdr HA0
                  have z0 := HZ.out 0 (by omega)
                  have z1 := HZ.out 1 (by omega)
                  have z2 := HZ.out 2 (by omega)
                  have z3 := HZ.out 3 (by omega)
                  have z4 := HZ.out 4 (by omega)
                  have z5 := HZ.out 5 (by omega)
                  have z6 := HZ.out 6 (by omega)
                  have z7 := HZ.out 7 (by omega)
                  have z8 := HZ.out 8 (by omega)
                  have z9 := HZ.out 9 (by omega)
                  have z10 := HZ.out 10 (by omega)
                  have z11 := HZ.out 11 (by omega)
                  have z12 := HZ.out 12 (by omega)
                  have z13 := HZ.out 13 (by omega)
                  have z14 := HZ.out 14 (by omega)
                  have z15 := HZ.out 15 (by omega)
                  have hEQ : ∀ w : World, Sem.run Try.prog (Op.equalIn 10000 40 (.agg #[.int .i64 0, .int .i64 0, .int .i64 0, .int .i64 0, .int .i64 0, .int .i64 0, .int .i64 0, .int .i64 0, .int .i64 0, .int .i64 0, .int .i64 0, .int .i64 0, .int .i64 0, .int .i64 0, .int .i64 0, .int .i64 0]) (.agg #[.int .i64 0, .int .i64 0, .int .i64 0, .int .i64 0, .int .i64 0, .int .i64 0, .int .i64 0, .int .i64 0, .int .i64 0, .int .i64 0, .int .i64 0, .int .i64 0, .int .i64 0, .int .i64 0, .int .i64 0, .int .i64 0])) w = .ok true w := fun w => by kernel_rfl
                  have hw3 : IntKind.i64.wrap (m - lo) = m - lo := IntWalk.i64_in _ (by have := HLH.out; omega)
                  go_wp2_with fail
                  refine (HAW.out _ (HBW.out _ HBr'.out)).mono ?_
                  rintro e w9 ⟨rfl, HF⟩
                  go_wp2_with fail
                  go_ret
                  exact ⟨rfl, HF.out⟩
end Go.Proofs.Ytngjpmlfdipkiab
