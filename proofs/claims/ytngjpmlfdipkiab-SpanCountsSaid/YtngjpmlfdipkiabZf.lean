/- The law SpanFinds: its walk. -/
import Derived.Test.YtngjpmlfdipkiabZe
namespace Go.Proofs.Ytngjpmlfdipkiab
open Go Go.RowKit Gs

/-- as many pieces with the tag are below a piece as are in all, but for it and those above it -/
theorem cb_lt {f : Int → Int} {x : Int} {L : List R} {b : Int} (h : Gs.Can f 0 L b) (h0 : 0 ≤ x) (h1 : x < b) : 0 ≤ cb x (f x) L ∧ cb x (f x) L < cnt (f x) L := by
  have h2 := cb_succ (k := f x) h.1 h0 h1
  rw [if_pos rfl] at h2
  have h3 := cb_bd (x + 1) (f x) h.1
  have h4 := cb_bd x (f x) h.1
  omega
theorem isT_ctx {f : Int → Int} {x b : Int} (h : Ctx f 0 b) (h0 : 0 ≤ x) (h1 : x < b) : ∃ k : Nat, f x = k ∧ k < 16 := by
  have := h.2.2 x h0 h1
  exact ⟨(f x).toNat, by omega, by omega⟩
/-- Count from 0, of a tag that is one -/
theorem Count_zero {f : Int → Int} {size hi : Int} {k : Nat} {W : World} {p : Option Addr} {L : List R} (h : IsM f size W p) (hL : Gs.Can f 0 L size) (h2 : 0 ≤ hi) (h3 : hi ≤ size) (hk : k < 16) :
    Calls Try.prog 16 #[.agg #[.pointer p, .int .i64 size], .int .i64 0, .int .i64 hi, .int .i64 k] W fun e w' => e = .returned (.tuple #[.int .i64 (cb hi k L), .int .i64 0]) ∧ Below W.heap.size W w' := by
  obtain ⟨L', h1, h4⟩ := Count_ok (k := k) h (Int.le_refl 0) h2 h3 hk
  have := Gs.Can.same h1 hL
  subst this
  rw [cb_low 0 k hL.1 (Int.le_refl 0), Int.sub_zero] at h4
  exact h4
theorem Find_same {f : Int → Int} {size tag k : Int} {W : World} {p : Option Addr} {L : List R} (h : IsM f size W p) (hL : Gs.Can f 0 L size) :
    Calls Try.prog 18 #[.agg #[.pointer p, .int .i64 size], .int .i64 tag, .int .i64 k] W fun e w' => ∃ x is, e = .returned (.tuple #[.int .i64 x, .bool is]) ∧ Hid (FindOf f size tag k L x is) ∧ Below W.heap.size W w' := by
  obtain ⟨L', h1, h2⟩ := Find_any (tag := tag) (k := k) h
  have := Gs.Can.same h1 hL
  subst this
  exact h2
set_option maxRecDepth 100000 in
set_option maxHeartbeats 4000000 in
theorem spanFinds_walk (size : Int) (v : Value) (l : List Act) (qa ql qh qm qt qk : Int) (W : World) (hl : IsAs W v l) :
    Calls Try.prog 5 #[.int .i64 size, v, .agg #[.int .i64 qa, .int .i64 ql, .int .i64 qh, .int .i64 qm, .int .i64 qt, .int .i64 qk]] W fun e w' => e = .returned (.bool true) ∧ Below W.heap.size W w' := by
  obtain ⟨w0, HW⟩ : ∃ w0, w0 = W.alloc (.cells #[.int .i64 qa, .int .i64 ql, .int .i64 qh, .int .i64 qm, .int .i64 qt, .int .i64 qk] 49) := ⟨_, rfl⟩
  have hb0 : Below W.heap.size W w0 := by rw [HW]; exact (Below.refl _ _).alloc (Nat.le_refl _) _
  have hlt0 : W.heap.size < w0.heap.size := by rw [HW]; simp
  have hq0 : w0.cell? ⟨W.heap.size, 0, none⟩ = some (.int .i64 qa) := by rw [HW]; exact World.cell?_alloc_at _ _ _ _ rfl
  have hq4 : w0.cell? ⟨W.heap.size, 4, none⟩ = some (.int .i64 qt) := by rw [HW]; exact World.cell?_alloc_at _ _ _ _ rfl
  have hq5 : w0.cell? ⟨W.heap.size, 5, none⟩ = some (.int .i64 qk) := by rw [HW]; exact World.cell?_alloc_at _ _ _ _ rfl
  have HQ : Hid (∀ W', Below w0.heap.size w0 W' → W'.cell? ⟨W.heap.size, 0, none⟩ = some (.int .i64 qa) ∧ W'.cell? ⟨W.heap.size, 4, none⟩ = some (.int .i64 qt) ∧ W'.cell? ⟨W.heap.size, 5, none⟩ = some (.int .i64 qk)) := fun W' h => ⟨(h.cell (p := ⟨W.heap.size, 0, none⟩) hlt0).trans hq0, (h.cell (p := ⟨W.heap.size, 4, none⟩) hlt0).trans hq4, (h.cell (p := ⟨W.heap.size, 5, none⟩) hlt0).trans hq5⟩
  have HBU := Lib.hid (built_any (size := size) (hl.below hb0))
  have HAW := Lib.hid (fun W' => awake_any W')
  have HB := Lib.hid hb0; have HW' := Lib.hid HW
  obtain ⟨ao, c, rfl, -⟩ := hl
  clear hb0 hlt0 hq0 hq4 hq5 HW
  obtain ⟨n, hnn⟩ : ∃ n, n = l.length := ⟨_, rfl⟩
  rw [← hnn] at HBU ⊢
  clear hnn
  go_enter Try.func5, Try.ntmps5
  go_wp2_with fail
  rw [← HW'.out]
  refine HBU.out.mono ?_
  rintro e w1 ⟨q, s, ok, rfl, HOK, -, hb⟩
  have HB1 := Lib.hid hb
  clear hb
  cases ok with
  | false =>
    go_wp2_with fail
    refine (HAW.out _).mono ?_
    rintro e w2 ⟨rfl, hb⟩
    have HF : Hid (Below W.heap.size W w2) := HB.out.trans ((HB1.out.trans (((Below.refl _ _).alloc (Nat.le_refl _) _).trans (hb.mono (by simp)) |>.mono HB1.out.size)).mono HB.out.size)
    clear hb
    go_wp2_with fail
    go_ret
    exact ⟨rfl, HF.out⟩
  | true =>
    obtain ⟨-, rfl, f, hf, -⟩ := HOK.out rfl
    obtain ⟨L, hL, -⟩ := hf.can
    have HL := Lib.hid hL
    obtain ⟨w2, HW2⟩ : ∃ w2, w2 = w1.alloc (.cells #[.pointer q, .int .i64 s] 27) := ⟨_, rfl⟩
    have hb2 : Below w1.heap.size w1 w2 := by rw [HW2]; exact (Below.refl _ _).alloc (Nat.le_refl _) _
    have hm2 : Mb w1.heap.size q s w2 := by rw [HW2]; exact Mb.new _ _ _ _
    have HI2 := Lib.hid (hf.below hb2)
    have HM2 := Lib.hid hm2
    have HB02 := Lib.hid (HB1.out.trans (hb2.mono HB1.out.size))
    have HALL : Hid (∀ W', Below w2.heap.size w2 W' → (W'.cell? ⟨w1.heap.size, 0, none⟩ = some (.pointer q) ∧ W'.cell? ⟨w1.heap.size, 1, none⟩ = some (.int .i64 s) ∧ W'.cell? ⟨W.heap.size, 0, none⟩ = some (.int .i64 qa) ∧ W'.cell? ⟨W.heap.size, 4, none⟩ = some (.int .i64 qt) ∧ W'.cell? ⟨W.heap.size, 5, none⟩ = some (.int .i64 qk))) := fun W' h =>
      have hq := HQ.out W' (HB02.out.trans (h.mono HB02.out.size))
      ⟨(HM2.out.next h).c0, (HM2.out.next h).c1, hq.1, hq.2.1, hq.2.2⟩
    have HBW : Hid (∀ W', Below w2.heap.size w2 W' → Below W.heap.size W W') := fun W' h => HB.out.trans ((HB02.out.trans (h.mono HB02.out.size)).mono HB.out.size)
    have HBw2 : Hid (Below w2.heap.size w2 w2) := Below.refl _ _
    have HGET : Hid (∀ x W', Below w2.heap.size w2 W' → 0 ≤ x → x < s → Calls Try.prog 12 #[.agg #[.pointer q, .int .i64 s], .int .i64 x] W' fun e w' => e = .returned (.tuple #[.int .i64 (f x), .int .i64 0]) ∧ Below w2.heap.size w2 w') := fun x W' h h0 h1 => (Get_ok (HI2.out.below h) h0 h1).mono fun e w' ⟨he, hB⟩ => ⟨he, h.trans (hB.mono h.size)⟩
    have HCNT : Hid (∀ x (k : Nat) W', Below w2.heap.size w2 W' → 0 ≤ x → x ≤ s → k < 16 → Calls Try.prog 16 #[.agg #[.pointer q, .int .i64 s], .int .i64 0, .int .i64 x, .int .i64 k] W' fun e w' => e = .returned (.tuple #[.int .i64 (cb x k L), .int .i64 0]) ∧ Below w2.heap.size w2 w') := fun x k W' h h0 h1 hk => (Count_zero (HI2.out.below h) HL.out h0 h1 hk).mono fun e w' ⟨he, hB⟩ => ⟨he, h.trans (hB.mono h.size)⟩
    have HFND : Hid (∀ tag k W', Below w2.heap.size w2 W' → Calls Try.prog 18 #[.agg #[.pointer q, .int .i64 s], .int .i64 tag, .int .i64 k] W' fun e w' => ∃ x is, e = .returned (.tuple #[.int .i64 x, .bool is]) ∧ Hid (FindOf f s tag k L x is) ∧ Below w2.heap.size w2 w') := fun tag k W' h => (Find_same (HI2.out.below h) HL.out).mono fun e w' ⟨x, is, he, hx, hB⟩ => ⟨x, is, he, hx, h.trans (hB.mono h.size)⟩
    have HAW2 : Hid (∀ W', Below w2.heap.size w2 W' → Calls Try.prog 11 #[] W' fun e w' => e = .returned (.bool true) ∧ Below w2.heap.size w2 w') := fun W' h => (HAW.out W').mono fun e w' ⟨he, hB⟩ => ⟨he, h.trans (hB.mono h.size)⟩
    have HCX := Lib.hid HI2.out.ctx
    have HSZ := Lib.hid HI2.out.lo
    have HW2' := Lib.hid HW2
    clear hf hL hb2 hm2 HW2
    go_upto_region 2 with fail
    rw [← HW2'.out]
    obtain ⟨k0, k1, k2, k3, k4⟩ := HALL.out w2 HBw2.out
    go_wp2_with fail
    refine (HFND.out _ _ _ HBw2.out).mono ?_
    rintro e w3 ⟨x, is, rfl, HX, hb⟩
    have HBw3 := Lib.hid hb
    clear hb k0 k1 k2 k3 k4
    obtain ⟨k0, k1, k2, k3, k4⟩ := HALL.out w3 HBw3.out
    rcases HX.out with ⟨rfl, ht, h0, h1, h2, h3, h4, h5⟩ | ⟨rfl, rfl, hno⟩

    · -- found
      obtain ⟨e1, e2⟩ : 0 ≤ qt ∧ qt < 16 := of_decide_eq_true ht
      obtain ⟨tq, rfl⟩ : ∃ t : Nat, qt = t := ⟨qt.toNat, by omega⟩
      have htq : tq < 16 := by omega
      have HG1 := HGET.out x
      rw [h4] at HG1
      have HG1 := Lib.hid HG1
      have HC1 : Hid (∀ W', Below w2.heap.size w2 W' → Calls Try.prog 16 #[.agg #[.pointer q, .int .i64 s], .int .i64 0, .int .i64 x, .int .i64 tq] W' fun e w' => e = .returned (.tuple #[.int .i64 qk, .int .i64 0]) ∧ Below w2.heap.size w2 w') := fun W' h => by
        have := HCNT.out x tq W' h h2 (Int.le_of_lt h3) htq
        rwa [h5] at this
      clear h4 h5 ht h0 h1
      go_wp2_with fail
      refine (HG1.out _ HBw3.out h2 h3).mono ?_
      rintro e w31 ⟨rfl, hb⟩
      have HBw31 := Lib.hid hb
      clear hb k0 k1 k2 k3 k4
      obtain ⟨k0, k1, k2, k3, k4⟩ := HALL.out w31 HBw31.out
      go_wp2_with fail
      refine (HC1.out _ HBw31.out).mono ?_
      rintro e w4 ⟨rfl, hb⟩
      have HBw4 := Lib.hid hb
      clear hb k0 k1 k2 k3 k4
      obtain ⟨k0, k1, k2, k3, k4⟩ := HALL.out w4 HBw4.out
      by_cases ga : qa < 0
      · go_wp2_with fail
        refine (HAW2.out _ HBw4.out).mono ?_
        rintro e w8 ⟨rfl, hb⟩
        have HF := Lib.hid (HBW.out _ hb)
        clear hb
        go_wp2_with fail
        go_ret
        exact ⟨rfl, HF.out⟩
      · by_cases gb : qa ≥ s
        · go_wp2_with fail
          refine (HAW2.out _ HBw4.out).mono ?_
          rintro e w8 ⟨rfl, hb⟩
          have HF := Lib.hid (HBW.out _ hb)
          clear hb
          go_wp2_with fail
          go_ret
          exact ⟨rfl, HF.out⟩
        · have g0 : 0 ≤ qa := by omega
          have g1 : qa < s := by omega
          obtain ⟨tk, hfk, htk⟩ := isT_ctx HCX.out g0 g1
          have HG := HGET.out qa
          rw [hfk] at HG
          have hlt := cb_lt HL.out g0 g1
          rw [hfk] at hlt
          have HFK := Lib.hid hfk
          have HLT := Lib.hid hlt
          clear hfk hlt
          have HG := Lib.hid HG
          have HCQ := Lib.hid (fun W' h => HCNT.out qa tk W' h g0 (Int.le_of_lt g1) htk)
          have HFQ := Lib.hid (fun W' h => HFND.out tk (cb qa tk L) W' h)
          obtain ⟨cq, hcq⟩ : ∃ cq, cq = cb qa tk L := ⟨_, rfl⟩
          rw [← hcq] at HCQ HFQ
          have HCE := Lib.hid hcq
          clear hcq
          go_wp2_with fail
          refine (HG.out _ HBw4.out g0 g1).mono ?_
          rintro e w5 ⟨rfl, hb⟩
          have HBw5 := Lib.hid hb
          clear hb k0 k1 k2 k3 k4
          obtain ⟨k0, k1, k2, k3, k4⟩ := HALL.out w5 HBw5.out
          go_wp2_with fail
          refine (HCQ.out _ HBw5.out).mono ?_
          rintro e w6 ⟨rfl, hb⟩
          have HBw6 := Lib.hid hb
          clear hb k0 k1 k2 k3 k4
          obtain ⟨k0, k1, k2, k3, k4⟩ := HALL.out w6 HBw6.out
          go_wp2_with fail
          refine (HFQ.out _ HBw6.out).mono ?_
          rintro e w7 ⟨y, is2, rfl, HY, hb⟩
          have HBw7 := Lib.hid hb
          clear hb k0 k1 k2 k3 k4
          obtain ⟨k0, k1, k2, k3, k4⟩ := HALL.out w7 HBw7.out
          rcases HY.out with ⟨rfl, _, _, _, y1, y2, y3, y4⟩ | ⟨_, _, hno⟩
          · have hyx : y = qa := find_one HL.out.1 y1 y2 g0 g1 y3 HFK.out y4 HCE.out.symm
            subst hyx
            clear y1 y2 y3 y4
            go_wp2_with fail
            refine (HAW2.out _ HBw7.out).mono ?_
            rintro e w8 ⟨rfl, hb⟩
            have HF := Lib.hid (HBW.out _ hb)
            clear hb
            go_wp2_with fail
            go_ret
            exact ⟨rfl, HF.out⟩
          · exfalso
            have e1 := HLT.out; have e2 := HCE.out
            rcases hno with hno | hno | hno
            · exact absurd (decide_eq_true (p := 0 ≤ (tk : Int) ∧ (tk : Int) < 16) ⟨by omega, by omega⟩) (Bool.eq_false_iff.1 hno)
            · omega
            · omega
    · by_cases ht : isT qt = true
      · obtain ⟨e1, e2⟩ : 0 ≤ qt ∧ qt < 16 := of_decide_eq_true ht
        obtain ⟨tq, rfl⟩ : ∃ t : Nat, qt = t := ⟨qt.toNat, by omega⟩
        have htq : tq < 16 := by omega
        have hno2 : ¬ (qk ≥ 0 ∧ qk < cb s tq L) := by
          rw [cb_high s tq HL.out.1 (Int.le_refl s)]
          rcases hno with h | h | h
          · rw [ht] at h; cases h
          · omega
          · omega
        have HC1 := Lib.hid (fun W' h => HCNT.out s tq W' h (by have := HSZ.out; omega) (Int.le_refl s) htq)
        clear hno ht
        generalize cb s tq L = CS at *
        go_wp2_with fail
        refine (HC1.out _ HBw3.out).mono ?_
        rintro e w4 ⟨rfl, hb⟩
        have HBw4 := Lib.hid hb
        clear hb k0 k1 k2 k3 k4
        obtain ⟨k0, k1, k2, k3, k4⟩ := HALL.out w4 HBw4.out
        by_cases gk : qk ≥ 0
        · have gk2 : ¬ qk < CS := fun h => hno2 ⟨gk, h⟩
          clear hno2
          by_cases ga : qa < 0
          · go_wp2_with fail
            refine (HAW2.out _ HBw4.out).mono ?_
            rintro e w8 ⟨rfl, hb⟩
            have HF := Lib.hid (HBW.out _ hb)
            clear hb
            go_wp2_with fail
            go_ret
            exact ⟨rfl, HF.out⟩
          · by_cases gb : qa ≥ s
            · go_wp2_with fail
              refine (HAW2.out _ HBw4.out).mono ?_
              rintro e w8 ⟨rfl, hb⟩
              have HF := Lib.hid (HBW.out _ hb)
              clear hb
              go_wp2_with fail
              go_ret
              exact ⟨rfl, HF.out⟩
            · have g0 : 0 ≤ qa := by omega
              have g1 : qa < s := by omega
              obtain ⟨tk, hfk, htk⟩ := isT_ctx HCX.out g0 g1
              have HG := HGET.out qa
              rw [hfk] at HG
              have hlt := cb_lt HL.out g0 g1
              rw [hfk] at hlt
              have HFK := Lib.hid hfk
              have HLT := Lib.hid hlt
              clear hfk hlt
              have HG := Lib.hid HG
              have HCQ := Lib.hid (fun W' h => HCNT.out qa tk W' h g0 (Int.le_of_lt g1) htk)
              have HFQ := Lib.hid (fun W' h => HFND.out tk (cb qa tk L) W' h)
              obtain ⟨cq, hcq⟩ : ∃ cq, cq = cb qa tk L := ⟨_, rfl⟩
              rw [← hcq] at HCQ HFQ
              have HCE := Lib.hid hcq
              clear hcq
              go_wp2_with fail
              refine (HG.out _ HBw4.out g0 g1).mono ?_
              rintro e w5 ⟨rfl, hb⟩
              have HBw5 := Lib.hid hb
              clear hb k0 k1 k2 k3 k4
              obtain ⟨k0, k1, k2, k3, k4⟩ := HALL.out w5 HBw5.out
              go_wp2_with fail
              refine (HCQ.out _ HBw5.out).mono ?_
              rintro e w6 ⟨rfl, hb⟩
              have HBw6 := Lib.hid hb
              clear hb k0 k1 k2 k3 k4
              obtain ⟨k0, k1, k2, k3, k4⟩ := HALL.out w6 HBw6.out
              go_wp2_with fail
              refine (HFQ.out _ HBw6.out).mono ?_
              rintro e w7 ⟨y, is2, rfl, HY, hb⟩
              have HBw7 := Lib.hid hb
              clear hb k0 k1 k2 k3 k4
              obtain ⟨k0, k1, k2, k3, k4⟩ := HALL.out w7 HBw7.out
              rcases HY.out with ⟨rfl, _, _, _, y1, y2, y3, y4⟩ | ⟨_, _, hno⟩
              · have hyx : y = qa := find_one HL.out.1 y1 y2 g0 g1 y3 HFK.out y4 HCE.out.symm
                subst hyx
                clear y1 y2 y3 y4
                go_wp2_with fail
                refine (HAW2.out _ HBw7.out).mono ?_
                rintro e w8 ⟨rfl, hb⟩
                have HF := Lib.hid (HBW.out _ hb)
                clear hb
                go_wp2_with fail
                go_ret
                exact ⟨rfl, HF.out⟩
              · exfalso
                have e1 := HLT.out; have e2 := HCE.out
                rcases hno with hno | hno | hno
                · exact absurd (decide_eq_true (p := 0 ≤ (tk : Int) ∧ (tk : Int) < 16) ⟨by omega, by omega⟩) (Bool.eq_false_iff.1 hno)
                · omega
                · omega
        · clear hno2
          by_cases ga : qa < 0
          · go_wp2_with fail
            refine (HAW2.out _ HBw4.out).mono ?_
            rintro e w8 ⟨rfl, hb⟩
            have HF := Lib.hid (HBW.out _ hb)
            clear hb
            go_wp2_with fail
            go_ret
            exact ⟨rfl, HF.out⟩
          · by_cases gb : qa ≥ s
            · go_wp2_with fail
              refine (HAW2.out _ HBw4.out).mono ?_
              rintro e w8 ⟨rfl, hb⟩
              have HF := Lib.hid (HBW.out _ hb)
              clear hb
              go_wp2_with fail
              go_ret
              exact ⟨rfl, HF.out⟩
            · have g0 : 0 ≤ qa := by omega
              have g1 : qa < s := by omega
              obtain ⟨tk, hfk, htk⟩ := isT_ctx HCX.out g0 g1
              have HG := HGET.out qa
              rw [hfk] at HG
              have hlt := cb_lt HL.out g0 g1
              rw [hfk] at hlt
              have HFK := Lib.hid hfk
              have HLT := Lib.hid hlt
              clear hfk hlt
              have HG := Lib.hid HG
              have HCQ := Lib.hid (fun W' h => HCNT.out qa tk W' h g0 (Int.le_of_lt g1) htk)
              have HFQ := Lib.hid (fun W' h => HFND.out tk (cb qa tk L) W' h)
              obtain ⟨cq, hcq⟩ : ∃ cq, cq = cb qa tk L := ⟨_, rfl⟩
              rw [← hcq] at HCQ HFQ
              have HCE := Lib.hid hcq
              clear hcq
              go_wp2_with fail
              refine (HG.out _ HBw4.out g0 g1).mono ?_
              rintro e w5 ⟨rfl, hb⟩
              have HBw5 := Lib.hid hb
              clear hb k0 k1 k2 k3 k4
              obtain ⟨k0, k1, k2, k3, k4⟩ := HALL.out w5 HBw5.out
              go_wp2_with fail
              refine (HCQ.out _ HBw5.out).mono ?_
              rintro e w6 ⟨rfl, hb⟩
              have HBw6 := Lib.hid hb
              clear hb k0 k1 k2 k3 k4
              obtain ⟨k0, k1, k2, k3, k4⟩ := HALL.out w6 HBw6.out
              go_wp2_with fail
              refine (HFQ.out _ HBw6.out).mono ?_
              rintro e w7 ⟨y, is2, rfl, HY, hb⟩
              have HBw7 := Lib.hid hb
              clear hb k0 k1 k2 k3 k4
              obtain ⟨k0, k1, k2, k3, k4⟩ := HALL.out w7 HBw7.out
              rcases HY.out with ⟨rfl, _, _, _, y1, y2, y3, y4⟩ | ⟨_, _, hno⟩
              · have hyx : y = qa := find_one HL.out.1 y1 y2 g0 g1 y3 HFK.out y4 HCE.out.symm
                subst hyx
                clear y1 y2 y3 y4
                go_wp2_with fail
                refine (HAW2.out _ HBw7.out).mono ?_
                rintro e w8 ⟨rfl, hb⟩
                have HF := Lib.hid (HBW.out _ hb)
                clear hb
                go_wp2_with fail
                go_ret
                exact ⟨rfl, HF.out⟩
              · exfalso
                have e1 := HLT.out; have e2 := HCE.out
                rcases hno with hno | hno | hno
                · exact absurd (decide_eq_true (p := 0 ≤ (tk : Int) ∧ (tk : Int) < 16) ⟨by omega, by omega⟩) (Bool.eq_false_iff.1 hno)
                · omega
                · omega
      · have HC1 : Hid (∀ W', Below w2.heap.size w2 W' → Calls Try.prog 16 #[.agg #[.pointer q, .int .i64 s], .int .i64 0, .int .i64 s, .int .i64 qt] W' fun e w' => e = .returned (.tuple #[.int .i64 0, .int .i64 2]) ∧ Below w2.heap.size w2 w') := fun W' h => by
          have he : errOf s 0 s [qt] = 2 := by
            unfold errOf
            have := HSZ.out
            rw [if_neg (by omega), if_neg]
            simp only [List.all_cons, List.all_nil, Bool.and_true]
            exact ht
          have h1 := Count_err (lo := 0) (hi := s) (k := qt) (HI2.out.below h) (by rw [he]; decide)
          rw [he] at h1
          exact h1.mono fun e w' ⟨he, hB⟩ => ⟨he, h.trans (hB.mono h.size)⟩
        clear hno ht
        go_wp2_with fail
        refine (HC1.out _ HBw3.out).mono ?_
        rintro e w4 ⟨rfl, hb⟩
        have HBw4 := Lib.hid hb
        clear hb k0 k1 k2 k3 k4
        obtain ⟨k0, k1, k2, k3, k4⟩ := HALL.out w4 HBw4.out
        by_cases ga : qa < 0
        · go_wp2_with fail
          refine (HAW2.out _ HBw4.out).mono ?_
          rintro e w8 ⟨rfl, hb⟩
          have HF := Lib.hid (HBW.out _ hb)
          clear hb
          go_wp2_with fail
          go_ret
          exact ⟨rfl, HF.out⟩
        · by_cases gb : qa ≥ s
          · go_wp2_with fail
            refine (HAW2.out _ HBw4.out).mono ?_
            rintro e w8 ⟨rfl, hb⟩
            have HF := Lib.hid (HBW.out _ hb)
            clear hb
            go_wp2_with fail
            go_ret
            exact ⟨rfl, HF.out⟩
          · have g0 : 0 ≤ qa := by omega
            have g1 : qa < s := by omega
            obtain ⟨tk, hfk, htk⟩ := isT_ctx HCX.out g0 g1
            have HG := HGET.out qa
            rw [hfk] at HG
            have hlt := cb_lt HL.out g0 g1
            rw [hfk] at hlt
            have HFK := Lib.hid hfk
            have HLT := Lib.hid hlt
            clear hfk hlt
            have HG := Lib.hid HG
            have HCQ := Lib.hid (fun W' h => HCNT.out qa tk W' h g0 (Int.le_of_lt g1) htk)
            have HFQ := Lib.hid (fun W' h => HFND.out tk (cb qa tk L) W' h)
            obtain ⟨cq, hcq⟩ : ∃ cq, cq = cb qa tk L := ⟨_, rfl⟩
            rw [← hcq] at HCQ HFQ
            have HCE := Lib.hid hcq
            clear hcq
            go_wp2_with fail
            refine (HG.out _ HBw4.out g0 g1).mono ?_
            rintro e w5 ⟨rfl, hb⟩
            have HBw5 := Lib.hid hb
            clear hb k0 k1 k2 k3 k4
            obtain ⟨k0, k1, k2, k3, k4⟩ := HALL.out w5 HBw5.out
            go_wp2_with fail
            refine (HCQ.out _ HBw5.out).mono ?_
            rintro e w6 ⟨rfl, hb⟩
            have HBw6 := Lib.hid hb
            clear hb k0 k1 k2 k3 k4
            obtain ⟨k0, k1, k2, k3, k4⟩ := HALL.out w6 HBw6.out
            go_wp2_with fail
            refine (HFQ.out _ HBw6.out).mono ?_
            rintro e w7 ⟨y, is2, rfl, HY, hb⟩
            have HBw7 := Lib.hid hb
            clear hb k0 k1 k2 k3 k4
            obtain ⟨k0, k1, k2, k3, k4⟩ := HALL.out w7 HBw7.out
            rcases HY.out with ⟨rfl, _, _, _, y1, y2, y3, y4⟩ | ⟨_, _, hno⟩
            · have hyx : y = qa := find_one HL.out.1 y1 y2 g0 g1 y3 HFK.out y4 HCE.out.symm
              subst hyx
              clear y1 y2 y3 y4
              go_wp2_with fail
              refine (HAW2.out _ HBw7.out).mono ?_
              rintro e w8 ⟨rfl, hb⟩
              have HF := Lib.hid (HBW.out _ hb)
              clear hb
              go_wp2_with fail
              go_ret
              exact ⟨rfl, HF.out⟩
            · exfalso
              have e1 := HLT.out; have e2 := HCE.out
              rcases hno with hno | hno | hno
              · exact absurd (decide_eq_true (p := 0 ≤ (tk : Int) ∧ (tk : Int) < 16) ⟨by omega, by omega⟩) (Bool.eq_false_iff.1 hno)
              · omega
              · omega
end Go.Proofs.Ytngjpmlfdipkiab
