/- Contracts and lemmas (several texts merged into one). -/
import Derived.Test.YtgblfobomiiofaaTSerB
namespace Go.Proofs.Ytgblfobomiiofaa
open Go Go.RowKit Go.Shelf Gw Go.Maps

/-- what Match answers -/
def MatchP (s : Sch) (t : ByteArray) (M : Int) (W : World) (e : Ending) (W' : World) : Prop :=
  Below W.heap.size W W' ∧ ((¬ WellF s ∧ e = .returned (.tuple #[.string ⟨#[]⟩, .int .i64 20])) ∨ (WellF s ∧ ¬ (1 ≤ totS s ∧ totS s ≤ 1099511627776) ∧ e = .returned (.tuple #[.string ⟨#[]⟩, .int .i64 3])) ∨ (ValidS s ∧ ¬ IsMask s t ∧ e = .returned (.tuple #[.string ⟨#[]⟩, .int .i64 4])) ∨
    (ValidS s ∧ IsMask s t ∧ ¬ (0 ≤ M ∧ M < (wordsM s t).length) ∧ e = .returned (.tuple #[.string ⟨#[]⟩, .int .i64 3])) ∨
    (ValidS s ∧ IsMask s t ∧ ∃ (K : Nat) (u : List Nat), M = K ∧ (wordsM s t)[K]? = some u ∧ e = .returned (.tuple #[.string (serB s.al s.ck u), .int .i64 0])))
set_option maxRecDepth 100000 in
set_option maxHeartbeats 4000000 in
theorem Match_any {s : Sch} {bv : Value} {t : ByteArray} {M : Int} {w : World} (hv : IsSs w bv s.bl) : Calls Try.prog 28 #[schV s bv, .string t, .int .i64 M] w (MatchP s t M w) := by
  obtain ⟨w1, hw1⟩ : ∃ w1, w1 = w.alloc (.cells #[.string s.al, .int .i64 s.len, bv, .bool s.ck] 24) := ⟨_, rfl⟩
  have hb1 : Below w.heap.size w w1 := by rw [hw1]; exact below_al _ _
  have H4 : Hid (B4 w.heap.size (.string s.al) (.int .i64 s.len) bv (.bool s.ck) w1) := by rw [hw1]; exact B4.new _ _ _ _ _ _
  have HNS := Lib.hid (openMask_any (s := s) (t := t) (hv.below hb1))
  have HB1 := Lib.hid hb1
  have HW1 := Lib.hid hw1
  obtain ⟨bo, bc, hbv, -⟩ := hv
  obtain ⟨bm, hbm⟩ : ∃ bm, bm = s.bl.length := ⟨_, rfl⟩
  rw [← hbm] at hbv
  subst hbv
  unfold schV at HNS ⊢
  obtain ⟨al, hal⟩ : ∃ al, al = s.al := ⟨_, rfl⟩
  obtain ⟨len, hlen⟩ : ∃ len, len = s.len := ⟨_, rfl⟩
  obtain ⟨ck, hck⟩ : ∃ ck, ck = s.ck := ⟨_, rfl⟩
  rw [← hal, ← hlen, ← hck] at HNS HW1 H4 ⊢
  have HAL := Lib.hid hal
  clear hw1 hb1 hbm hal hlen hck
  have k0 := H4.out.c0; have k1 := H4.out.c1; have k2 := H4.out.c2; have k3 := H4.out.c3
  go_enter Try.func28, Try.ntmps28
  go_upto_region 1 with fail
  rw [← HW1.out]
  go_cut [8, 9, 10, 11] from 8 to 19 (fun s8 s9 s10 s11 wz => ∃ E : Int, s11 = .int .i64 E ∧ Hid (OpenQ s t w1 s8 s9 s10 E wz))
  case first =>
    go_wp2_with (first
      | (go_at_call 56; (with_reducible refine HNS.out.mono ?_); rintro e w2 ⟨pv, sv, cv, E, rfl, HNQ⟩)
      | fail)
    go_meet
    case rel => exact ⟨E, rfl, HNQ⟩
  case rest =>
    obtain ⟨E, rfl, HNQ⟩ := hcut
    apply_assumption
    rcases HNQ.out with ⟨hb, ⟨hn, rfl, rfl, rfl, rfl⟩ | ⟨hn, hm, rfl, rfl, rfl, rfl⟩ | ⟨hn, hm, rfl, rfl, rfl, rfl⟩ | ⟨hV, ht, rfl, x, y, n0, rfl, rfl, rfl, hM, hk, hn0⟩⟩
    · have HN := Lib.hid hn
      have HBB := Lib.hid (HB1.out.trans (hb.mono HB1.out.size))
      clear hn hb HNQ
      go_wp2_with fail
      refine bodyPost_ret (v := .tuple #[.string ⟨#[]⟩, .int .i64 20]) (by simp [results, Try.results28, go_sem]) rfl ?_
      exact ⟨HBB.out, .inl ⟨HN.out, rfl⟩⟩
    · have HN := Lib.hid (And.intro hn hm)
      have HBB := Lib.hid (HB1.out.trans (hb.mono HB1.out.size))
      clear hn hb HNQ
      go_wp2_with fail
      refine bodyPost_ret (v := .tuple #[.string ⟨#[]⟩, .int .i64 3]) (by simp [results, Try.results28, go_sem]) rfl ?_
      exact ⟨HBB.out, .inr (.inl ⟨HN.out.1, HN.out.2, rfl⟩)⟩
    · have HN := Lib.hid (And.intro hn hm)
      have HBB := Lib.hid (HB1.out.trans (hb.mono HB1.out.size))
      clear hn hb HNQ
      go_wp2_with fail
      refine bodyPost_ret (v := .tuple #[.string ⟨#[]⟩, .int .i64 4]) (by simp [results, Try.results28, go_sem]) rfl ?_
      exact ⟨HBB.out, .inr (.inr (.inl ⟨HN.out.1, HN.out.2, rfl⟩))⟩
    · have HV := Lib.hid hV
      have HM := Lib.hid hM
      have HTM := Lib.hid ht
      have HBB := Lib.hid (HB1.out.trans (hb.mono HB1.out.size))
      have HK := Lib.hid (Nat.le_trans HB1.out.size hk)
      have HK2 := Lib.hid (Nat.le_trans (Nat.le_trans HB1.out.size hn0) hM.yb.2.2.2.2.2.1)
      have HST := Lib.hid (fun (W : World) (hW : MkF x y n0 s t W) => start_any hW.sf.ct.se.se)
      have HCT := Lib.hid (fun (W : World) (hW : MkF x y n0 s t W) => count_M hV ht hW)
      unfold plcV at HST
      dsimp only at HST
      obtain ⟨N, hN⟩ : ∃ N, N = (wordsM s t).length := ⟨_, rfl⟩
      rw [← hN] at HCT
      have HN := Lib.hid hN
      obtain ⟨A, hA⟩ : ∃ A, A = s.al.size := ⟨_, rfl⟩
      rw [← hA] at HST HCT
      have HSM := Lib.hid (HST.out _ hM)
      clear hV hM ht hb HNQ hk hn0 k0 k1 k2 k3 hN hA
      by_cases p1 : M < 0
      · have HP : Hid (¬ (0 ≤ M ∧ M < N)) := fun h => by omega
        go_wp2_with fail
        refine bodyPost_ret (v := .tuple #[.string ⟨#[]⟩, .int .i64 3]) (by simp [results, Try.results28, go_sem]) rfl ?_
        exact ⟨HBB.out, .inr (.inr (.inr (.inl ⟨HV.out, HTM.out, by rw [← HN.out]; exact HP.out, rfl⟩)))⟩
      by_cases p2 : M ≥ (N : Int)
      · have HP : Hid (¬ (0 ≤ M ∧ M < N)) := fun h => by omega
        unfold cntV
        go_wp2_with (first
          | (go_at_call 57; (with_reducible refine HSM.out.mono ?_); rintro e w3 ⟨rfl, HB3⟩; have HM3 := Lib.hid (HM.out.below HB3.out); have HC3 := Lib.hid (HCT.out _ HM3.out))
          | (go_at_call 83; (with_reducible refine HC3.out.mono ?_); rintro e w4 ⟨rfl, HM4, HG4⟩)
          | fail)
        refine bodyPost_ret (v := .tuple #[.string ⟨#[]⟩, .int .i64 3]) (by simp [results, Try.results28, go_sem]) rfl ?_
        have h3 := HBB.out.trans (HB3.out.mono HBB.out.size)
        exact ⟨h3.grown HG4.out h3.size (fun j hj => by cases hj; exact HK2.out), .inr (.inr (.inr (.inl ⟨HV.out, HTM.out, by rw [← HN.out]; exact HP.out, rfl⟩)))⟩
      obtain ⟨K, rfl⟩ : ∃ K : Nat, M = K := ⟨M.toNat, by omega⟩
      have HKN : Hid (K < (wordsM s t).length) := by show _ < _; rw [← HN.out]; omega
      have HPK := Lib.hid (fun (W : World) (hW : MkF x y n0 s t W) => pick_M HV.out HTM.out hW HKN.out)
      have HTX : Hid (∀ (V : World) (v : Value) (u : List Nat), MkF x y n0 s t V → IsIs V v (asI u) → u ∈ wordsM s t → Calls Try.prog 48 #[.pointer (some ⟨x.R, 0, none⟩), v] V (fun e w' => e = .returned (.string (serB s.al s.ck u)) ∧ Hid (Below V.heap.size V w'))) := fun V v u hF hI hw => by
        have h9 := wordsM_ok HTM.out hw
        have h8 := HV.out.1.2.2.1
        exact text_any hF.sf.ct.se.se HV.out.1.1.1 HV.out.1.1.2.1 hI h9.2.1 (by rw [h9.1]; unfold nS; omega)
      unfold cntV at HPK ⊢
      obtain ⟨yv, hyv⟩ : ∃ yv, yv = y.mv := ⟨_, rfl⟩
      rw [← hyv] at HPK ⊢
      clear hyv
      go_wp2_with (first
        | (go_at_call 57; (with_reducible refine HSM.out.mono ?_); rintro e w3 ⟨rfl, HB3⟩; have HM3 := Lib.hid (HM.out.below HB3.out); have HC3 := Lib.hid (HCT.out _ HM3.out))
        | (go_at_call 83; (with_reducible refine HC3.out.mono ?_); rintro e w4 ⟨rfl, HM4, HG4⟩; have HP4 := Lib.hid (HPK.out _ HM4.out))
        | (go_at_call 49; (with_reducible refine HP4.out.mono ?_); rintro e w5 ⟨v, u, rfl, hwu, hIu, hM5, hG5⟩; have HWU := Lib.hid hwu; have HG5 := Lib.hid hG5; have HT5 := Lib.hid (HTX.out w5 v u hM5 hIu (List.mem_of_getElem? hwu)); clear hwu hIu hM5 hG5)
        | (go_at_call 48; (with_reducible refine HT5.out.mono ?_); rintro e w6 ⟨rfl, HB6⟩)
        | fail)
      refine bodyPost_ret (v := .tuple #[.string (serB s.al s.ck u), .int .i64 0]) (by simp [results, Try.results28, go_sem]) rfl ?_
      have h3 := HBB.out.trans (HB3.out.mono HBB.out.size)
      have h4 := h3.grown HG4.out h3.size (fun j hj => by cases hj; exact HK2.out)
      have h5 := h4.grown HG5.out h4.size (fun j hj => by cases hj; exact HK2.out)
      exact ⟨h5.trans (HB6.out.mono h5.size), .inr (.inr (.inr (.inr ⟨HV.out, HTM.out, K, u, rfl, HWU.out, rfl⟩)))⟩
end Go.Proofs.Ytgblfobomiiofaa
namespace Go.Proofs.Ytgblfobomiiofaa
open Go Go.RowKit Go.Shelf Gw Go.Maps

/-- what Below answers -/
def BelowP (s : Sch) (t : ByteArray) (M : Int) (W : World) (e : Ending) (W' : World) : Prop :=
  Below W.heap.size W W' ∧ ((¬ WellF s ∧ e = .returned (.tuple #[.int .i64 0, .int .i64 20])) ∨ (WellF s ∧ ¬ (1 ≤ totS s ∧ totS s ≤ 1099511627776) ∧ e = .returned (.tuple #[.int .i64 0, .int .i64 3])) ∨ (ValidS s ∧ ¬ IsMask s t ∧ e = .returned (.tuple #[.int .i64 0, .int .i64 4])) ∨
    (ValidS s ∧ IsMask s t ∧ ¬ (0 ≤ M ∧ M ≤ totS s) ∧ e = .returned (.tuple #[.int .i64 0, .int .i64 3])) ∨
    (ValidS s ∧ IsMask s t ∧ M = totS s ∧ e = .returned (.tuple #[.int .i64 (((wordsM s t).length : Nat) : Int), .int .i64 0])) ∨
    (ValidS s ∧ IsMask s t ∧ ∃ (K : Nat) (u : List Nat), M = K ∧ (wordsS s)[K]? = some u ∧ e = .returned (.tuple #[.int .i64 ((bel (wordsM s t) u : Nat) : Int), .int .i64 0])))
set_option maxRecDepth 100000 in
set_option maxHeartbeats 4000000 in
theorem Below_any {s : Sch} {bv : Value} {t : ByteArray} {M : Int} {w : World} (hv : IsSs w bv s.bl) : Calls Try.prog 29 #[schV s bv, .string t, .int .i64 M] w (BelowP s t M w) := by
  obtain ⟨w1, hw1⟩ : ∃ w1, w1 = w.alloc (.cells #[.string s.al, .int .i64 s.len, bv, .bool s.ck] 24) := ⟨_, rfl⟩
  have hb1 : Below w.heap.size w w1 := by rw [hw1]; exact below_al _ _
  have H4 : Hid (B4 w.heap.size (.string s.al) (.int .i64 s.len) bv (.bool s.ck) w1) := by rw [hw1]; exact B4.new _ _ _ _ _ _
  have HNS := Lib.hid (openMask_any (s := s) (t := t) (hv.below hb1))
  have HB1 := Lib.hid hb1
  have HW1 := Lib.hid hw1
  obtain ⟨bo, bc, hbv, -⟩ := hv
  obtain ⟨bm, hbm⟩ : ∃ bm, bm = s.bl.length := ⟨_, rfl⟩
  rw [← hbm] at hbv
  subst hbv
  unfold schV at HNS ⊢
  obtain ⟨al, hal⟩ : ∃ al, al = s.al := ⟨_, rfl⟩
  obtain ⟨len, hlen⟩ : ∃ len, len = s.len := ⟨_, rfl⟩
  obtain ⟨ck, hck⟩ : ∃ ck, ck = s.ck := ⟨_, rfl⟩
  rw [← hal, ← hlen, ← hck] at HNS HW1 H4 ⊢
  have HAL := Lib.hid hal
  clear hw1 hb1 hbm hal hlen hck
  have k0 := H4.out.c0; have k1 := H4.out.c1; have k2 := H4.out.c2; have k3 := H4.out.c3
  go_enter Try.func29, Try.ntmps29
  go_upto_region 1 with fail
  rw [← HW1.out]
  go_cut [8, 9, 10, 11] from 8 to 20 (fun s8 s9 s10 s11 wz => ∃ E : Int, s11 = .int .i64 E ∧ Hid (OpenQ s t w1 s8 s9 s10 E wz))
  case first =>
    go_wp2_with (first
      | (go_at_call 56; (with_reducible refine HNS.out.mono ?_); rintro e w2 ⟨pv, sv, cv, E, rfl, HNQ⟩)
      | fail)
    go_meet
    case rel => exact ⟨E, rfl, HNQ⟩
  case rest =>
    obtain ⟨E, rfl, HNQ⟩ := hcut
    apply_assumption
    rcases HNQ.out with ⟨hb, ⟨hn, rfl, rfl, rfl, rfl⟩ | ⟨hn, hm, rfl, rfl, rfl, rfl⟩ | ⟨hn, hm, rfl, rfl, rfl, rfl⟩ | ⟨hV, ht, rfl, x, y, n0, rfl, rfl, rfl, hM, hk, hn0⟩⟩
    · have HN := Lib.hid hn
      have HBB := Lib.hid (HB1.out.trans (hb.mono HB1.out.size))
      clear hn hb HNQ
      go_wp2_with fail
      refine bodyPost_ret (v := .tuple #[.int .i64 0, .int .i64 20]) (by simp [results, Try.results29, go_sem]) rfl ?_
      exact ⟨HBB.out, .inl ⟨HN.out, rfl⟩⟩
    · have HN := Lib.hid (And.intro hn hm)
      have HBB := Lib.hid (HB1.out.trans (hb.mono HB1.out.size))
      clear hn hb HNQ
      go_wp2_with fail
      refine bodyPost_ret (v := .tuple #[.int .i64 0, .int .i64 3]) (by simp [results, Try.results29, go_sem]) rfl ?_
      exact ⟨HBB.out, .inr (.inl ⟨HN.out.1, HN.out.2, rfl⟩)⟩
    · have HN := Lib.hid (And.intro hn hm)
      have HBB := Lib.hid (HB1.out.trans (hb.mono HB1.out.size))
      clear hn hb HNQ
      go_wp2_with fail
      refine bodyPost_ret (v := .tuple #[.int .i64 0, .int .i64 4]) (by simp [results, Try.results29, go_sem]) rfl ?_
      exact ⟨HBB.out, .inr (.inr (.inl ⟨HN.out.1, HN.out.2, rfl⟩))⟩
    · have HV := Lib.hid hV
      have HM := Lib.hid hM
      have HTM := Lib.hid ht
      have HBB := Lib.hid (HB1.out.trans (hb.mono HB1.out.size))
      have HK := Lib.hid (Nat.le_trans HB1.out.size hk)
      have HK2 := Lib.hid (Nat.le_trans (Nat.le_trans HB1.out.size hn0) hM.yb.2.2.2.2.2.1)
      have HST := Lib.hid (fun (W : World) (hW : MkF x y n0 s t W) => start_any hW.sf.ct.se.se)
      have HCT := Lib.hid (fun (W : World) (hW : MkF x y n0 s t W) => count_M hV ht hW)
      unfold plcV at HST
      dsimp only at HST
      obtain ⟨N, hN⟩ : ∃ N, N = (wordsM s t).length := ⟨_, rfl⟩
      rw [← hN] at HCT
      have HN := Lib.hid hN
      obtain ⟨A, hA⟩ : ∃ A, A = s.al.size := ⟨_, rfl⟩
      rw [← hA] at HST HCT
      have HSM := Lib.hid (HST.out _ hM)
      clear hV hM ht hb HNQ hk hn0 k0 k1 k2 k3 hN hA
      have HTO := Lib.hid (total_M HV.out HM.out)
      obtain ⟨T, hT⟩ : ∃ T, T = totS s := ⟨_, rfl⟩
      rw [← hT] at HTO
      have HT := Lib.hid hT
      have HSTg := Lib.hid (fun (W : World) (hW : MkF x y n0 s t W) => HST.out W hW)
      clear hT HSM
      by_cases p1 : M < 0
      · have HP : Hid (¬ (0 ≤ M ∧ M ≤ T)) := fun h => by omega
        go_wp2_with (first
          | (go_at_call 47; (with_reducible refine HTO.out.mono ?_); rintro e w3 ⟨rfl, HM3, HG3⟩)
          | fail)
        refine bodyPost_ret (v := .tuple #[.int .i64 0, .int .i64 3]) (by simp [results, Try.results29, go_sem]) rfl ?_
        exact ⟨HBB.out.grown HG3.out HBB.out.size (fun j hj => by cases hj; exact HK.out), .inr (.inr (.inr (.inl ⟨HV.out, HTM.out, by rw [← HT.out]; exact HP.out, rfl⟩)))⟩
      by_cases p2 : M > (T : Int)
      · have HP : Hid (¬ (0 ≤ M ∧ M ≤ T)) := fun h => by omega
        go_wp2_with (first
          | (go_at_call 47; (with_reducible refine HTO.out.mono ?_); rintro e w3 ⟨rfl, HM3, HG3⟩)
          | fail)
        refine bodyPost_ret (v := .tuple #[.int .i64 0, .int .i64 3]) (by simp [results, Try.results29, go_sem]) rfl ?_
        exact ⟨HBB.out.grown HG3.out HBB.out.size (fun j hj => by cases hj; exact HK.out), .inr (.inr (.inr (.inl ⟨HV.out, HTM.out, by rw [← HT.out]; exact HP.out, rfl⟩)))⟩
      by_cases p3 : M = (T : Int)
      · subst p3
        unfold cntV
        go_wp2_with (first
          | (go_at_call 47; (with_reducible refine HTO.out.mono ?_); rintro e w3 ⟨rfl, HM3, HG3⟩; have HS3 := Lib.hid (HSTg.out _ HM3.out))
          | (go_at_call 57; (with_reducible refine HS3.out.mono ?_); rintro e w4 ⟨rfl, HB4⟩; have HM4 := Lib.hid (HM3.out.below HB4.out); have HC4 := Lib.hid (HCT.out _ HM4.out))
          | (go_at_call 83; (with_reducible refine HC4.out.mono ?_); rintro e w5 ⟨rfl, HM5, HG5⟩)
          | fail)
        refine bodyPost_ret (v := .tuple #[.int .i64 (N : Int), .int .i64 0]) (by simp [results, Try.results29, go_sem]) rfl ?_
        have h3 := HBB.out.grown HG3.out HBB.out.size (fun j hj => by cases hj; exact HK.out)
        have h4 := h3.trans (HB4.out.mono h3.size)
        exact ⟨h4.grown HG5.out h4.size (fun j hj => by cases hj; exact HK2.out), .inr (.inr (.inr (.inr (.inl ⟨HV.out, HTM.out, by rw [HT.out], by rw [HN.out]⟩))))⟩
      obtain ⟨K, rfl⟩ : ∃ K : Nat, M = K := ⟨M.toNat, by omega⟩
      have p4 : ((K : Int) == (T : Int)) = false := beq_eq_false_iff_ne.2 p3
      have HKT : Hid (K < T) := by show _ < _; omega
      obtain ⟨R, hR⟩ : ∃ R, R = x.R := ⟨_, rfl⟩
      obtain ⟨z, hz⟩ : ∃ z, z = szN (nS s) s.ck := ⟨_, rfl⟩
      obtain ⟨cX, hcX⟩ : ∃ cX, cX = cntV x.bL x.bR x.bK x.bM x.bC := ⟨_, rfl⟩
      obtain ⟨cY, hcY⟩ : ∃ cY, cY = cntV y.bL y.bR y.bK y.bM y.bC := ⟨_, rfl⟩
      obtain ⟨yv, hyv⟩ : ∃ yv, yv = y.mv := ⟨_, rfl⟩
      rw [← hR] at HTO
      rw [← hR, ← hcY, ← hyv]
      have hn1 : 1 ≤ nS s := by have := HV.out.1.2.1; unfold nS; omega
      have hn16 : nS s ≤ 16 := by have := HV.out.1.2.2.1; unfold nS; omega
      have HR := Lib.hid hR; have HZ := Lib.hid hz; have HCX := Lib.hid hcX; have HCY := Lib.hid hcY; have HYV := Lib.hid hyv
      clear hR hz hcX hcY hyv
      go_upto_region 9 with (first
        | (go_at_call 47; (with_reducible refine HTO.out.mono ?_); rintro e w3 ⟨rfl, HM3, HG3⟩)
        | fail)
      have hbd : Hid (Below w3.heap.size w3 w3.drew) := below_dr w3 1
      have c43 : w3.drew.cell? ⟨R, 4, none⟩ = some cX := by rw [HR.out, HCX.out]; exact HM3.out.sf.c4
      have hR3 : R < w3.drew.heap.size := World.block_lt_of_cell? _ _ c43
      have HANd : Hid (Calls Try.prog 50 #[.pointer (some ⟨R, 0, none⟩)] w3.drew fun e w' => ∃ g, w3.heap.size ≤ g ∧ e = .returned (.slice (some ⟨g, 0, none⟩) z z) ∧ Hid (IsIs w' (.slice (some ⟨g, 0, none⟩) z z) (List.replicate z (-1))) ∧ Hid (Below w3.drew.heap.size w3.drew w')) := by rw [HR.out, HZ.out]; exact anything_at (HM3.out.below (below_dr w3 1)).sf.ct.se.se hn1 hn16
      have HPK : Hid (∀ (V : World) (g : Nat), w3.heap.size ≤ g → IsIs V (.slice (some ⟨g, 0, none⟩) z z) (List.replicate z (-1)) → Below w3.heap.size w3 V → Calls Try.prog 49 #[.pointer (some ⟨R, 0, none⟩), .slice (some ⟨g, 0, none⟩) z z, cX, .int .i64 (K : Int)] V
          fun e W' => ∃ v u, e = .returned v ∧ (wordsS s)[K]? = some u ∧ IsIs W' v (asI u) ∧ (∀ j, v.ownBlock = some j → V.heap.size ≤ j) ∧ MkF x y n0 s t W' ∧ V.grownBy W' (some x.km)) := fun V g hg hI hV => by
        rw [HR.out, HZ.out, HCX.out]
        rw [HZ.out] at hI
        have := HM3.out.sf.kmlt
        exact pick_A HV.out (HM3.out.below hV) (by rw [← HT.out]; exact HKT.out) hI (by omega)
      have HBE : Hid (∀ (V : World) (v : Value) (u : List Nat), MkF x y n0 s t V → IsIs V v (asI u) → u ∈ wordsS s → (∀ j, v.ownBlock = some j → w3.heap.size ≤ j) → Calls Try.prog 55 #[.pointer (some ⟨R, 0, none⟩), yv, cY, v] V
          fun e W' => e = .returned (.int .i64 ((bel (wordsM s t) u : Nat) : Int)) ∧ Hid (MkF x y n0 s t W') ∧ Hid (V.grownBy W' (some y.km))) := fun V v u hM hI hw hne => by
        rw [HR.out, HYV.out, HCY.out]
        refine below_M HV.out HTM.out hM hI (fun j hj e => ?_) hw
        obtain ⟨g, hm, _⟩ := HM3.out.ct.mp
        have h1 := hm.lt
        have h2 := hne j hj
        omega
      clear HTO
      go_region_with (first
        | (go_at_call 50; (with_reducible refine HANd.out.mono ?_); rintro e w4 ⟨g, hg, rfl, HI4, HB4⟩; have hB34 := Lib.hid (hbd.out.trans HB4.out); have c44 := (HB4.out.cell (p := ⟨R, 4, none⟩) hR3).trans c43; have HPK4 := Lib.hid (HPK.out w4 g hg HI4.out hB34.out))
        | (go_at_call 49; (with_reducible refine HPK4.out.mono ?_); rintro e w5 ⟨v, u, rfl, hwu, hIu, hvo, hM5, hG5⟩; have HWU := Lib.hid hwu; have HG5 := Lib.hid hG5; have HBE5 := Lib.hid (HBE.out w5 v u hM5 hIu (List.mem_of_getElem? hwu) (fun j hj => Nat.le_trans hB34.out.size (hvo j hj))); clear hwu hIu hvo hM5 hG5)
        | (go_at_call 55; (with_reducible refine HBE5.out.mono ?_); rintro e w6 ⟨rfl, HM6, HG6⟩)
        | fail)
      all_goals go_wp2_with fail
      all_goals refine bodyPost_ret (v := .tuple #[.int .i64 ((bel (wordsM s t) u : Nat) : Int), .int .i64 0]) (by simp [results, Try.results29, go_sem]) rfl ?_
      all_goals
        have h3 := HBB.out.grown HG3.out HBB.out.size (fun j hj => by cases hj; exact HK.out)
        have h4 := h3.trans (hB34.out.mono h3.size)
        have h5 := h4.grown HG5.out h4.size (fun j hj => by cases hj; exact HK.out)
        exact ⟨h5.grown HG6.out h5.size (fun j hj => by cases hj; exact HK2.out), .inr (.inr (.inr (.inr (.inr ⟨HV.out, HTM.out, K, u, rfl, HWU.out, rfl⟩))))⟩
end Go.Proofs.Ytgblfobomiiofaa
namespace Go.Proofs.Ytgblfobomiiofaa
open Go Go.RowKit Go.Shelf Gw Go.Maps

theorem bel_cut {l : List (List Nat)} {x : List Nat} {m : Nat} (hm : m ≤ l.length) (h1 : ∀ i (h : i < l.length), i < m → ltW l[i] x) (h2 : ∀ i (h : i < l.length), m ≤ i → ¬ ltW l[i] x) : bel l x = m := by
  unfold bel
  have e1 : (l.take m).countP (fun u => decide (ltW u x)) = m := by
    have hlen : (l.take m).length = m := by rw [List.length_take, Nat.min_eq_left hm]
    have : (l.take m).countP (fun u => decide (ltW u x)) = (l.take m).length := by
      rw [List.countP_eq_length]
      intro u hu
      obtain ⟨i, hi, rfl⟩ := List.mem_iff_getElem.1 hu
      rw [hlen] at hi
      rw [List.getElem_take]
      exact decide_eq_true (h1 i (by omega) hi)
    omega
  have e2 : (l.drop m).countP (fun u => decide (ltW u x)) = 0 := by
    rw [List.countP_eq_zero]
    intro u hu
    obtain ⟨i, hi, rfl⟩ := List.mem_iff_getElem.1 hu
    rw [List.length_drop] at hi
    rw [List.getElem_drop]
    simp only [decide_eq_true_eq]
    exact h2 _ (by omega) (by omega)
  rw [← List.take_append_drop m l, List.countP_append, e1, e2, Nat.add_zero]
/-- an element of a mask's words has a place among all words, and these are in order -/
theorem place_M {s : Sch} {t : ByteArray} (ht : IsMask s t) {i : Nat} (hi : i < (wordsM s t).length) : ∃ n : Nat, (wordsS s)[n]? = some ((wordsM s t)[i]) := by
  have hm := (wordsM_mem ht (List.getElem_mem hi)).1
  obtain ⟨n, hn, e⟩ := List.mem_iff_getElem.1 hm
  exact ⟨n, by rw [List.getElem?_eq_getElem hn, e]⟩
theorem M_lt {s : Sch} {t : ByteArray} {i j : Nat} (hij : i < j) (hj : j < (wordsM s t).length) : ltW ((wordsM s t)[i]'(by omega)) ((wordsM s t)[j]) := by
  have hs := wordsM_sorted s t
  rw [List.pairwise_iff_getElem] at hs
  exact hs i j (by omega) hj hij
theorem S_lt {s : Sch} {a b : Nat} {u w : List Nat} (ha : (wordsS s)[a]? = some u) (hb : (wordsS s)[b]? = some w) (h : a < b) : ltW u w := by
  have hs : (wordsS s).Pairwise ltW := sorted_words _ _ _
  rw [List.pairwise_iff_getElem] at hs
  obtain ⟨ha1, rfl⟩ := List.getElem?_eq_some_iff.1 ha
  obtain ⟨hb1, rfl⟩ := List.getElem?_eq_some_iff.1 hb
  exact hs a b ha1 hb1 h
/-- below the K-th word of a mask lie K -/
theorem bel_M {s : Sch} {t : ByteArray} {K : Nat} {u : List Nat} (hK : (wordsM s t)[K]? = some u) : bel (wordsM s t) u = K := by
  obtain ⟨h1, rfl⟩ := List.getElem?_eq_some_iff.1 hK
  exact bel_at (wordsM_sorted s t) h1
/-- below the next word of all lie K + 1 -/
theorem bel_next_M {s : Sch} {t : ByteArray} (ht : IsMask s t) {K n : Nat} {u u' : List Nat} (hK : (wordsM s t)[K]? = some u) (hn : (wordsS s)[n]? = some u) (hn' : (wordsS s)[n + 1]? = some u') : bel (wordsM s t) u' = K + 1 := by
  obtain ⟨h1, rfl⟩ := List.getElem?_eq_some_iff.1 hK
  have huu := S_lt hn hn' (Nat.lt_succ_self n)
  refine bel_cut (by omega) (fun i hi hiK => ?_) (fun i hi hiK hlt => ?_)
  · rcases Nat.lt_succ_iff_lt_or_eq.1 hiK with h | h
    · exact ltW_trans (M_lt h h1) huu
    · subst h; exact huu
  · obtain ⟨a, ha⟩ := place_M ht hi
    have h3 := sorted_idx (sorted_words _ _ _) hn ha (M_lt (by omega) hi)
    have h4 := sorted_idx (sorted_words _ _ _) ha hn' hlt
    omega
/-- where the last word of all is a mask's K-th, these are K + 1 -/
theorem last_M {s : Sch} {t : ByteArray} (ht : IsMask s t) {K n : Nat} {u : List Nat} (hK : (wordsM s t)[K]? = some u) (hn : (wordsS s)[n]? = some u) (hl : n + 1 = totS s) : (wordsM s t).length = K + 1 := by
  obtain ⟨h1, rfl⟩ := List.getElem?_eq_some_iff.1 hK
  refine Nat.le_antisymm (Nat.not_lt.1 fun h => ?_) (by omega)
  obtain ⟨a, ha⟩ := place_M ht (show K + 1 < (wordsM s t).length by omega)
  have h3 := sorted_idx (sorted_words _ _ _) hn ha (M_lt (Nat.lt_succ_self K) (by omega))
  obtain ⟨h4, _⟩ := List.getElem?_eq_some_iff.1 ha
  rw [totS_words] at hl
  omega
section
variable {s : Sch} {bv : Value} {t : ByteArray} {w : World} (hv : IsSs w bv s.bl)
include hv
theorem Matches_yes (hV : ValidS s) (ht : IsMask s t) : Calls Try.prog 27 #[schV s bv, .string t] w fun e w' => e = .returned (.tuple #[.int .i64 (((wordsM s t).length : Nat) : Int), .int .i64 0]) ∧ Hid (Below w.heap.size w w') := by
  refine (Matches_any hv).mono ?_
  rintro e w' ⟨hb, ⟨hn, _⟩ | ⟨_, hn, _⟩ | ⟨_, hn, _⟩ | ⟨_, _, rfl⟩⟩
  · exact absurd hV.1 hn
  · exact absurd hV.2 hn
  · exact absurd ht hn
  · exact ⟨rfl, hb⟩
theorem Matches_no (h : ¬ (ValidS s ∧ IsMask s t)) : Calls Try.prog 27 #[schV s bv, .string t] w fun e w' => ∃ E : Int, e = .returned (.tuple #[.int .i64 0, .int .i64 E]) ∧ (E != 0) = true ∧ Hid (Below w.heap.size w w') := by
  refine (Matches_any hv).mono ?_
  rintro e w' ⟨hb, ⟨_, rfl⟩ | ⟨_, _, rfl⟩ | ⟨_, _, rfl⟩ | ⟨h1, h2, _⟩⟩
  · exact ⟨_, rfl, rfl, hb⟩
  · exact ⟨_, rfl, rfl, hb⟩
  · exact ⟨_, rfl, rfl, hb⟩
  · exact absurd ⟨h1, h2⟩ h
theorem Match_out {M : Int} (hV : ValidS s) (ht : IsMask s t) (hM : ¬ (0 ≤ M ∧ M < (wordsM s t).length)) : Calls Try.prog 28 #[schV s bv, .string t, .int .i64 M] w fun e w' => e = .returned (.tuple #[.string ⟨#[]⟩, .int .i64 3]) ∧ Hid (Below w.heap.size w w') := by
  refine (Match_any hv).mono ?_
  rintro e w' ⟨hb, ⟨hn, _⟩ | ⟨_, hn, _⟩ | ⟨_, hn, _⟩ | ⟨_, _, _, rfl⟩ | ⟨_, _, K, u, hK, hu, _⟩⟩
  · exact absurd hV.1 hn
  · exact absurd hV.2 hn
  · exact absurd ht hn
  · exact ⟨rfl, hb⟩
  · obtain ⟨h1, _⟩ := List.getElem?_eq_some_iff.1 hu
    exact absurd ⟨by omega, by omega⟩ hM
theorem Match_in {K : Nat} {u : List Nat} (hV : ValidS s) (ht : IsMask s t) (hu : (wordsM s t)[K]? = some u) : Calls Try.prog 28 #[schV s bv, .string t, .int .i64 (K : Int)] w fun e w' => e = .returned (.tuple #[.string (serB s.al s.ck u), .int .i64 0]) ∧ Hid (Below w.heap.size w w') := by
  obtain ⟨h1, _⟩ := List.getElem?_eq_some_iff.1 hu
  refine (Match_any hv).mono ?_
  rintro e w' ⟨hb, ⟨hn, _⟩ | ⟨_, hn, _⟩ | ⟨_, hn, _⟩ | ⟨_, _, hn, _⟩ | ⟨_, _, K', u', hK, hu', rfl⟩⟩
  · exact absurd hV.1 hn
  · exact absurd hV.2 hn
  · exact absurd ht hn
  · exact absurd ⟨by omega, by omega⟩ hn
  · have : K = K' := by omega
    subst this
    rw [hu] at hu'
    injection hu' with hu'
    subst hu'
    exact ⟨rfl, hb⟩
theorem Below_in {K : Nat} {u : List Nat} (hV : ValidS s) (ht : IsMask s t) (hu : (wordsS s)[K]? = some u) : Calls Try.prog 29 #[schV s bv, .string t, .int .i64 (K : Int)] w fun e w' => e = .returned (.tuple #[.int .i64 ((bel (wordsM s t) u : Nat) : Int), .int .i64 0]) ∧ Hid (Below w.heap.size w w') := by
  obtain ⟨h1, _⟩ := List.getElem?_eq_some_iff.1 hu
  have h2 := totS_words s
  refine (Below_any hv).mono ?_
  rintro e w' ⟨hb, ⟨hn, _⟩ | ⟨_, hn, _⟩ | ⟨_, hn, _⟩ | ⟨_, _, hn, _⟩ | ⟨_, _, hn, _⟩ | ⟨_, _, K', u', hK, hu', rfl⟩⟩
  · exact absurd hV.1 hn
  · exact absurd hV.2 hn
  · exact absurd ht hn
  · exact absurd ⟨by omega, by omega⟩ hn
  · omega
  · have : K = K' := by omega
    subst this
    rw [hu] at hu'
    injection hu' with hu'
    subst hu'
    exact ⟨rfl, hb⟩
theorem Below_all {K : Nat} (hV : ValidS s) (ht : IsMask s t) (hK : K = totS s) : Calls Try.prog 29 #[schV s bv, .string t, .int .i64 (K : Int)] w fun e w' => e = .returned (.tuple #[.int .i64 (((wordsM s t).length : Nat) : Int), .int .i64 0]) ∧ Hid (Below w.heap.size w w') := by
  subst hK
  refine (Below_any hv).mono ?_
  rintro e w' ⟨hb, ⟨hn, _⟩ | ⟨_, hn, _⟩ | ⟨_, hn, _⟩ | ⟨_, _, hn, _⟩ | ⟨_, _, _, rfl⟩ | ⟨_, _, K', u', hK, hu', _⟩⟩
  · exact absurd hV.1 hn
  · exact absurd hV.2 hn
  · exact absurd ht hn
  · exact absurd ⟨by omega, by omega⟩ hn
  · exact ⟨rfl, hb⟩
  · obtain ⟨h1, _⟩ := List.getElem?_eq_some_iff.1 hu'
    rw [← totS_words] at h1
    omega
end
end Go.Proofs.Ytgblfobomiiofaa
namespace Go.Proofs.Ytgblfobomiiofaa
open Go Go.RowKit Go.Shelf Gw Go.Maps

/-- a text that a mask fits -/
def MatT (t b : ByteArray) : Prop := ∀ i (h : i < t.size) (h2 : i < b.size), t[i] = 63 ∨ t[i] = b[i]
set_option maxRecDepth 100000 in
set_option maxHeartbeats 2000000 in
theorem RMatches_any {t b : ByteArray} (hs : b.size = t.size) (hl : t.size ≤ 1000) (w : World) : Calls Try.prog 37 #[.string t, .string b] w (BoolP (MatT t b) w) := by
  go_enter Try.func37, Try.ntmps37
  go_wp2_with fail
  go_loopw [5] (fun s5 wr => ∃ i : Nat, i ≤ t.size ∧ s5 = .int .i64 i ∧ Hid (Below w.heap.size w wr) ∧ Hid (∀ j (h : j < t.size) (h2 : j < b.size), j < i → t[j] = 63 ∨ t[j] = b[j])) (fun s5 _ => t.size - (intOf s5).toNat)
  case atStart => exact ⟨0, Nat.zero_le _, rfl, Below.refl _ _, fun j _ _ h => by omega⟩
  case round =>
    obtain ⟨i, hi, rfl, HB, HN⟩ := hrel
    by_cases q : i < t.size
    · have q1 : (i : Int) < (t.size : Int) := by omega
      have qb : i < b.size := by omega
      have hw : IntKind.i64.wrap ((i : Int) + 1) = ((i + 1 : Nat) : Int) := by rw [IntWalk.i64_in _ (by omega)]; omega
      have hix := fun W => index_str q W
      have hiy := fun W => index_str qb W
      obtain ⟨x, hx⟩ : ∃ x, x = t[i] := ⟨_, rfl⟩
      obtain ⟨y, hy⟩ : ∃ y, y = b[i] := ⟨_, rfl⟩
      rw [← hx] at hix
      rw [← hy] at hiy
      have HX := Lib.hid hx
      have HY := Lib.hid hy
      clear hx hy
      by_cases c1 : x = 63
      · subst c1
        have c2 : (((63 : UInt8).toNat : Int) != 63) = false := by decide
        have HN2 : Hid (∀ j (h : j < t.size) (h2 : j < b.size), j < i + 1 → t[j] = 63 ∨ t[j] = b[j]) := fun j h h2 hj => by
          rcases Nat.lt_succ_iff_lt_or_eq.1 hj with h3 | h3
          · exact HN.out j h h2 h3
          · subst h3; exact .inl HX.out.symm
        go_upto_region 4 with fail
        go_quiet (fail)
        rename_i nq
        have HBq := Lib.hid (HB.out.trans ((below_dr wr nq).mono HB.out.size))
        go_wp2_with fail
        go_roundw
        case rel => exact ⟨i + 1, q, by go_num, HBq, HN2⟩
        case measure => simp [intOf]; omega
      · have c2 : ((x.toNat : Int) != 63) = true := by
          rw [bne_iff_ne]
          intro e
          exact c1 (UInt8.toNat_inj.1 (by rw [show (63 : UInt8).toNat = 63 from rfl]; omega))
        by_cases c3 : x = y
        · subst c3
          have c4 : ((x.toNat : Int) != (x.toNat : Int)) = false := by simp
          have HN2 : Hid (∀ j (h : j < t.size) (h2 : j < b.size), j < i + 1 → t[j] = 63 ∨ t[j] = b[j]) := fun j h h2 hj => by
            rcases Nat.lt_succ_iff_lt_or_eq.1 hj with h3 | h3
            · exact HN.out j h h2 h3
            · subst h3; exact .inr (HX.out.symm.trans HY.out)
          go_upto_region 4 with fail
          go_quiet (fail)
          rename_i nq
          have HBq := Lib.hid (HB.out.trans ((below_dr wr nq).mono HB.out.size))
          go_wp2_with fail
          go_roundw
          case rel => exact ⟨i + 1, q, by go_num, HBq, HN2⟩
          case measure => simp [intOf]; omega
        · have c4 : ((x.toNat : Int) != (y.toNat : Int)) = true := by
            rw [bne_iff_ne]
            intro e
            exact c3 (UInt8.toNat_inj.1 (by omega))
          have HF : Hid (IffB false (MatT t b)) := IffB.no fun h => by
            rcases h i q qb with h3 | h3
            · exact c1 (HX.out.trans h3)
            · exact c3 (HX.out.trans (h3.trans HY.out.symm))
          go_upto_region 4 with fail
          go_quiet (fail)
          rename_i nq
          have HBq := Lib.hid (HB.out.trans ((below_dr wr nq).mono HB.out.size))
          go_wp2_with fail
          go_ret
          exact ⟨false, rfl, HF, HBq⟩
    · obtain rfl : i = t.size := by omega
      have q1 : ¬ (t.size : Int) < (t.size : Int) := by omega
      have HF : Hid (IffB true (MatT t b)) := IffB.yes fun i h h2 => HN.out i h h2 h
      go_wp2_with fail
      go_ret
      exact ⟨true, rfl, HF, HB⟩
theorem fitsW_at : ∀ {ms : List (Option Nat)} {u : List Nat} (_ : fitsW ms u = true) {i : Nat} (h : i < ms.length) (h2 : i < u.length), fitsM ms[i] u[i] = true
  | [], _, _, _, h, _ => by simp at h
  | _ :: _, [], _, _, _, h => by simp at h
  | m :: ms, v :: u, hf, 0, _, _ => by
    have h1 : fitsW (m :: ms) (v :: u) = (fitsM m v && fitsW ms u) := rfl
    rw [h1, Bool.and_eq_true] at hf
    exact hf.1
  | m :: ms, v :: u, hf, i + 1, h, h2 => by
    have h1 : fitsW (m :: ms) (v :: u) = (fitsM m v && fitsW ms u) := rfl
    rw [h1, Bool.and_eq_true] at hf
    exact fitsW_at hf.2 (i := i) (by simpa using h) (by simpa using h2)
/-- what a sign of a mask asks of a serial that it lets through -/
theorem pass_at {s : Sch} {t : ByteArray} {u : List Nat} (ht : IsMask s t) (hu : u.length = nS s) (hp : passM s t u = true) {i v : Nat} (hi : i < t.size) (hv : (maskN s.al t)[i]'(by rw [maskN_len]; exact hi) = some v) : (serU s.al s.ck u).getD i 0 = v := by
  unfold passM at hp
  rw [Bool.and_eq_true] at hp
  by_cases q : i < nS s
  · have hl : i < ((maskN s.al t).take (nS s)).length := by rw [List.length_take, maskN_len]; omega
    have h1 := fitsW_at hp.1 hl (show i < u.length by omega)
    rw [List.getElem_take, hv] at h1
    have h2 : v = u[i] := by
      unfold fitsM at h1
      simpa using h1
    have h3 : (serU s.al s.ck u).getD i 0 = u.getD i 0 := by
      unfold serU
      cases s.ck with
      | false => rfl
      | true => simp [List.getElem?_append_left (show i < u.length by omega)]
    rw [h3, h2]
    simp [show i < u.length by omega]
  · have hck : s.ck = true := by
      cases h : s.ck with
      | true => rfl
      | false =>
        have h2 := ht.1
        rw [h] at h2
        unfold szN at h2
        simp at h2
        omega
    have hin : i = nS s := by
      have h2 := ht.1
      rw [hck] at h2
      unfold szN at h2
      simp at h2
      omega
    subst hin
    have h1 := hp.2
    rw [lastM_at ht hck, hv] at h1
    unfold finL at h1
    have h2 : v = lcN s.al.size (chk (ncN s.al.size) s.al.size u) := by simpa using h1
    rw [h2]
    unfold serU
    rw [hck]
    simp [← hu]
theorem pass_match {s : Sch} {t : ByteArray} {u : List Nat} (hV : ValidS s) (ht : IsMask s t) (hu : u.length = nS s) (huA : ∀ v ∈ u, v < s.al.size) (hp : passM s t u = true) : MatT t (serB s.al s.ck u) := by
  intro i h h2
  by_cases c : t[i] = 63
  · exact .inl c
  · right
    have hm : t[i] ∈ bys s.al := by
      rcases ht.2 _ (bys_at h) with e | e
      · exact e
      · exact absurd e c
    have hv : (maskN s.al t)[i]'(by rw [maskN_len]; exact h) = some ((bys s.al).idxOf t[i]) := by
      have e3 : (maskN s.al t)[i]'(by rw [maskN_len]; exact h) = (fun b => if b = 63 then none else some ((bys s.al).idxOf b)) ((bys t)[i]'(by rw [bys_len]; exact h)) := List.getElem_map _
      rw [e3]
      show (if t[i] = 63 then none else some ((bys s.al).idxOf t[i])) = _
      rw [if_neg c]
    have h4 := pass_at ht hu hp h hv
    have h5 := serB_at hV.1.1 s.ck huA h2
    have hm2 : (serB s.al s.ck u)[i] ∈ bys s.al := serB_of hV.1.1.1 s.ck huA _ (bys_at h2)
    rw [h4, indexByte_idx hm2] at h5
    have h6 : (bys s.al).idxOf (serB s.al s.ck u)[i] = (bys s.al).idxOf t[i] := by omega
    have g1 := List.getElem_idxOf (List.idxOf_lt_length_of_mem hm)
    have g2 := List.getElem_idxOf (List.idxOf_lt_length_of_mem hm2)
    rw [← g1, ← g2]
    congr 1
    exact h6.symm
end Go.Proofs.Ytgblfobomiiofaa
