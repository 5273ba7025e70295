/- Contracts and lemmas (several texts merged into one). -/
import Derived.Test.YtjbenhmpeceaeaaBJxp5
import Derived.Deep.CutRange
import Derived.Test.YtjbenhmpeceaeaaBJxp4
namespace Go.Proofs.Ytjbenhmpeceaeaa
open Go Go.RowKit Gs

set_option maxRecDepth 100000 in
set_option maxHeartbeats 4000000 in
theorem RSwap_from {f : Int → Int} {size lo hi fr tt : Int} {base : Nat} {v : Value} {L : List R} {W : World} (hrs : IsRs base W v L) (hL : Gs.Can f 0 L size) (hx : Ctx f 0 size) (hne : 0 < L.length) (hlen : L.length ≤ 4096) (h1 : 0 ≤ lo) (h2 : lo ≤ hi) (h3 : hi ≤ size) (htt : isT tt = true) (hfr : isT fr = true) :
    Calls Try.prog 43 #[.agg #[.int .i64 size, v], .int .i64 lo, .int .i64 hi, .int .i64 fr, .int .i64 tt, .bool false] W fun e w' => ∃ s v' n e2, e = .returned (.tuple #[.agg #[.int .i64 s, v'], .int .i64 n, .int .i64 e2]) ∧ Hid (RU f size lo hi fr tt false L W.heap.size s v' n e2 w') ∧ Below W.heap.size W w' := by
  have HRS := Lib.hid hrs
  obtain ⟨a, c, rfl, -⟩ := hrs
  obtain ⟨n, hn⟩ : ∃ n, n = L.length := ⟨_, rfl⟩
  rw [← hn] at HRS hne ⊢
  have hnb : n ≤ 4096 := by omega
  have HN := Lib.hid hn
  obtain ⟨w0, HW, hm, hr, hb⟩ := boxesR W size (.slice a n c) 33
  have HUS : Hid (∀ W', Calls Try.prog 42 #[.agg #[.int .i64 size, .slice a n c]] W' fun e w' => e = .returned (.bool true) ∧ Below W'.heap.size W' w') := fun W' => by
    have := RUsable_any size a n c W'
    rwa [decide_eq_true hne] at this
  have HVA : Hid (∀ W', Calls Try.prog 48 #[.agg #[.int .i64 size, .slice a n c], .int .i64 lo, .int .i64 hi] W' fun e w' => e = .returned (.bool true) ∧ Below W'.heap.size W' w') := fun W' => by
    have := Rvalid_any size lo hi (.slice a n c) W'
    rwa [decide_eq_true (p := 0 ≤ lo ∧ lo ≤ hi ∧ hi ≤ size) ⟨h1, h2, h3⟩] at this
  have HTT : Hid (∀ W', Calls Try.prog 51 #[.int .i64 tt] W' fun e w' => e = .returned (.bool true) ∧ W' = w') := fun W' => by
    have := RTag_any tt W'
    rwa [htt] at this
  have HTF : Hid (∀ W', Calls Try.prog 51 #[.int .i64 fr] W' fun e w' => e = .returned (.bool true) ∧ W' = w') := fun W' => by
    have := RTag_any fr W'
    rwa [hfr] at this
  have HJN : Hid (∀ (B0 : Nat) (u : Value) (l : List R) (x : R) (W' : World), rowR W' B0 u l → B0 ≤ W'.heap.size → l.length ≤ 100000 → Calls Try.prog 49 #[u, .agg #[.int .i64 x.lo, .int .i64 x.hi, .int .i64 x.tag]] W' fun e w' => ∃ v', e = .returned v' ∧ Hid (JP W' B0 u (joinL l x) v' w')) := fun B0 u l x W' h hb hl => Join_any x h hb hl
  have HM := Lib.hid hm; have HR := Lib.hid hr; have HB := Lib.hid hb; have HW' := Lib.hid HW
  have HL := Lib.hid hL; have HX := Lib.hid hx
  have HLH : Hid (0 ≤ lo ∧ lo ≤ hi ∧ hi ≤ size ∧ size ≤ 1099511627776) := ⟨h1, h2, h3, hx.2.1⟩
  have k0 := HM.out.c0; have k1 := HM.out.c1
  have hmx : ∀ p q : Int, (if p < q then q else p) = max p q := fun p q => by split <;> omega
  have hmn : ∀ p q : Int, (if p < q then p else q) = min p q := fun p q => by split <;> omega
  clear hL hx HW hm hr hb hn hlen h1 h2 h3 htt hfr
  go_enter Try.func43, Try.ntmps43
  go_upto_region 1 with fail
  rw [← HW'.out]
  go_wp2_with fail
  refine (HUS.out _).mono ?_
  rintro e w1 ⟨rfl, hb⟩
  have HM1 := Lib.hid (HM.out.next hb); have HR1 := Lib.hid (HR.out.next hb)
  have HB1 := Lib.hid (HB.out.trans (hb.mono HB.out.size))
  clear hb k0 k1
  have k0 := HM1.out.c0; have k1 := HM1.out.c1
  go_wp2_with fail
  refine (HVA.out _).mono ?_
  rintro e w2 ⟨rfl, hb⟩
  have HM2 := Lib.hid (HM1.out.next hb); have HR2 := Lib.hid (HR1.out.next hb)
  have HB2 := Lib.hid (HB1.out.trans (hb.mono HB1.out.size))
  clear hb k0 k1
  go_wp2_with fail
  refine (HTF.out _).mono ?_
  rintro e w3 ⟨rfl, rfl⟩
  go_wp2_with fail
  refine (HTT.out _).mono ?_
  rintro e w3 ⟨rfl, rfl⟩
  go_wp2_with fail
  go_loopw [15, 16, 17] (fun ov nv iv wr => ∃ (j : Nat) (m nn : Int) (lst : List R), j ≤ n ∧ iv = .int .i64 j ∧ nv = .int .i64 nn ∧ Hid (rowR wr w2.heap.size ov lst ∧ Gs.Can (gS f lo hi fr tt false) 0 lst m ∧ lst.length ≤ 3 * j) ∧ Hid (Gs.Can f m (L.drop j) size ∧ 0 ≤ m) ∧ Hid (0 ≤ nn ∧ nn ≤ m ∧ (false = false → nn = cnt fr (clip lo hi (L.take j)))) ∧ Hid (Below w2.heap.size w2 wr)) (fun _ _ i _ => n - (intOf i).toNat)
  case atStart => exact ⟨0, 0, 0, [], by omega, rfl, rfl, ⟨World.ownsRow_nil _ _ _ _, Gs.Can.nil _ _, Nat.le_refl _⟩, ⟨HL.out, Int.le_refl _⟩, ⟨Int.le_refl _, Int.le_refl _, fun _ => rfl⟩, Below.refl _ _⟩
  case round =>
    obtain ⟨j, m, nn, lst, hj, rfl, rfl, HROW, HCJ, HNN, HBr⟩ := hrel
    have hm := HM2.out.next HBr.out
    have k0 := hm.c0; have k1 := hm.c1
    clear hm
    by_cases hlt : j < n
    · have hj2 : (j : Int) < n := by omega
      have hjl : j < L.length := by rw [← HN.out]; exact hlt
      obtain ⟨a', c', hv, hcs⟩ := HRS.out.below (HB2.out.trans (HBr.out.mono HB2.out.size))
      injection hv with hv1 hv2 hv3
      clear hv2 hv3
      subst hv1
      obtain ⟨G, e1, -, hcs2⟩ := hcs (by omega)
      clear hcs
      subst e1
      obtain ⟨c0, c1, c2⟩ := hcs2 j hjl
      clear hcs2
      have hdr : L.drop j = L[j] :: L.drop (j + 1) := List.drop_eq_getElem_cons hjl
      have htk : L.take (j + 1) = L.take j ++ [L[j]] := by rw [List.take_add_one, List.getElem?_eq_getElem hjl]; rfl
      have hcan := HCJ.out.1
      rw [hdr] at hcan
      obtain ⟨⟨xlo, xhi, xtag⟩, hx⟩ : ∃ x, x = L[j] := ⟨_, rfl⟩
      rw [← hx] at hcan c0 c1 c2 htk
      simp only at c0 c1 c2
      obtain ⟨e1, e2, e3, e4⟩ := hcan.1
      simp only at e1 e2 e3 e4
      subst e1
      have hle4 := e4.le
      have HCAN2 : Hid (Gs.Can f xhi (L.drop (j + 1)) size ∧ 0 ≤ xhi) := ⟨⟨e4, hcan.2.tail⟩, by have := HCJ.out.2; omega⟩
      have HST : Hid (Gs.Can (gS f lo hi fr tt false) 0 (stepL lst ⟨xlo, xhi, xtag⟩ lo hi fr tt false) xhi) := step_can HROW.out.2.1 rfl e2 e3 HLH.out.2.1
      have HLN : Hid ((stepL lst ⟨xlo, xhi, xtag⟩ lo hi fr tt false).length ≤ 3 * (j + 1)) := Nat.le_trans (stepL_len _ _ _ _ _ _ _) (by have := HROW.out.2.2; omega)
      have HCN : Hid (cnt fr (clip lo hi (L.take (j + 1))) = cnt fr (clip lo hi (L.take j)) + if xtag = fr then max 0 (stepB ⟨xlo, xhi, xtag⟩ hi - stepA ⟨xlo, xhi, xtag⟩ lo) else 0) := by
        show _ = _
        rw [htk, clip_app, cnt_append, clip_cons, clip_nil, List.append_nil, step_cnt _ _ _ _ e2 HLH.out.2.1]
      obtain ⟨A, hA⟩ : ∃ A, A = max xlo (min xhi lo) := ⟨_, rfl⟩
      obtain ⟨B, hB⟩ : ∃ B, B = min (max hi xlo) xhi := ⟨_, rfl⟩
      have hab : xlo ≤ A ∧ A ≤ xhi ∧ xlo ≤ B ∧ B ≤ xhi ∧ A ≤ B := by have := HLH.out; omega
      have hN := HNN.out
      have hxm := HCJ.out.2
      have hsz := HLH.out.2.2.2
      obtain ⟨d, hd⟩ : ∃ d, d = max 0 (B - A) := ⟨_, rfl⟩
      have hd2 : 0 ≤ d ∧ d ≤ xhi - xlo := by omega
      have hw1 : IntKind.i64.wrap (B - A) = B - A := IntWalk.i64_in _ (by omega)
      have hw2 : IntKind.i64.wrap (nn + d) = nn + d := IntWalk.i64_in _ (by omega)
      have HD := Lib.hid hd
      have HBD : Hid ((B - A = d ∧ (if 0 ≤ B - A then B - A else 0) = d) ∧ (0 ≤ nn ∧ 0 ≤ d ∧ nn + d ≤ 1099511627776)) := by
        refine ⟨⟨by omega, ?_⟩, by omega⟩
        split <;> omega
      have HAH : Hid (A = stepA ⟨xlo, xhi, xtag⟩ lo) := by show A = max xlo (min lo xhi); omega
      have HBH : Hid (B = stepB ⟨xlo, xhi, xtag⟩ hi) := by show B = min xhi (max hi xlo); omega
      have HA2 := Lib.hid hA
      have HB3 := Lib.hid hB
      have HMAB : Hid (max A B = B) := by show _ = _; omega
      have HN2 : Hid (0 ≤ nn + d ∧ nn + d ≤ xhi) := by show _ ∧ _; omega
      have HN3 : Hid (0 ≤ nn ∧ nn ≤ xhi) := by show _ ∧ _; omega
      have HL1 : Hid (lst.length ≤ 12288) := by show _ ≤ _; have := HROW.out.2.2; omega
      obtain ⟨wx, HWX⟩ : ∃ wx, wx = wr.alloc (.cells #[.int .i64 xlo, .int .i64 xhi, .int .i64 xtag] 64) := ⟨_, rfl⟩
      have bx : Below wr.heap.size wr wx := by rw [HWX]; exact (Below.refl _ _).alloc (Nat.le_refl _) _
      have HRB : Hid (Rb wx wr.heap.size ⟨xlo, xhi, xtag⟩) := by rw [HWX]; exact Rb.new wr ⟨xlo, xhi, xtag⟩
      have HROWX : Hid (rowR wx w2.heap.size u15 lst) := by rw [HWX]; exact HROW.out.1.alloc _
      have HLTO := Lib.hid HROW.out.1.lt
      have HBx := Lib.hid (HBr.out.trans (bx.mono HBr.out.size))
      obtain ⟨r0, r1, r2⟩ := HRB.out.cells
      simp only at r0 r1 r2
      have HSX : Hid (wr.heap.size < wx.heap.size) := HRB.out.lt
      have HWX' := Lib.hid HWX
      clear hdr htk hcan hx e2 e3 e4 hle4 hA hB hab hN hxm hsz hd hd2 HWX bx
      go_upto_region 13 with fail
      rw [← HWX'.out]
      clear c0 c1 c2 k0 k1
      go_cut [19, 20] from 59 to 72 (fun s19 s20 wz => s19 = .int .i64 (max xlo (min xhi lo)) ∧ s20 = .int .i64 (min (max hi xlo) xhi) ∧ wz = wx.drew)
      case first =>
        go_region
        go_wp2_with fail
        go_meet
        first | exact ⟨rfl, rfl, rfl⟩ | (case rel => exact ⟨rfl, rfl, rfl⟩)
      case rest =>
        obtain ⟨rfl, rfl, rfl⟩ := hcut
        rw [← HA2.out, ← HB3.out]
        obtain ⟨wz, HWZ⟩ : ∃ wz, wz = wx.drew := ⟨_, rfl⟩
        have HRZ : Hid (Rb wz wr.heap.size ⟨xlo, xhi, xtag⟩) := by rw [HWZ]; exact HRB.out
        have HROWZ : Hid (rowR wz w2.heap.size u15 lst) := by rw [HWZ]; exact HROWX.out
        have HBz : Hid (Below w2.heap.size w2 wz) := by rw [HWZ]; exact HBx.out.drew
        have HJ1 := Lib.hid (HJN.out w2.heap.size u15 lst ⟨xlo, A, xtag⟩ wz HROWZ.out HBz.out.size (by have := HL1.out; omega))
        rw [← HWZ]
        clear HWZ r0 r1 r2
        obtain ⟨r0, r1, r2⟩ := HRZ.out.cells
        simp only at r0 r1 r2
        have hw2b : IntKind.i64.wrap (nn + (B - A)) = nn + (B - A) := IntWalk.i64_in _ (by have := HBD.out.2; have := HBD.out.1.1; omega)
        have hw2c : IntKind.i64.wrap nn = nn := IntWalk.i64_in _ (by have := HBD.out.2; omega)
        have hab0 : (0 : Int) ≤ B - A := by have := HBD.out.2; have := HBD.out.1.1; omega
        have hwd1 : (if (0 : Int) < B - A then B - A else 0) = d := (hmx 0 (B - A)).trans HD.out.symm
        have hwd2 : max 0 (B - A) = d := HD.out.symm
        have hmab1 : (if A < B then B else A) = B := (hmx A B).trans HMAB.out
        have hmab2 : max A B = B := HMAB.out
        clear hmx hmn
        by_cases ht : xtag = fr
        · have htb : (xtag == fr) = true := by rw [ht]; exact beq_self_eq_true _
          have HTF2 := Lib.hid ht
          clear ht
          by_cases hpos : 0 < B - A
          · skip
            go_wp2_with fail
            refine HJ1.out.mono ?_
            rintro e y1 ⟨v1, rfl, HP1⟩
            have hk1 := HP1.out.box HRZ.out (fun g hg => Nat.ne_of_lt (HLTO.out g hg).2)
            have HK1 := Lib.hid hk1
            clear r0 r1 r2 hk1
            obtain ⟨r0, r1, r2⟩ := HK1.out.1.cells
            simp only at r0 r1 r2
            have HB1' := Lib.hid (HBz.out.trans HP1.out.bel)
            have HJ2 := Lib.hid (HJN.out w2.heap.size v1 _ ⟨A, B, tt⟩ y1 HP1.out.own HB1'.out.size (Nat.le_trans (joinL_len _ _) (by have := HL1.out; omega)))
            go_wp2_with fail
            refine HJ2.out.mono ?_
            rintro e y2 ⟨v2, rfl, HP2⟩
            have hk2 := HP2.out.box HK1.out.1 HK1.out.2
            have HK2 := Lib.hid hk2
            clear r0 r1 r2 hk2
            obtain ⟨r0, r1, r2⟩ := HK2.out.1.cells
            simp only at r0 r1 r2
            have HB2' := Lib.hid (HB1'.out.trans HP2.out.bel)
            have HJ3 : Hid (Calls Try.prog 49 #[v2, .agg #[.int .i64 B, .int .i64 xhi, .int .i64 xtag]] y2 fun e w' => ∃ v', e = .returned v' ∧ Hid (JP y2 w2.heap.size v2 (joinL (joinL (joinL lst ⟨xlo, A, xtag⟩) ⟨A, B, tt⟩) ⟨B, xhi, xtag⟩) v' w')) := HJN.out w2.heap.size v2 _ ⟨B, xhi, xtag⟩ y2 HP2.out.own HB2'.out.size (Nat.le_trans (joinL_len _ _) (by have := HL1.out; have := joinL_len lst ⟨xlo, A, xtag⟩; omega))
            go_wp2_with fail
            refine HJ3.out.mono ?_
            rintro e y3 ⟨v3, rfl, HP3⟩
            have HB3' := Lib.hid (HB2'.out.trans HP3.out.bel)
            have HF3 : Hid (rowR y3 w2.heap.size v3 (stepL lst ⟨xlo, xhi, xtag⟩ lo hi fr tt false)) := by
              have e0 := HP3.out.own
              have e1 : stepT ⟨xlo, xhi, xtag⟩ fr tt false = tt := if_pos (.inr HTF2.out)
              show rowR y3 w2.heap.size v3 (joinL (joinL (joinL lst ⟨xlo, stepA ⟨xlo, xhi, xtag⟩ lo, xtag⟩) ⟨stepA ⟨xlo, xhi, xtag⟩ lo, stepB ⟨xlo, xhi, xtag⟩ hi, stepT ⟨xlo, xhi, xtag⟩ fr tt false⟩) ⟨max (stepA ⟨xlo, xhi, xtag⟩ lo) (stepB ⟨xlo, xhi, xtag⟩ hi), xhi, xtag⟩)
              rw [← HAH.out, ← HBH.out, e1, HMAB.out]
              exact e0
            clear r0 r1 r2
            go_wp2_with fail
            go_roundw
            case rel => exact ⟨j + 1, xhi, nn + d, _, by omega, by go_num, (by have z1 := HBD.out.1.1; have z3 := HBD.out.2; first | rfl | (rw [z1]) | (rw [show d = 0 by omega, Int.add_zero]) | (clear hwd1 hwd2 hmab1 hmab2; go_num)), ⟨HF3.out, HST.out, HLN.out⟩, HCAN2.out, ⟨HN2.out.1, HN2.out.2, fun h => by rw [HCN.out, if_pos HTF2.out, HNN.out.2.2 h, ← HAH.out, ← HBH.out, HD.out]⟩, HB3'.out⟩
            case measure => simp [intOf]; omega
          · have hAB : B = A := by omega
            subst hAB
            go_wp2_with fail
            refine HJ1.out.mono ?_
            rintro e y1 ⟨v1, rfl, HP1⟩
            have hk1 := HP1.out.box HRZ.out (fun g hg => Nat.ne_of_lt (HLTO.out g hg).2)
            have HK1 := Lib.hid hk1
            clear r0 r1 r2 hk1
            obtain ⟨r0, r1, r2⟩ := HK1.out.1.cells
            simp only at r0 r1 r2
            have HB1' := Lib.hid (HBz.out.trans HP1.out.bel)
            have HJ2 := Lib.hid (HJN.out w2.heap.size v1 _ ⟨B, B, tt⟩ y1 HP1.out.own HB1'.out.size (Nat.le_trans (joinL_len _ _) (by have := HL1.out; omega)))
            go_wp2_with fail
            refine HJ2.out.mono ?_
            rintro e y2 ⟨v2, rfl, HP2⟩
            have hk2 := HP2.out.box HK1.out.1 HK1.out.2
            have HK2 := Lib.hid hk2
            clear r0 r1 r2 hk2
            obtain ⟨r0, r1, r2⟩ := HK2.out.1.cells
            simp only at r0 r1 r2
            have HB2' := Lib.hid (HB1'.out.trans HP2.out.bel)
            have HJ3 : Hid (Calls Try.prog 49 #[v2, .agg #[.int .i64 B, .int .i64 xhi, .int .i64 xtag]] y2 fun e w' => ∃ v', e = .returned v' ∧ Hid (JP y2 w2.heap.size v2 (joinL (joinL (joinL lst ⟨xlo, B, xtag⟩) ⟨B, B, tt⟩) ⟨B, xhi, xtag⟩) v' w')) := HJN.out w2.heap.size v2 _ ⟨B, xhi, xtag⟩ y2 HP2.out.own HB2'.out.size (Nat.le_trans (joinL_len _ _) (by have := HL1.out; have := joinL_len lst ⟨xlo, B, xtag⟩; omega))
            go_wp2_with fail
            refine HJ3.out.mono ?_
            rintro e y3 ⟨v3, rfl, HP3⟩
            have HB3' := Lib.hid (HB2'.out.trans HP3.out.bel)
            have HF3 : Hid (rowR y3 w2.heap.size v3 (stepL lst ⟨xlo, xhi, xtag⟩ lo hi fr tt false)) := by
              have e0 := HP3.out.own
              have e1 : stepT ⟨xlo, xhi, xtag⟩ fr tt false = tt := if_pos (.inr HTF2.out)
              show rowR y3 w2.heap.size v3 (joinL (joinL (joinL lst ⟨xlo, stepA ⟨xlo, xhi, xtag⟩ lo, xtag⟩) ⟨stepA ⟨xlo, xhi, xtag⟩ lo, stepB ⟨xlo, xhi, xtag⟩ hi, stepT ⟨xlo, xhi, xtag⟩ fr tt false⟩) ⟨max (stepA ⟨xlo, xhi, xtag⟩ lo) (stepB ⟨xlo, xhi, xtag⟩ hi), xhi, xtag⟩)
              rw [← HAH.out, ← HBH.out, e1, HMAB.out]
              exact e0
            clear r0 r1 r2
            go_wp2_with fail
            go_roundw
            case rel => exact ⟨j + 1, xhi, nn + d, _, by omega, by go_num, (by have z1 := HBD.out.1.1; have z3 := HBD.out.2; first | rfl | (rw [z1]) | (rw [show d = 0 by omega, Int.add_zero]) | (clear hwd1 hwd2 hmab1 hmab2; go_num)), ⟨HF3.out, HST.out, HLN.out⟩, HCAN2.out, ⟨HN2.out.1, HN2.out.2, fun h => by rw [HCN.out, if_pos HTF2.out, HNN.out.2.2 h, ← HAH.out, ← HBH.out, HD.out]⟩, HB3'.out⟩
            case measure => simp [intOf]; omega
        · have htb : (xtag == fr) = false := beq_eq_false_iff_ne.2 ht
          have HTF2 := Lib.hid ht
          clear ht
          go_wp2_with fail
          refine HJ1.out.mono ?_
          rintro e y1 ⟨v1, rfl, HP1⟩
          have hk1 := HP1.out.box HRZ.out (fun g hg => Nat.ne_of_lt (HLTO.out g hg).2)
          have HK1 := Lib.hid hk1
          clear r0 r1 r2 hk1
          obtain ⟨r0, r1, r2⟩ := HK1.out.1.cells
          simp only at r0 r1 r2
          have HB1' := Lib.hid (HBz.out.trans HP1.out.bel)
          have HJ2 := Lib.hid (HJN.out w2.heap.size v1 _ ⟨A, B, xtag⟩ y1 HP1.out.own HB1'.out.size (Nat.le_trans (joinL_len _ _) (by have := HL1.out; omega)))
          go_wp2_with fail
          refine HJ2.out.mono ?_
          rintro e y2 ⟨v2, rfl, HP2⟩
          have hk2 := HP2.out.box HK1.out.1 HK1.out.2
          have HK2 := Lib.hid hk2
          clear r0 r1 r2 hk2
          obtain ⟨r0, r1, r2⟩ := HK2.out.1.cells
          simp only at r0 r1 r2
          have HB2' := Lib.hid (HB1'.out.trans HP2.out.bel)
          have HJ3 : Hid (Calls Try.prog 49 #[v2, .agg #[.int .i64 B, .int .i64 xhi, .int .i64 xtag]] y2 fun e w' => ∃ v', e = .returned v' ∧ Hid (JP y2 w2.heap.size v2 (joinL (joinL (joinL lst ⟨xlo, A, xtag⟩) ⟨A, B, xtag⟩) ⟨B, xhi, xtag⟩) v' w')) := HJN.out w2.heap.size v2 _ ⟨B, xhi, xtag⟩ y2 HP2.out.own HB2'.out.size (Nat.le_trans (joinL_len _ _) (by have := HL1.out; have := joinL_len lst ⟨xlo, A, xtag⟩; omega))
          go_wp2_with fail
          refine HJ3.out.mono ?_
          rintro e y3 ⟨v3, rfl, HP3⟩
          have HB3' := Lib.hid (HB2'.out.trans HP3.out.bel)
          have HF3 : Hid (rowR y3 w2.heap.size v3 (stepL lst ⟨xlo, xhi, xtag⟩ lo hi fr tt false)) := by
            have e0 := HP3.out.own
            have e1 : stepT ⟨xlo, xhi, xtag⟩ fr tt false = xtag := (if_neg (fun h => h.elim (fun h => by cases h) HTF2.out))
            show rowR y3 w2.heap.size v3 (joinL (joinL (joinL lst ⟨xlo, stepA ⟨xlo, xhi, xtag⟩ lo, xtag⟩) ⟨stepA ⟨xlo, xhi, xtag⟩ lo, stepB ⟨xlo, xhi, xtag⟩ hi, stepT ⟨xlo, xhi, xtag⟩ fr tt false⟩) ⟨max (stepA ⟨xlo, xhi, xtag⟩ lo) (stepB ⟨xlo, xhi, xtag⟩ hi), xhi, xtag⟩)
            rw [← HAH.out, ← HBH.out, e1, HMAB.out]
            exact e0
          clear r0 r1 r2
          go_wp2_with fail
          go_roundw
          case rel => exact ⟨j + 1, xhi, nn, _, by omega, by go_num, rfl, ⟨HF3.out, HST.out, HLN.out⟩, HCAN2.out, ⟨HN3.out.1, HN3.out.2, fun h => by rw [HCN.out, if_neg HTF2.out, HNN.out.2.2 h]; omega⟩, HB3'.out⟩
          case measure => simp [intOf]; omega
    · have hlt3 : ¬ (j : Int) < n := by omega
      have hjn : j = n := by omega
      have hdr : L.drop j = [] := List.drop_eq_nil_of_le (by have := HN.out; omega)
      have htk : L.take j = L := List.take_of_length_le (by have := HN.out; omega)
      have hms : m = size := by have := HCJ.out.1.1; rw [hdr] at this; exact this
      have HCN : Hid (false = false → nn = cnt fr (clip lo hi L)) := by have := HNN.out.2.2; rw [htk] at this; exact this
      have HC9 : Hid (Gs.Can (gS f lo hi fr tt false) 0 lst size) := by rw [← hms]; exact HROW.out.2.1
      have HI9 : Hid (IsRs w2.heap.size wr u15 lst) := IsRs.of_row HROW.out.1
      obtain ⟨ra, rc, hv⟩ := own_slice HROW.out.1
      subst hv
      obtain ⟨ln, hln⟩ : ∃ ln, ln = lst.length := ⟨_, rfl⟩
      rw [← hln] at HI9 ⊢
      have HLN := Lib.hid hln
      have HFU := Lib.hid (fun u => Rfull_any size u ra ln rc wr)
      have HRr := Lib.hid (HR2.out.next HBr.out)
      have HWr := Lib.hid (HB2.out.trans (HBr.out.mono HB2.out.size))
      have HGE : Hid (W.heap.size + 1 < w2.heap.size) := HR2.out.lt
      have HGW : Hid (w2.heap.size ≤ wr.heap.size) := HBr.out.size
      clear hmx hmn hdr htk hms hln hjn
      go_wp2_with fail
      refine (HFU.out _).mono ?_
      rintro e w6 ⟨s', v', e2, rfl, HQ, hb, -⟩
      have HR6 := Lib.hid (HRr.out.next hb)
      have HB6 := Lib.hid (HWr.out.trans (hb.mono HWr.out.size))
      have HI6 := Lib.hid (HI9.out.below hb)
      clear hb k0 k1
      obtain ⟨w7, HW7⟩ : ∃ w7, w7 = w6.alloc (.cells #[.int .i64 s', v'] 33) := ⟨_, rfl⟩
      have b7 : Below w6.heap.size w6 w7 := by rw [HW7]; exact (Below.refl _ _).alloc (Nat.le_refl _) _
      have HM7 : Hid (M2 w6.heap.size (.int .i64 s') v' w7) := by rw [HW7]; exact M2.new _ _ _ _
      have HR7 := Lib.hid (HR6.out.next b7)
      have HB7 := Lib.hid (HB6.out.trans (b7.mono HB6.out.size))
      have HI7 := Lib.hid (HI6.out.below b7)
      have HW7' := Lib.hid HW7
      clear HW7 b7
      rcases HQ.out with ⟨q1, rfl, rfl, rfl⟩ | ⟨q1, rfl, rfl, rfl⟩
      · have d0 := HR7.out.c0; have d1 := HR7.out.c1; have d2 := HR7.out.f0; have d3 := HR7.out.f1
        obtain ⟨u0, u1⟩ : _ ∧ _ := ⟨(HR7.out.put (.int .i64 0) (.slice none 0 0)).c0, (HR7.out.put (.int .i64 0) (.slice none 0 0)).c1⟩
        go_upto_region 22 with fail
        rw [← HW7'.out]
        go_wp2_with fail
        refine bodyPost_ret (v := .tuple #[.agg #[.int .i64 0, .slice none 0 0], .int .i64 0, .int .i64 5]) (by simp [results, Try.results43, go_sem, u0, u1]) rfl ?_
        have HBF := below_put HB7.out (B := W.heap.size + 1) (by omega) (.int .i64 0) (.slice none 0 0)
        have HRU : ∀ W', RU f size lo hi fr tt false L W.heap.size 0 (.slice none 0 0) 0 5 W' := fun W' => ⟨lst, HC9.out, .inl ⟨by rw [← HLN.out]; exact q1, rfl, rfl, rfl, rfl⟩⟩
        first
        | exact ⟨0, _, 0, 5, rfl, HRU _, HB7.out⟩
        | exact ⟨0, _, 0, 5, rfl, HRU _, HBF⟩
      · have d0 := HR7.out.c0; have d1 := HR7.out.c1; have d2 := HR7.out.f0; have d3 := HR7.out.f1
        have k0 := HM7.out.c0; have k1 := HM7.out.c1
        obtain ⟨u0, u1⟩ : _ ∧ _ := ⟨(HR7.out.put (.int .i64 s') (.slice ra ln rc)).c0, (HR7.out.put (.int .i64 s') (.slice ra ln rc)).c1⟩
        go_upto_region 22 with fail
        rw [← HW7'.out]
        go_wp2_with fail
        refine bodyPost_ret (v := .tuple #[.agg #[.int .i64 s', .slice ra ln rc], .int .i64 nn, .int .i64 0]) (by simp [results, Try.results43, go_sem, u0, u1]) rfl ?_
        have HBF := below_put HB7.out (B := W.heap.size + 1) (by omega) (.int .i64 s') (.slice ra ln rc)
        have HIF := ((HI7.out.set ⟨W.heap.size + 1, 0, none⟩ (by have := HGE.out; show W.heap.size + 1 < _; omega) (.int .i64 s')).set ⟨W.heap.size + 1, 1, none⟩ (by have := HGE.out; show W.heap.size + 1 < _; omega) (.slice ra ln rc)).mono (base' := W.heap.size) (by have := HGE.out; omega)
        exact ⟨s', _, nn, 0, rfl, ⟨lst, HC9.out, .inr ⟨by rw [← HLN.out]; exact q1, rfl, rfl, HIF, fun h => HCN.out (by first | exact h | trivial | cases h)⟩⟩, HBF⟩
end Go.Proofs.Ytjbenhmpeceaeaa
namespace Go.Proofs.Ytjbenhmpeceaeaa
open Go Go.RowKit Gs

/-- in a range one tag becomes another one -/
def swr (f : Int → Int) (lo hi : Int) (fr tt : Nat) (x : Int) : Int := if lo ≤ x ∧ x < hi then swp f fr tt x else f x
theorem swr_ctx {f : Int → Int} {a b lo hi : Int} {fr tt : Nat} (h : Ctx f a b) (h1 : tt < 16) : Ctx (swr f lo hi fr tt) a b := by
  refine ⟨h.1, h.2.1, fun p p1 p2 => ?_⟩
  have e1 := h.2.2 p p1 p2
  have e2 := (swp_ctx (fr := fr) h h1).2.2 p p1 p2
  simp only [swr]
  split <;> omega
/-- a map that was laid behind a world -/
structure Mt (w2 : World) (X : Nat) (p : Option Addr) (size : Int) (W' : World) : Prop where
  mb : Mb X p size W'
  ge : w2.heap.size ≤ X
  bel : Below w2.heap.size w2 W'
theorem Mt.next {w2 W' W2 : World} {X : Nat} {p : Option Addr} {size : Int} (h : Mt w2 X p size W') (hb : Below W'.heap.size W' W2) : Mt w2 X p size W2 := ⟨h.mb.next hb, h.ge, h.bel.trans (hb.mono h.bel.size)⟩
theorem Mt.drew {w2 W' : World} {X : Nat} {p : Option Addr} {size : Int} (h : Mt w2 X p size W') : Mt w2 X p size W'.drew := h.next (Below.refl _ _).drew
theorem Mt.new {w2 W' : World} (h : Below w2.heap.size w2 W') (p : Option Addr) (size : Int) (Ty : TypeId) : Mt w2 W'.heap.size p size (W'.alloc (.cells #[.pointer p, .int .i64 size] Ty)) := ⟨Mb.new _ _ _ _, h.size, h.alloc h.size _⟩
theorem Mt.put {w2 W' : World} {X : Nat} {p : Option Addr} {size : Int} (h : Mt w2 X p size W') (q : Option Addr) (s : Int) : Mt w2 X q s ((W'.setCell ⟨X, 0, none⟩ (.pointer q)).setCell ⟨X, 1, none⟩ (.int .i64 s)) := ⟨h.mb.put q s, h.ge, (h.bel.setCell h.ge _).setCell h.ge _⟩
theorem bUp2 {w2 W' : World} (h : Below w2.heap.size w2 W') (o : Obj) : Below w2.heap.size w2 (W'.alloc o) := h.alloc h.size _
theorem Upd.alloc {f g : Int → Int} {size er s e : Int} {q : Option Addr} {W : World} (h : Upd f g size er q s e W) (o : Obj) : Upd f g size er q s e (W.alloc o) := h.below ((Below.refl _ _).alloc (Nat.le_refl _) _)
set_option maxHeartbeats 1000000 in
theorem Swap_err {f : Int → Int} {size lo hi fr tt : Int} {W : World} {p : Option Addr} (h : IsM f size W p) (her : errOf size lo hi [fr, tt] ≠ 0) :
    Calls Try.prog 39 #[.agg #[.pointer p, .int .i64 size], .int .i64 lo, .int .i64 hi, .int .i64 fr, .int .i64 tt] W fun e w' => e = .returned (.tuple #[.agg #[.pointer none, .int .i64 0], .int .i64 0, .int .i64 (errOf size lo hi [fr, tt])]) ∧ Below W.heap.size W w' := by
  obtain ⟨b, rfl⟩ := h.some
  obtain ⟨w0, HW, hm, hr, hc, hlt, hb⟩ := boxes3 W (some ⟨b, 0, none⟩) size 27 #[.int .i64 fr, .int .i64 tt] 3
  have HCK : Hid (Calls Try.prog 46 #[.agg #[.pointer (some ⟨b, 0, none⟩), .int .i64 size], .int .i64 lo, .int .i64 hi, .slice (some ⟨W.heap.size + 1 + 1, 0, none⟩) 2 2] w0 fun e w' => e = .returned (.int .i64 (errOf size lo hi [fr, tt])) ∧ Below w0.heap.size w0 w') :=
    check_any b (W.heap.size + 1 + 1) 2 size lo hi [fr, tt] w0 hlt (fun i hi => by
      have : i = 0 ∨ i = 1 := by simp at hi; omega
      rcases this with rfl | rfl
      · exact hc 0 _ rfl
      · exact hc 1 _ rfl) (by simp)
  have HR := Lib.hid hr; have HB := Lib.hid hb; have HW' := Lib.hid HW
  have hne : (errOf size lo hi [fr, tt] == 0) = false := beq_eq_false_iff_ne.2 her
  clear hm hr hb HW hc hlt h her
  generalize errOf size lo hi [fr, tt] = er at *
  go_enter Try.func39, Try.ntmps39
  go_wp2_with fail
  rw [← HW'.out]
  refine HCK.out.mono ?_
  rintro e w1 ⟨rfl, hb⟩
  have HR1 := Lib.hid (HR.out.next hb)
  have HB1 := Lib.hid (HB.out.trans (hb.mono HB.out.size))
  have d0 := HR1.out.c0; have d1 := HR1.out.c1; have d2 := HR1.out.f0; have d3 := HR1.out.f1
  obtain ⟨u0, u1⟩ : _ ∧ _ := ⟨(HR1.out.put none 0).c0, (HR1.out.put none 0).c1⟩
  clear hb
  go_wp2_with fail
  refine bodyPost_ret (v := .tuple #[.agg #[.pointer none, .int .i64 0], .int .i64 0, .int .i64 er]) (by simp [results, Try.results39, go_sem, u0, u1]) rfl ?_
  have HBF := below_put HB1.out (B := W.heap.size + 1) (by omega) (.pointer none) (.int .i64 0)
  exact ⟨rfl, by first | exact HB1.out | exact HBF⟩
set_option maxHeartbeats 2000000 in
theorem Swap_ok {f : Int → Int} {size lo hi : Int} {fr tt : Nat} {W : World} {p : Option Addr} (h : IsM f size W p) (her : errOf size lo hi [(fr : Int), (tt : Int)] = 0) :
    Calls Try.prog 39 #[.agg #[.pointer p, .int .i64 size], .int .i64 lo, .int .i64 hi, .int .i64 fr, .int .i64 tt] W fun e w' => ∃ q s n e2, e = .returned (.tuple #[.agg #[.pointer q, .int .i64 s], .int .i64 n, .int .i64 e2]) ∧ Hid (Upd f (swr f lo hi fr tt) size 0 q s e2 w') ∧ Hid ((e2 = 0 ∧ ∃ L, Gs.Can f lo L hi ∧ n = cnt fr L) ∨ (e2 ≠ 0 ∧ n = 0)) ∧ Below W.heap.size W w' := by
  obtain ⟨r1, r2, r3, r4⟩ := errOf_zero her
  have r5 := (r4 fr (by simp)).2
  have r6 := (r4 tt (by simp)).2
  have hfr : fr < 16 := by omega
  have htt : tt < 16 := by omega
  have hlo := h.lo
  have htr := h.tr
  have hcx := h.ctx
  have hpx : Ctx (swr f lo hi fr tt) 0 size := swr_ctx hcx htt
  obtain ⟨b, rfl⟩ := h.some
  obtain ⟨w0, HW, hm, hr, hc, hlt, hb⟩ := boxes3 W (some ⟨b, 0, none⟩) size 27 #[.int .i64 fr, .int .i64 tt] 3
  have HCK : Hid (Calls Try.prog 46 #[.agg #[.pointer (some ⟨b, 0, none⟩), .int .i64 size], .int .i64 lo, .int .i64 hi, .slice (some ⟨W.heap.size + 1 + 1, 0, none⟩) 2 2] w0 fun e w' => e = .returned (.int .i64 (errOf size lo hi [(fr : Int), (tt : Int)])) ∧ Below w0.heap.size w0 w') :=
    check_any b (W.heap.size + 1 + 1) 2 size lo hi [(fr : Int), (tt : Int)] w0 hlt (fun i hi => by
      have : i = 0 ∨ i = 1 := by simp at hi; omega
      rcases this with rfl | rfl
      · exact hc 0 _ rfl
      · exact hc 1 _ rfl) (by simp)
  rw [her] at HCK
  have HCT : Hid (∀ W', Below W.heap.size W W' → Calls Try.prog 66 #[.agg #[.pointer (some ⟨b, 0, none⟩), .int .i64 size], .int .i64 lo, .int .i64 hi] W' fun e w' => ∃ x y z, e = .returned (.tuple #[.pointer x, .pointer y, .pointer z]) ∧ Hid (Tr f 0 lo 4096 w' x) ∧ Hid (Tr f lo hi 4096 w' y) ∧ Hid (Tr f hi size 4096 w' z) ∧ Below W'.heap.size W' w') := fun W' hb => cut_any (htr.below hb) hcx (by omega) r1 r2 r3
  have HRT : Hid (∀ y W', Tr f lo hi 4096 W' y → Calls Try.prog 70 #[.pointer y, .int .i64 fr, .int .i64 tt] W' fun e w' => ∃ x, e = .returned (.pointer x) ∧ Hid (Tr (swr f lo hi fr tt) lo hi 4096 w' x) ∧ Below W'.heap.size W' w') := fun y W' hy =>
    (hy.retag (hcx.sub r1 r3) hfr htt (by omega)).mono fun e w' ⟨x, he, ht, hB⟩ => ⟨x, he, ht.out.congr fun z z1 z2 => by simp only [swr]; rw [if_pos ⟨z1, z2⟩], hB⟩
  have HC1 : Hid (∀ x y W', Tr f 0 lo 4096 W' x → Tr (swr f lo hi fr tt) lo hi 4096 W' y → Calls Try.prog 69 #[.pointer x, .pointer y] W' fun e w' => ∃ g, e = .returned (.pointer g) ∧ Hid (Tr (swr f lo hi fr tt) 0 hi 8193 w' g) ∧ Below W'.heap.size W' w') := fun x y W' hx hy =>
    Tr.concat (n := 4096) (k := 4096) (hx.congr fun z z1 z2 => by simp only [swr]; rw [if_neg (by omega)]) hy (hpx.sub (Int.le_refl _) r3) (by omega)
  have HC2 : Hid (∀ x y W', Tr (swr f lo hi fr tt) 0 hi 8193 W' x → Tr f hi size 4096 W' y → Calls Try.prog 69 #[.pointer x, .pointer y] W' fun e w' => ∃ g, e = .returned (.pointer g) ∧ Hid (Tr (swr f lo hi fr tt) 0 size 12290 w' g) ∧ Below W'.heap.size W' w') := fun x y W' hx hy =>
    Tr.concat (n := 8193) (k := 4096) hx (hy.congr fun z z1 z2 => by simp only [swr]; rw [if_neg (by omega)]) hpx (by omega)
  have HWI : Hid (∀ g W', Tr (swr f lo hi fr tt) 0 size 12290 W' g → Calls Try.prog 67 #[.agg #[.pointer (some ⟨b, 0, none⟩), .int .i64 size], .pointer g] W' fun e w' => ∃ q s e2, e = .returned (.tuple #[.agg #[.pointer q, .int .i64 s], .int .i64 e2]) ∧ Hid (Upd f (swr f lo hi fr tt) size 0 q s e2 w') ∧ Below W'.heap.size W' w') := fun g W' hg => with_any hg hpx hlo (by omega)
  have HCN : Hid (∀ y W', Tr f lo hi 4096 W' y → ∃ n, Hid (∃ L, Gs.Can f lo L hi ∧ n = cnt fr L) ∧ ∀ W'', Below W'.heap.size W' W'' → Calls Try.prog 53 #[.pointer y, .int .i64 fr] W'' fun e w' => e = .returned (.int .i64 n) ∧ W'' = w') := fun y W' ⟨t, t1, t2, _⟩ => ⟨cnt fr t.L, ⟨t.L, t2, rfl⟩, fun W'' hb => count_any t _ W'' fr hfr (IsT.below hb t1)⟩
  have HM := Lib.hid hm; have HR := Lib.hid hr; have HB := Lib.hid hb; have HW' := Lib.hid HW
  clear hm hr hb HW hc hlt h her r1 r2 r3 r4 r5 r6 hlo htr hcx hpx hfr htt
  go_enter Try.func39, Try.ntmps39
  go_wp2_with fail
  rw [← HW'.out]
  refine HCK.out.mono ?_
  rintro e w1 ⟨rfl, hb⟩
  have HR1 := Lib.hid (HR.out.next hb)
  have HM1 := Lib.hid (HM.out.next hb)
  have HB1 := Lib.hid (HB.out.trans (hb.mono HB.out.size))
  have k0 := HM1.out.c0; have k1 := HM1.out.c1
  clear hb
  go_wp2_with fail
  refine (HCT.out _ HB1.out).mono ?_
  rintro e w2 ⟨x, y, z, rfl, HX, HY, HZ, hb⟩
  have HR2 := Lib.hid (HR1.out.next hb)
  have HM2 := Lib.hid (HM1.out.next hb)
  have HB2 := Lib.hid (HB1.out.trans (hb.mono HB1.out.size))
  clear hb k0 k1
  have HALL : Hid (∀ W', Below w2.heap.size w2 W' → W'.cell? ⟨W.heap.size, 0, none⟩ = some (.pointer (some ⟨b, 0, none⟩)) ∧ W'.cell? ⟨W.heap.size, 1, none⟩ = some (.int .i64 size)) := fun W' h => ⟨(HM2.out.next h).c0, (HM2.out.next h).c1⟩
  have HAL : Hid (∀ W' o, Below w2.heap.size w2 W' → (W'.alloc o).cell? ⟨W.heap.size, 0, none⟩ = some (.pointer (some ⟨b, 0, none⟩)) ∧ (W'.alloc o).cell? ⟨W.heap.size, 1, none⟩ = some (.int .i64 size)) := fun W' o h => HALL.out _ (bUp2 h o)
  have HALD : Hid (∀ W' o, Below w2.heap.size w2 W' → (W'.alloc o).drew.cell? ⟨W.heap.size, 0, none⟩ = some (.pointer (some ⟨b, 0, none⟩)) ∧ (W'.alloc o).drew.cell? ⟨W.heap.size, 1, none⟩ = some (.int .i64 size)) := fun W' o h => HALL.out _ (bUp2 h o).drew
  have HST : Hid (∀ W' X u v, Below w2.heap.size w2 W' → w2.heap.size ≤ X → ((W'.setCell ⟨X, 0, none⟩ u).setCell ⟨X, 1, none⟩ v).cell? ⟨W.heap.size, 0, none⟩ = some (.pointer (some ⟨b, 0, none⟩)) ∧ ((W'.setCell ⟨X, 0, none⟩ u).setCell ⟨X, 1, none⟩ v).cell? ⟨W.heap.size, 1, none⟩ = some (.int .i64 size)) := fun W' X u v h hX => HALL.out _ ((h.setCell hX u).setCell hX v)
  have HRT2 : Hid (∀ W', Below w2.heap.size w2 W' → Calls Try.prog 70 #[.pointer y, .int .i64 fr, .int .i64 tt] W' fun e w' => ∃ x, e = .returned (.pointer x) ∧ Hid (Tr (swr f lo hi fr tt) lo hi 4096 w' x) ∧ Below W'.heap.size W' w' ∧ Below w2.heap.size w2 w') := fun W' h => (HRT.out y W' (HY.out.below h)).mono fun e w' ⟨g, he, ht, hB⟩ => ⟨g, he, ht, hB, h.trans (hB.mono h.size)⟩
  have HC12 : Hid (∀ g W', Below w2.heap.size w2 W' → Hid (Tr (swr f lo hi fr tt) lo hi 4096 W' g) → Calls Try.prog 69 #[.pointer x, .pointer g] W' fun e w' => ∃ g, e = .returned (.pointer g) ∧ Hid (Tr (swr f lo hi fr tt) 0 hi 8193 w' g) ∧ Below W'.heap.size W' w' ∧ Below w2.heap.size w2 w') := fun g W' h hg => (HC1.out x g W' (HX.out.below h) hg.out).mono fun e w' ⟨g, he, ht, hB⟩ => ⟨g, he, ht, hB, h.trans (hB.mono h.size)⟩
  have HC22 : Hid (∀ g W', Below w2.heap.size w2 W' → Hid (Tr (swr f lo hi fr tt) 0 hi 8193 W' g) → Calls Try.prog 69 #[.pointer g, .pointer z] W' fun e w' => ∃ g, e = .returned (.pointer g) ∧ Hid (Tr (swr f lo hi fr tt) 0 size 12290 w' g) ∧ Below W'.heap.size W' w' ∧ Below w2.heap.size w2 w') := fun g W' h hg => (HC2.out g z W' hg.out (HZ.out.below h)).mono fun e w' ⟨g, he, ht, hB⟩ => ⟨g, he, ht, hB, h.trans (hB.mono h.size)⟩
  have HWI2 : Hid (∀ g W', Below w2.heap.size w2 W' → Hid (Tr (swr f lo hi fr tt) 0 size 12290 W' g) → Calls Try.prog 67 #[.agg #[.pointer (some ⟨b, 0, none⟩), .int .i64 size], .pointer g] W' fun e w' => ∃ q s e2, e = .returned (.tuple #[.agg #[.pointer q, .int .i64 s], .int .i64 e2]) ∧ Hid (Upd f (swr f lo hi fr tt) size 0 q s e2 w') ∧ Below W'.heap.size W' w' ∧ Below w2.heap.size w2 w') := fun g W' h ht => (HWI.out g W' ht.out).mono fun e w' ⟨q, s, e2, he, hu, hB⟩ => ⟨q, s, e2, he, hu, hB, h.trans (hB.mono h.size)⟩
  have HTA : Hid (∀ a b n q W' o, Hid (Tr (swr f lo hi fr tt) a b n W' q) → Hid (Tr (swr f lo hi fr tt) a b n (W'.alloc o) q)) := fun a b n q W' o h => h.out.below ((Below.refl _ _).alloc (Nat.le_refl _) _)
  have hs : Below w2.heap.size w2 w2 := Below.refl _ _
  have hs2 := hs.drew
  have hcl := HALL.out _ hs2
  have hc0 := HALL.out _ hs
  go_upto_region 5 with fail
  go_cut [17, 18] from 38 to 50 (fun s17 s18 wx => ∃ X q s e2, s17 = .pointer (some ⟨X, 0, none⟩) ∧ s18 = .int .i64 e2 ∧ Hid (Mt w2 X q s wx) ∧ Hid (Upd f (swr f lo hi fr tt) size 0 q s e2 wx))
  case first =>
    go_region_held3 (fun W' : World => W'.cell? ⟨W.heap.size, 0, none⟩ = some (.pointer (some ⟨b, 0, none⟩)) ∧ W'.cell? ⟨W.heap.size, 1, none⟩ = some (.int .i64 size)) (first | assumption | (with_reducible exact HAL.out _ _ (by assumption)) | (with_reducible exact HALD.out _ _ (by assumption)) | (with_reducible exact HST.out _ _ _ _ (by assumption) zA.ge) | fail) (first
      | (go_at_call 70; with_reducible refine (HRT2.out _ ?h).mono ?_; (case h => (first | assumption | exact bUp2 (by assumption) _ | exact (bUp2 (by assumption) _).drew | fail)); rintro e w' ⟨g1, rfl, hg1, hb1, hs1'⟩; have hc1' := HALL.out _ hs1'; (first | (have zA := Mt.next (Mt.new (by assumption) none 0 _) hb1) | (have zA := Mt.next (Mt.drew (Mt.new (by assumption) none 0 _)) hb1) | skip); (first | (have z0 := zA.mb.c0; have z1 := zA.mb.c1; have z2 := zA.mb.f0; have z3 := zA.mb.f1) | skip))
      | (go_at_call 69; with_reducible refine (HC12.out _ _ ?h ?r).mono ?_; (case h => (first | assumption | exact bUp2 (by assumption) _ | fail)); (case r => (first | assumption | (with_reducible exact HTA.out _ _ _ _ _ _ (by assumption)) | fail)); rintro e w' ⟨g2, rfl, hg2, hb2, hs2'⟩; have hc2' := HALL.out _ hs2'; (first | (have zA := Mt.next (Mt.new (by assumption) none 0 _) hb2) | (have zA := Mt.next zA hb2) | skip); (first | (have z0 := zA.mb.c0; have z1 := zA.mb.c1; have z2 := zA.mb.f0; have z3 := zA.mb.f1) | skip))
      | (go_at_call 69; with_reducible refine (HC22.out _ _ ?h ?r).mono ?_; (case h => (first | assumption | exact bUp2 (by assumption) _ | fail)); (case r => (first | assumption | (with_reducible exact HTA.out _ _ _ _ _ _ (by assumption)) | fail)); rintro e w' ⟨g3, rfl, hg3, hb3, hs3'⟩; have hc3' := HALL.out _ hs3'; (first | (have zA := Mt.next (Mt.new (by assumption) none 0 _) hb3) | (have zA := Mt.next zA hb3) | skip); (first | (have z0 := zA.mb.c0; have z1 := zA.mb.c1; have z2 := zA.mb.f0; have z3 := zA.mb.f1) | skip))
      | (go_at_call 67; with_reducible refine (HWI2.out _ _ ?h ?r).mono ?_; (case h => (first | assumption | exact bUp2 (by assumption) _ | fail)); (case r => (first | assumption | (with_reducible exact HTA.out _ _ _ _ _ _ (by assumption)) | fail)); rintro e w' ⟨q, s, e2, rfl, hu, hb4, hs4'⟩; have hc4' := HALL.out _ hs4'; (first | (have zA := Mt.next (Mt.new (by assumption) none 0 _) hb4) | (have zA := Mt.next zA hb4) | skip); (first | (have z0 := zA.mb.c0; have z1 := zA.mb.c1; have z2 := zA.mb.f0; have z3 := zA.mb.f1) | skip)) | fail)
    all_goals
      go_wp2_with fail
      go_meet
      case rel => exact ⟨_, q, s, e2, rfl, rfl, by first | exact Mt.put zA q s | exact Mt.new (by assumption) q s _ | fail, by first | exact Mb.upd zA.mb hu.out _ _ | exact hu.out.alloc _ | fail⟩
  case rest =>
    obtain ⟨X, q, s, e2, rfl, rfl, HT, HU⟩ := hcut
    have HRX := Lib.hid (HR2.out.next HT.out.bel)
    have HBX : Hid (Below W.heap.size W wc) := HB2.out.trans (HT.out.bel.mono HB2.out.size)
    obtain ⟨n, HN, hcnt⟩ := HCN.out y w2 HY.out
    have HCT2 : Hid (∀ W', Below wc.heap.size wc W' → Calls Try.prog 53 #[.pointer y, .int .i64 fr] W' fun e w' => e = .returned (.int .i64 n) ∧ W' = w') := fun W' h => hcnt W' (HT.out.bel.trans (h.mono HT.out.bel.size))
    have d0 := HRX.out.c0; have d1 := HRX.out.c1; have d2 := HRX.out.f0; have d3 := HRX.out.f1
    have k0 := HT.out.mb.c0; have k1 := HT.out.mb.c1
    clear hcnt hs hs2 hcl hc0
    rcases HU.out with ⟨h1, _⟩ | ⟨_, rfl, rfl, rfl, h4⟩ | ⟨_, rfl, rfl, h4⟩
    · exact absurd rfl h1
    · have HL := Lib.hid h4
      clear h4
      obtain ⟨u0, u1⟩ : _ ∧ _ := ⟨(HRX.out.put none 0).c0, (HRX.out.put none 0).c1⟩
      go_wp2_with fail
      refine bodyPost_ret (v := .tuple #[.agg #[.pointer none, .int .i64 0], .int .i64 0, .int .i64 5]) (by simp [results, Try.results39, go_sem, u0, u1]) rfl ?_
      have HBF := below_put HBX.out (B := W.heap.size + 1) (by omega) (.pointer none) (.int .i64 0)
      exact ⟨none, 0, 0, 5, rfl, .inr (.inl ⟨rfl, rfl, rfl, rfl, HL.out⟩), .inr ⟨by decide, rfl⟩, by first | exact HBX.out | exact HBF⟩
    · have HI := Lib.hid h4
      clear h4
      have hne : W.heap.size + 1 ≠ X := by have h1 := HT.out.ge; have h2 := HR2.out.lt; omega
      have HNE := Lib.hid hne
      have HRD := Lib.hid HRX.out.drew
      have hp' := HRX.out.put q s
      have v0 := hp'.drew.c0; have v1 := hp'.drew.c1; have v2 := hp'.c0; have v3 := hp'.c1
      have HST3 : Hid (∀ u v, ((wc.setCell ⟨W.heap.size + 1, 0, none⟩ u).setCell ⟨W.heap.size + 1, 1, none⟩ v).drew.cell? ⟨X, 0, none⟩ = some (.pointer q) ∧ ((wc.setCell ⟨W.heap.size + 1, 0, none⟩ u).setCell ⟨W.heap.size + 1, 1, none⟩ v).drew.cell? ⟨X, 1, none⟩ = some (.int .i64 s)) := fun u v => ⟨(HT.out.mb.other HNE.out u v).drew.c0, (HT.out.mb.other HNE.out u v).drew.c1⟩
      have HST2 : Hid (∀ W' u v, Below wc.heap.size wc W' → ((W'.setCell ⟨W.heap.size + 1, 0, none⟩ u).setCell ⟨W.heap.size + 1, 1, none⟩ v).cell? ⟨X, 0, none⟩ = some (.pointer q) ∧ ((W'.setCell ⟨W.heap.size + 1, 0, none⟩ u).setCell ⟨W.heap.size + 1, 1, none⟩ v).cell? ⟨X, 1, none⟩ = some (.int .i64 s)) := fun W' u v h => ⟨((HT.out.mb.next h).other HNE.out u v).c0, ((HT.out.mb.next h).other HNE.out u v).c1⟩
      have HBF := Lib.hid (below_put HBX.out (B := W.heap.size + 1) (by omega) (.pointer q) (.int .i64 s)).drew
      have HUF := Lib.hid ((HRX.out.upd HU.out (.pointer q) (.int .i64 s)).below (Below.refl _ _).drew)
      have hs : Below wc.heap.size wc wc := Below.refl _ _
      have hs2 := hs.drew
      have hcl : wc.cell? ⟨X, 0, none⟩ = some (.pointer q) ∧ wc.cell? ⟨X, 1, none⟩ = some (.int .i64 s) := ⟨HT.out.mb.c0, HT.out.mb.c1⟩
      have hcl2 : wc.drew.cell? ⟨X, 0, none⟩ = some (.pointer q) ∧ wc.drew.cell? ⟨X, 1, none⟩ = some (.int .i64 s) := hcl
      have e0 := HRD.out.c0; have e1 := HRD.out.c1; have e2 := HRD.out.f0; have e3 := HRD.out.f1
      clear hne hp'
      go_wp2_with fail
      go_region_held3 (fun W' : World => W'.cell? ⟨X, 0, none⟩ = some (.pointer q) ∧ W'.cell? ⟨X, 1, none⟩ = some (.int .i64 s)) (first | assumption | (with_reducible exact HST2.out _ _ _ (by assumption)) | (with_reducible exact HST3.out _ _) | fail) (first
        | (go_at_call 53; with_reducible refine (HCT2.out _ ?h).mono ?_; (case h => assumption); rintro e w' ⟨rfl, rfl⟩) | fail)
      all_goals
        go_wp2_with fail
        refine bodyPost_ret (v := .tuple #[.agg #[.pointer q, .int .i64 s], .int .i64 n, .int .i64 0]) (by simp [results, Try.results39, go_sem, v0, v1]) rfl ?_
        exact ⟨q, s, n, 0, rfl, HUF, .inl ⟨rfl, HN.out⟩, HBF.out⟩
/-- Swap, of a usable map -/
theorem Swap_any {f : Int → Int} {size lo hi fr tt : Int} {W : World} {p : Option Addr} (h : IsM f size W p) :
    Calls Try.prog 39 #[.agg #[.pointer p, .int .i64 size], .int .i64 lo, .int .i64 hi, .int .i64 fr, .int .i64 tt] W fun e w' => ∃ q s n e2, e = .returned (.tuple #[.agg #[.pointer q, .int .i64 s], .int .i64 n, .int .i64 e2]) ∧ Hid (Upd f (swr f lo hi fr.toNat tt.toNat) size (errOf size lo hi [fr, tt]) q s e2 w') ∧ Hid ((e2 = 0 ∧ 0 ≤ fr ∧ ∃ L, Gs.Can f lo L hi ∧ n = cnt fr L) ∨ (e2 ≠ 0 ∧ n = 0)) ∧ Below W.heap.size W w' := by
  by_cases her : errOf size lo hi [fr, tt] = 0
  · obtain ⟨r1, r2, r3, r4⟩ := errOf_zero her
    have r5 := (r4 fr (by simp)).1
    have r6 := (r4 tt (by simp)).1
    obtain ⟨a, rfl⟩ : ∃ a : Nat, fr = a := ⟨fr.toNat, by omega⟩
    obtain ⟨b, rfl⟩ : ∃ b : Nat, tt = b := ⟨tt.toNat, by omega⟩
    refine (Swap_ok h her).mono ?_
    rintro e w' ⟨q, s, n, e2, rfl, hu, hn, hB⟩
    refine ⟨q, s, n, e2, rfl, ?_, ?_, hB⟩
    · rw [her]; exact hu
    · rcases hn.out with ⟨h1, h2⟩ | h1
      · exact .inl ⟨h1, r5, h2⟩
      · exact .inr h1
  · refine (Swap_err h her).mono ?_
    rintro e w' ⟨rfl, hB⟩
    exact ⟨none, 0, 0, _, rfl, .inl ⟨her, rfl, rfl, rfl⟩, .inr ⟨her, rfl⟩, hB⟩
end Go.Proofs.Ytjbenhmpeceaeaa
namespace Go.Proofs.Ytjbenhmpeceaeaa
open Go Go.RowKit Gs

theorem gS_swr (f : Int → Int) (lo hi : Int) (fr tt : Nat) : gS f lo hi fr tt false = swr f lo hi fr tt := by
  funext x
  show (if lo ≤ x ∧ x < hi ∧ (false = true ∨ f x = fr) then (tt : Int) else f x) = if lo ≤ x ∧ x < hi then (if f x = fr then (tt : Int) else f x) else f x
  by_cases h : lo ≤ x ∧ x < hi
  · by_cases h2 : f x = fr
    · rw [if_pos ⟨h.1, h.2, .inr h2⟩, if_pos h, if_pos h2]
    · rw [if_neg (fun h' => h'.2.2.elim (fun h => by cases h) h2), if_pos h, if_neg h2]
  · rw [if_neg (fun h' => h ⟨h'.1, h'.2.1⟩), if_neg h]
set_option maxHeartbeats 1000000 in
theorem RSwap_un (size lo hi fr tt : Int) (any : Bool) (a : Option Addr) (n c : Nat) (W : World) (hn : ¬ 0 < n) : Calls Try.prog 43 #[.agg #[.int .i64 size, .slice a n c], .int .i64 lo, .int .i64 hi, .int .i64 fr, .int .i64 tt, .bool any] W fun e w' => e = .returned (.tuple #[.agg #[.int .i64 0, .slice none 0 0], .int .i64 0, .int .i64 1]) ∧ Below W.heap.size W w' := by
  obtain ⟨w0, HW, hm, hr, hb⟩ := boxesR W size (.slice a n c) 33
  have HUS : Hid (∀ W', Calls Try.prog 42 #[.agg #[.int .i64 size, .slice a n c]] W' fun e w' => e = .returned (.bool false) ∧ Below W'.heap.size W' w') := fun W' => by have := RUsable_any size a n c W'; rwa [decide_eq_false hn] at this
  have HM := Lib.hid hm; have HR := Lib.hid hr; have HB := Lib.hid hb; have HW' := Lib.hid HW
  have k0 := HM.out.c0; have k1 := HM.out.c1
  clear HW hm hr hb hn
  go_enter Try.func43, Try.ntmps43
  go_upto_region 1 with fail
  rw [← HW'.out]
  go_wp2_with fail
  refine (HUS.out _).mono ?_
  rintro e wHUS ⟨rfl, hb⟩
  have HM := Lib.hid (HM.out.next hb); have HR := Lib.hid (HR.out.next hb)
  have HB := Lib.hid (HB.out.trans (hb.mono HB.out.size))
  clear hb k0 k1
  have k0 := HM.out.c0; have k1 := HM.out.c1
  have d0 := HR.out.c0; have d1 := HR.out.c1; have d2 := HR.out.f0; have d3 := HR.out.f1
  obtain ⟨u0, u1⟩ : _ ∧ _ := ⟨(HR.out.put (.int .i64 0) (.slice none 0 0)).c0, (HR.out.put (.int .i64 0) (.slice none 0 0)).c1⟩
  go_wp2_with fail
  refine bodyPost_ret (v := .tuple #[.agg #[.int .i64 0, .slice none 0 0], .int .i64 0, .int .i64 1]) (by simp [results, Try.results43, go_sem, u0, u1]) rfl ?_
  have HBF := below_put HB.out (B := W.heap.size + 1) (by omega) (.int .i64 0) (.slice none 0 0)
  exact ⟨rfl, by first | exact HB.out | exact HBF⟩
set_option maxHeartbeats 1000000 in
theorem RSwap_range (size lo hi fr tt : Int) (any : Bool) (a : Option Addr) (n c : Nat) (W : World) (hn : 0 < n) (hv : ¬ (0 ≤ lo ∧ lo ≤ hi ∧ hi ≤ size)) : Calls Try.prog 43 #[.agg #[.int .i64 size, .slice a n c], .int .i64 lo, .int .i64 hi, .int .i64 fr, .int .i64 tt, .bool any] W fun e w' => e = .returned (.tuple #[.agg #[.int .i64 0, .slice none 0 0], .int .i64 0, .int .i64 3]) ∧ Below W.heap.size W w' := by
  obtain ⟨w0, HW, hm, hr, hb⟩ := boxesR W size (.slice a n c) 33
  have HUS : Hid (∀ W', Calls Try.prog 42 #[.agg #[.int .i64 size, .slice a n c]] W' fun e w' => e = .returned (.bool true) ∧ Below W'.heap.size W' w') := fun W' => by have := RUsable_any size a n c W'; rwa [decide_eq_true hn] at this
  have HVA : Hid (∀ W', Calls Try.prog 48 #[.agg #[.int .i64 size, .slice a n c], .int .i64 lo, .int .i64 hi] W' fun e w' => e = .returned (.bool false) ∧ Below W'.heap.size W' w') := fun W' => by have := Rvalid_any size lo hi (.slice a n c) W'; rwa [decide_eq_false (p := 0 ≤ lo ∧ lo ≤ hi ∧ hi ≤ size) hv] at this
  have HM := Lib.hid hm; have HR := Lib.hid hr; have HB := Lib.hid hb; have HW' := Lib.hid HW
  have k0 := HM.out.c0; have k1 := HM.out.c1
  clear HW hm hr hb hn hv
  go_enter Try.func43, Try.ntmps43
  go_upto_region 1 with fail
  rw [← HW'.out]
  go_wp2_with fail
  refine (HUS.out _).mono ?_
  rintro e wHUS ⟨rfl, hb⟩
  have HM := Lib.hid (HM.out.next hb); have HR := Lib.hid (HR.out.next hb)
  have HB := Lib.hid (HB.out.trans (hb.mono HB.out.size))
  clear hb k0 k1
  have k0 := HM.out.c0; have k1 := HM.out.c1
  go_wp2_with fail
  refine (HVA.out _).mono ?_
  rintro e wHVA ⟨rfl, hb⟩
  have HM := Lib.hid (HM.out.next hb); have HR := Lib.hid (HR.out.next hb)
  have HB := Lib.hid (HB.out.trans (hb.mono HB.out.size))
  clear hb k0 k1
  have k0 := HM.out.c0; have k1 := HM.out.c1
  have d0 := HR.out.c0; have d1 := HR.out.c1; have d2 := HR.out.f0; have d3 := HR.out.f1
  obtain ⟨u0, u1⟩ : _ ∧ _ := ⟨(HR.out.put (.int .i64 0) (.slice none 0 0)).c0, (HR.out.put (.int .i64 0) (.slice none 0 0)).c1⟩
  go_wp2_with fail
  refine bodyPost_ret (v := .tuple #[.agg #[.int .i64 0, .slice none 0 0], .int .i64 0, .int .i64 3]) (by simp [results, Try.results43, go_sem, u0, u1]) rfl ?_
  have HBF := below_put HB.out (B := W.heap.size + 1) (by omega) (.int .i64 0) (.slice none 0 0)
  exact ⟨rfl, by first | exact HB.out | exact HBF⟩
-- tags
set_option maxHeartbeats 1000000 in
theorem RSwap_to (size lo hi fr tt : Int) (a : Option Addr) (n c : Nat) (W : World) (hn : 0 < n) (hv : 0 ≤ lo ∧ lo ≤ hi ∧ hi ≤ size) (ht : isT tt = false) : Calls Try.prog 43 #[.agg #[.int .i64 size, .slice a n c], .int .i64 lo, .int .i64 hi, .int .i64 fr, .int .i64 tt, .bool true] W fun e w' => e = .returned (.tuple #[.agg #[.int .i64 0, .slice none 0 0], .int .i64 0, .int .i64 2]) ∧ Below W.heap.size W w' := by
  obtain ⟨w0, HW, hm, hr, hb⟩ := boxesR W size (.slice a n c) 33
  have HUS : Hid (∀ W', Calls Try.prog 42 #[.agg #[.int .i64 size, .slice a n c]] W' fun e w' => e = .returned (.bool true) ∧ Below W'.heap.size W' w') := fun W' => by have := RUsable_any size a n c W'; rwa [decide_eq_true hn] at this
  have HVA : Hid (∀ W', Calls Try.prog 48 #[.agg #[.int .i64 size, .slice a n c], .int .i64 lo, .int .i64 hi] W' fun e w' => e = .returned (.bool true) ∧ Below W'.heap.size W' w') := fun W' => by have := Rvalid_any size lo hi (.slice a n c) W'; rwa [decide_eq_true (p := 0 ≤ lo ∧ lo ≤ hi ∧ hi ≤ size) hv] at this
  have HTT : Hid (∀ W', Calls Try.prog 51 #[.int .i64 tt] W' fun e w' => e = .returned (.bool false) ∧ W' = w') := fun W' => by have := RTag_any tt W'; rwa [ht] at this
  have HM := Lib.hid hm; have HR := Lib.hid hr; have HB := Lib.hid hb; have HW' := Lib.hid HW
  have k0 := HM.out.c0; have k1 := HM.out.c1
  clear HW hm hr hb hn hv ht
  go_enter Try.func43, Try.ntmps43
  go_upto_region 1 with fail
  rw [← HW'.out]
  go_wp2_with fail
  refine (HUS.out _).mono ?_
  rintro e wHUS ⟨rfl, hb⟩
  have HM := Lib.hid (HM.out.next hb); have HR := Lib.hid (HR.out.next hb)
  have HB := Lib.hid (HB.out.trans (hb.mono HB.out.size))
  clear hb k0 k1
  have k0 := HM.out.c0; have k1 := HM.out.c1
  go_wp2_with fail
  refine (HVA.out _).mono ?_
  rintro e wHVA ⟨rfl, hb⟩
  have HM := Lib.hid (HM.out.next hb); have HR := Lib.hid (HR.out.next hb)
  have HB := Lib.hid (HB.out.trans (hb.mono HB.out.size))
  clear hb k0 k1
  have k0 := HM.out.c0; have k1 := HM.out.c1
  go_wp2_with fail
  refine (HTT.out _).mono ?_
  rintro e w9 ⟨rfl, rfl⟩
  have d0 := HR.out.c0; have d1 := HR.out.c1; have d2 := HR.out.f0; have d3 := HR.out.f1
  obtain ⟨u0, u1⟩ : _ ∧ _ := ⟨(HR.out.put (.int .i64 0) (.slice none 0 0)).c0, (HR.out.put (.int .i64 0) (.slice none 0 0)).c1⟩
  go_wp2_with fail
  refine bodyPost_ret (v := .tuple #[.agg #[.int .i64 0, .slice none 0 0], .int .i64 0, .int .i64 2]) (by simp [results, Try.results43, go_sem, u0, u1]) rfl ?_
  have HBF := below_put HB.out (B := W.heap.size + 1) (by omega) (.int .i64 0) (.slice none 0 0)
  exact ⟨rfl, by first | exact HB.out | exact HBF⟩
set_option maxHeartbeats 1000000 in
theorem RSwap_fr (size lo hi fr tt : Int) (a : Option Addr) (n c : Nat) (W : World) (hn : 0 < n) (hv : 0 ≤ lo ∧ lo ≤ hi ∧ hi ≤ size) (hf : isT fr = false) : Calls Try.prog 43 #[.agg #[.int .i64 size, .slice a n c], .int .i64 lo, .int .i64 hi, .int .i64 fr, .int .i64 tt, .bool false] W fun e w' => e = .returned (.tuple #[.agg #[.int .i64 0, .slice none 0 0], .int .i64 0, .int .i64 2]) ∧ Below W.heap.size W w' := by
  obtain ⟨w0, HW, hm, hr, hb⟩ := boxesR W size (.slice a n c) 33
  have HUS : Hid (∀ W', Calls Try.prog 42 #[.agg #[.int .i64 size, .slice a n c]] W' fun e w' => e = .returned (.bool true) ∧ Below W'.heap.size W' w') := fun W' => by have := RUsable_any size a n c W'; rwa [decide_eq_true hn] at this
  have HVA : Hid (∀ W', Calls Try.prog 48 #[.agg #[.int .i64 size, .slice a n c], .int .i64 lo, .int .i64 hi] W' fun e w' => e = .returned (.bool true) ∧ Below W'.heap.size W' w') := fun W' => by have := Rvalid_any size lo hi (.slice a n c) W'; rwa [decide_eq_true (p := 0 ≤ lo ∧ lo ≤ hi ∧ hi ≤ size) hv] at this
  have HTF : Hid (∀ W', Calls Try.prog 51 #[.int .i64 fr] W' fun e w' => e = .returned (.bool false) ∧ W' = w') := fun W' => by have := RTag_any fr W'; rwa [hf] at this
  have HM := Lib.hid hm; have HR := Lib.hid hr; have HB := Lib.hid hb; have HW' := Lib.hid HW
  have k0 := HM.out.c0; have k1 := HM.out.c1
  clear HW hm hr hb hn hv hf
  go_enter Try.func43, Try.ntmps43
  go_upto_region 1 with fail
  rw [← HW'.out]
  go_wp2_with fail
  refine (HUS.out _).mono ?_
  rintro e wHUS ⟨rfl, hb⟩
  have HM := Lib.hid (HM.out.next hb); have HR := Lib.hid (HR.out.next hb)
  have HB := Lib.hid (HB.out.trans (hb.mono HB.out.size))
  clear hb k0 k1
  have k0 := HM.out.c0; have k1 := HM.out.c1
  go_wp2_with fail
  refine (HVA.out _).mono ?_
  rintro e wHVA ⟨rfl, hb⟩
  have HM := Lib.hid (HM.out.next hb); have HR := Lib.hid (HR.out.next hb)
  have HB := Lib.hid (HB.out.trans (hb.mono HB.out.size))
  clear hb k0 k1
  have k0 := HM.out.c0; have k1 := HM.out.c1
  go_wp2_with fail
  refine (HTF.out _).mono ?_
  rintro e w9 ⟨rfl, rfl⟩
  have d0 := HR.out.c0; have d1 := HR.out.c1; have d2 := HR.out.f0; have d3 := HR.out.f1
  obtain ⟨u0, u1⟩ : _ ∧ _ := ⟨(HR.out.put (.int .i64 0) (.slice none 0 0)).c0, (HR.out.put (.int .i64 0) (.slice none 0 0)).c1⟩
  go_wp2_with fail
  refine bodyPost_ret (v := .tuple #[.agg #[.int .i64 0, .slice none 0 0], .int .i64 0, .int .i64 2]) (by simp [results, Try.results43, go_sem, u0, u1]) rfl ?_
  have HBF := below_put HB.out (B := W.heap.size + 1) (by omega) (.int .i64 0) (.slice none 0 0)
  exact ⟨rfl, by first | exact HB.out | exact HBF⟩
set_option maxHeartbeats 1000000 in
theorem RSwap_frto (size lo hi fr tt : Int) (a : Option Addr) (n c : Nat) (W : World) (hn : 0 < n) (hv : 0 ≤ lo ∧ lo ≤ hi ∧ hi ≤ size) (hf : isT fr = true) (ht : isT tt = false) : Calls Try.prog 43 #[.agg #[.int .i64 size, .slice a n c], .int .i64 lo, .int .i64 hi, .int .i64 fr, .int .i64 tt, .bool false] W fun e w' => e = .returned (.tuple #[.agg #[.int .i64 0, .slice none 0 0], .int .i64 0, .int .i64 2]) ∧ Below W.heap.size W w' := by
  obtain ⟨w0, HW, hm, hr, hb⟩ := boxesR W size (.slice a n c) 33
  have HUS : Hid (∀ W', Calls Try.prog 42 #[.agg #[.int .i64 size, .slice a n c]] W' fun e w' => e = .returned (.bool true) ∧ Below W'.heap.size W' w') := fun W' => by have := RUsable_any size a n c W'; rwa [decide_eq_true hn] at this
  have HVA : Hid (∀ W', Calls Try.prog 48 #[.agg #[.int .i64 size, .slice a n c], .int .i64 lo, .int .i64 hi] W' fun e w' => e = .returned (.bool true) ∧ Below W'.heap.size W' w') := fun W' => by have := Rvalid_any size lo hi (.slice a n c) W'; rwa [decide_eq_true (p := 0 ≤ lo ∧ lo ≤ hi ∧ hi ≤ size) hv] at this
  have HTF : Hid (∀ W', Calls Try.prog 51 #[.int .i64 fr] W' fun e w' => e = .returned (.bool true) ∧ W' = w') := fun W' => by have := RTag_any fr W'; rwa [hf] at this
  have HTT : Hid (∀ W', Calls Try.prog 51 #[.int .i64 tt] W' fun e w' => e = .returned (.bool false) ∧ W' = w') := fun W' => by have := RTag_any tt W'; rwa [ht] at this
  have HM := Lib.hid hm; have HR := Lib.hid hr; have HB := Lib.hid hb; have HW' := Lib.hid HW
  have k0 := HM.out.c0; have k1 := HM.out.c1
  clear HW hm hr hb hn hv hf ht
  go_enter Try.func43, Try.ntmps43
  go_upto_region 1 with fail
  rw [← HW'.out]
  go_wp2_with fail
  refine (HUS.out _).mono ?_
  rintro e wHUS ⟨rfl, hb⟩
  have HM := Lib.hid (HM.out.next hb); have HR := Lib.hid (HR.out.next hb)
  have HB := Lib.hid (HB.out.trans (hb.mono HB.out.size))
  clear hb k0 k1
  have k0 := HM.out.c0; have k1 := HM.out.c1
  go_wp2_with fail
  refine (HVA.out _).mono ?_
  rintro e wHVA ⟨rfl, hb⟩
  have HM := Lib.hid (HM.out.next hb); have HR := Lib.hid (HR.out.next hb)
  have HB := Lib.hid (HB.out.trans (hb.mono HB.out.size))
  clear hb k0 k1
  have k0 := HM.out.c0; have k1 := HM.out.c1
  go_wp2_with fail
  refine (HTF.out _).mono ?_
  rintro e w9 ⟨rfl, rfl⟩
  go_wp2_with fail
  refine (HTT.out _).mono ?_
  rintro e w9 ⟨rfl, rfl⟩
  have d0 := HR.out.c0; have d1 := HR.out.c1; have d2 := HR.out.f0; have d3 := HR.out.f1
  obtain ⟨u0, u1⟩ : _ ∧ _ := ⟨(HR.out.put (.int .i64 0) (.slice none 0 0)).c0, (HR.out.put (.int .i64 0) (.slice none 0 0)).c1⟩
  go_wp2_with fail
  refine bodyPost_ret (v := .tuple #[.agg #[.int .i64 0, .slice none 0 0], .int .i64 0, .int .i64 2]) (by simp [results, Try.results43, go_sem, u0, u1]) rfl ?_
  have HBF := below_put HB.out (B := W.heap.size + 1) (by omega) (.int .i64 0) (.slice none 0 0)
  exact ⟨rfl, by first | exact HB.out | exact HBF⟩
end Go.Proofs.Ytjbenhmpeceaeaa
namespace Go.Proofs.Ytjbenhmpeceaeaa
open Go Go.RowKit Gs

structure Act where
  sw : Bool
  lo : Int
  hi : Int
  fr : Int
  tt : Int
/-- a list of updates lies at a slice -/
def IsAs (W : World) (v : Value) (l : List Act) : Prop :=
  ∃ ao c, v = .slice ao l.length c ∧ (0 < l.length → ∃ B o, ao = some ⟨B, o, none⟩ ∧ B < W.heap.size ∧ ∀ j (h : j < l.length),
    W.cell? ⟨B, o + j * 5, none⟩ = some (.bool l[j].sw) ∧ W.cell? ⟨B, o + j * 5 + 1, none⟩ = some (.int .i64 l[j].lo) ∧ W.cell? ⟨B, o + j * 5 + 2, none⟩ = some (.int .i64 l[j].hi) ∧ W.cell? ⟨B, o + j * 5 + 3, none⟩ = some (.int .i64 l[j].fr) ∧ W.cell? ⟨B, o + j * 5 + 4, none⟩ = some (.int .i64 l[j].tt))
theorem IsAs.below {W W' : World} {v : Value} {l : List Act} (h : IsAs W v l) (hb : Below W.heap.size W W') : IsAs W' v l := by
  obtain ⟨ao, c, hv, h⟩ := h
  refine ⟨ao, c, hv, fun hp => ?_⟩
  obtain ⟨B, o, e, hB, hc⟩ := h hp
  refine ⟨B, o, e, Nat.lt_of_lt_of_le hB hb.size, fun j hj => ?_⟩
  obtain ⟨h0, h1, h2, h3, h4⟩ := hc j hj
  exact ⟨(hb.cell (p := ⟨B, _, none⟩) hB).trans h0, (hb.cell (p := ⟨B, _, none⟩) hB).trans h1, (hb.cell (p := ⟨B, _, none⟩) hB).trans h2, (hb.cell (p := ⟨B, _, none⟩) hB).trans h3, (hb.cell (p := ⟨B, _, none⟩) hB).trans h4⟩
/-- what an update makes of the function, where nothing is refused -/
def actF (a : Act) (f : Int → Int) : Int → Int := if a.sw then swr f a.lo a.hi a.fr.toNat a.tt.toNat else put f a.lo a.hi a.tt
def actE (size : Int) (a : Act) : Int := errOf size a.lo a.hi (if a.sw then [a.fr, a.tt] else [a.tt])
/-- one update: it has its effect, or is refused -/
def One (size : Int) (f : Int → Int) (a : Act) (f' : Int → Int) : Prop :=
  (f' = actF a f ∧ actE size a = 0 ∧ ∃ L, Gs.Can f' 0 L size ∧ L.length ≤ 4096) ∨ (f' = f ∧ (actE size a ≠ 0 ∨ ∃ L, Gs.Can (actF a f) 0 L size ∧ 4096 < L.length))
/-- several updates -/
inductive Mo (size : Int) (f : Int → Int) : List Act → (Int → Int) → Prop
  | nil : Mo size f [] f
  | snoc {l : List Act} {a : Act} {f1 f2 : Int → Int} : Mo size f l f1 → One size f1 a f2 → Mo size f (l ++ [a]) f2
theorem IsM.can {f : Int → Int} {size : Int} {W : World} {p : Option Addr} (h : IsM f size W p) : ∃ L, Gs.Can f 0 L size ∧ L.length ≤ 4096 := by
  obtain ⟨t, _, h2, h3⟩ := h.tr
  exact ⟨t.L, h2, by rw [← T.sz_eq]; exact h3⟩
theorem one_of {size : Int} {f : Int → Int} {a : Act} {q p : Option Addr} {s e : Int} {W : World} (h : Upd f (actF a f) size (actE size a) q s e W) (hp : IsM f size W p) :
    (e = 0 ∧ s = size ∧ IsM (actF a f) size W q ∧ One size f a (actF a f)) ∨ ((e == 0) = false ∧ One size f a f) := by
  rcases h with ⟨h1, rfl, _, _⟩ | ⟨_, rfl, _, _, L, hL, hl⟩ | ⟨h1, rfl, rfl, h2⟩
  · exact .inr ⟨beq_eq_false_iff_ne.2 h1, .inr ⟨rfl, .inl h1⟩⟩
  · exact .inr ⟨by decide, .inr ⟨rfl, .inr ⟨L, hL, hl⟩⟩⟩
  · exact .inl ⟨rfl, rfl, h2, .inl ⟨rfl, h1, h2.can⟩⟩
/-- the second box of a call may be read too: what Swap and Set answer an act -/
def ActOf (size : Int) (f : Int → Int) (a : Act) (q : Option Addr) (s e : Int) (W : World) : Prop := Upd f (actF a f) size (actE size a) q s e W

end Go.Proofs.Ytjbenhmpeceaeaa
namespace Go.Proofs.Ytjbenhmpeceaeaa
open Go Go.RowKit Gs

/-- a box of some cells at a block -/
structure Bx (B : Nat) (vs : List Value) (W : World) : Prop where
  lt : B < W.heap.size
  c22 : W.cell? ⟨B, 22, none⟩ = none
  c : ∀ i v, vs[i]? = some v → W.cell? ⟨B, i, none⟩ = some v ∧ W.frozen? ⟨B, i, none⟩ = false
theorem Bx.next {B : Nat} {vs : List Value} {W W' : World} (h : Bx B vs W) (hb : Below W.heap.size W W') : Bx B vs W' :=
  ⟨Nat.lt_of_lt_of_le h.lt hb.size, (hb.cell (p := ⟨B, 22, none⟩) h.lt).trans h.c22, fun i v hi => ⟨(hb.cell (p := ⟨B, i, none⟩) h.lt).trans (h.c i v hi).1, (hb.frozen (p := ⟨B, i, none⟩) h.lt).trans (h.c i v hi).2⟩⟩
theorem Bx.new (W : World) (vs : List Value) (Ty : TypeId) (hl : vs.length ≤ 22) : Bx W.heap.size vs (W.alloc (.cells vs.toArray Ty)) := by
  refine ⟨by simp, World.cell?_alloc_at _ _ _ _ rfl |>.trans ?_, fun i v hi => ⟨World.cell?_alloc_at _ _ _ _ rfl |>.trans ?_, World.frozen?_alloc_at _ _ _ _ rfl⟩⟩
  · simp; omega
  · simpa using hi
/-- a store at another block -/
theorem Bx.other {B X i : Nat} {vs : List Value} {W : World} (h : Bx B vs W) (hne : X ≠ B) (u : Value) : Bx B vs (W.setCell ⟨X, i, none⟩ u) := by
  have o : ∀ j, (⟨X, i, none⟩ : Addr) ≠ ⟨B, j, none⟩ := fun j e => hne (by injection e)
  exact ⟨by rw [World.size_setCell]; exact h.lt, (World.cell?_setCell_other _ _ _ _ (o _)).trans h.c22, fun j v hj => ⟨(World.cell?_setCell_other _ _ _ _ (o _)).trans (h.c j v hj).1, (World.frozen?_setCell _ _ _ _).trans (h.c j v hj).2⟩⟩
/-- a store in the box -/
theorem Bx.put {B i : Nat} {vs : List Value} {W : World} (h : Bx B vs W) (hi : i < vs.length) (h22 : i ≠ 22) (u : Value) : Bx B (vs.set i u) (W.setCell ⟨B, i, none⟩ u) := by
  refine ⟨by rw [World.size_setCell]; exact h.lt, (World.cell?_setCell_other _ _ _ _ (by intro e; injection e with _ e; exact h22 e)).trans h.c22, fun j v hj => ?_⟩
  rw [World.frozen?_setCell]
  by_cases e : i = j
  · subst e
    rw [List.getElem?_set_self hi] at hj
    cases hj
    obtain ⟨h1, h2⟩ := h.c i (vs[i]) (List.getElem?_eq_getElem hi)
    exact ⟨World.cell?_setCell_same _ _ _ h1, h2⟩
  · rw [List.getElem?_set_ne e] at hj
    exact ⟨(World.cell?_setCell_other _ _ _ _ (by intro e2; injection e2 with _ e2; exact e e2)).trans (h.c j v hj).1, (h.c j v hj).2⟩
theorem Bx.two {B : Nat} {x y : Value} {W : World} (h : Bx B [x, y] W) (u v : Value) : Bx B [u, v] ((W.setCell ⟨B, 0, none⟩ u).setCell ⟨B, 1, none⟩ v) :=
  (h.put (i := 0) (by simp) (by decide) u).put (i := 1) (by simp) (by decide) v
theorem Bx.c2 {B : Nat} {x y : Value} {W : World} (h : Bx B [x, y] W) : W.cell? ⟨B, 0, none⟩ = some x ∧ W.cell? ⟨B, 1, none⟩ = some y ∧ W.frozen? ⟨B, 0, none⟩ = false ∧ W.frozen? ⟨B, 1, none⟩ = false :=
  ⟨(h.c 0 x rfl).1, (h.c 1 y rfl).1, (h.c 0 x rfl).2, (h.c 1 y rfl).2⟩

/-- both maps are of one function from pieces to tags, or both are unusable -/
def Dual (base : Nat) (W : World) (p : Option Addr) (size s : Int) (v : Value) : Prop :=
  (p = none ∧ size = 0 ∧ s = 0 ∧ v = .slice none 0 0) ∨ ∃ f L, IsM f size W p ∧ Gs.Can f 0 L size ∧ IsRs base W v L ∧ s = size
theorem Dual.below {base : Nat} {W W' : World} {p : Option Addr} {size s : Int} {v : Value} (h : Dual base W p size s v) (hb : Below W.heap.size W W') : Dual base W' p size s v := by
  rcases h with h | ⟨f, L, h1, h2, h3, h4⟩
  · exact .inl h
  · exact .inr ⟨f, L, h1.below hb, h2, h3.below hb, h4⟩
theorem Dual.mono {base base' : Nat} {W : World} {p : Option Addr} {size s : Int} {v : Value} (h : Dual base W p size s v) (hb : base' ≤ base) : Dual base' W p size s v := by
  rcases h with h | ⟨f, L, h1, h2, h3, h4⟩
  · exact .inl h
  · exact .inr ⟨f, L, h1, h2, h3.mono hb, h4⟩
theorem Dual.set {base : Nat} {W : World} {p : Option Addr} {size s : Int} {v : Value} {X : Nat} (h : Dual base W p size s v) (hX : X < base) (h22 : W.cell? ⟨X, 22, none⟩ = none) (i : Nat) (u : Value) : Dual base (W.setCell ⟨X, i, none⟩ u) p size s v := by
  rcases h with h | ⟨f, L, h1, h2, h3, h4⟩
  · exact .inl h
  · exact .inr ⟨f, L, ⟨h1.lo, h1.ctx, h1.tr.set h22 u⟩, h2, h3.set _ hX u, h4⟩
theorem Dual.shape {base : Nat} {W : World} {p : Option Addr} {size s : Int} {v : Value} (h : Dual base W p size s v) : ∃ a n c, v = .slice a n c := by
  rcases h with ⟨_, _, _, h⟩ | ⟨f, L, _, _, ⟨a, c, h, _⟩, _⟩
  · exact ⟨_, _, _, h⟩
  · exact ⟨_, _, _, h⟩
/-- what the program answers an update of a usable map -/
def CodeU (f : Int → Int) (size : Int) (a : Act) (q : Option Addr) (s2 n2 e2 : Int) (W : World) : Prop :=
  Upd f (actF a f) size (actE size a) q s2 e2 W ∧ (a.sw = true → (e2 = 0 ∧ 0 ≤ a.fr ∧ ∃ L, Gs.Can f a.lo L a.hi ∧ n2 = cnt a.fr L) ∨ (e2 ≠ 0 ∧ n2 = 0))
/-- what the document answers it -/
def DocU (f : Int → Int) (size : Int) (a : Act) (L : List R) (B : Nat) (s' : Int) (v' : Value) (k e : Int) (W : World) : Prop :=
  (actE size a ≠ 0 ∧ e = actE size a ∧ s' = 0 ∧ v' = .slice none 0 0 ∧ k = 0) ∨ (actE size a = 0 ∧ RU f size a.lo a.hi a.fr a.tt (!a.sw) L B s' v' k e W)
theorem gS_act {f : Int → Int} {size : Int} {a : Act} (h : actE size a = 0) : gS f a.lo a.hi a.fr a.tt (!a.sw) = actF a f := by
  obtain ⟨sw, lo, hi, fr, tt⟩ := a
  cases sw with
  | false => exact gS_put f lo hi fr tt
  | true =>
    obtain ⟨_, _, _, h4⟩ := errOf_zero (show errOf size lo hi [fr, tt] = 0 from h)
    have h5 := (h4 fr (by simp)).1
    have h6 := (h4 tt (by simp)).1
    have := gS_swr f lo hi fr.toNat tt.toNat
    rw [show ((fr.toNat : Nat) : Int) = fr by omega, show ((tt.toNat : Nat) : Int) = tt by omega] at this
    exact this
/-- both answers agree -/
def Agree (B : Nat) (W : World) (sw : Bool) (size : Int) (q : Option Addr) (s2 n2 e2 s' : Int) (v' : Value) (k e : Int) : Prop :=
  e2 = e ∧ (sw = true → n2 = k) ∧ (e ≠ 0 → q = none ∧ s2 = 0) ∧ (e = 0 → Dual B W q s2 s' v' ∧ s2 = size)
theorem agree_of {f : Int → Int} {size : Int} {a : Act} {L : List R} {q : Option Addr} {s2 n2 e2 : Int} {B : Nat} {s' : Int} {v' : Value} {k e : Int} {W : World} (hc : CodeU f size a q s2 n2 e2 W) (hd : DocU f size a L B s' v' k e W) (hL : Gs.Can f 0 L size) :
    Agree B W a.sw size q s2 n2 e2 s' v' k e := by
  rcases hd with ⟨h1, rfl, rfl, rfl, rfl⟩ | ⟨h1, hr⟩
  · rcases hc.1 with ⟨_, g2, g3, g4⟩ | ⟨g1, _⟩ | ⟨g1, _⟩
    · refine ⟨g2, fun hs => ?_, fun _ => ⟨g3, g4⟩, fun h => absurd h h1⟩
      rcases hc.2 hs with ⟨x, _⟩ | ⟨_, x⟩
      · exact absurd (g2 ▸ x) h1
      · exact x
    · exact absurd g1 h1
    · exact absurd g1 h1
  · obtain ⟨L', hL', hr⟩ := hr
    rw [gS_act h1] at hL'
    rcases hc.1 with ⟨g1, _⟩ | ⟨_, rfl, rfl, rfl, K, hK, hk⟩ | ⟨_, rfl, rfl, hm⟩
    · exact absurd h1 g1
    · have := hK.same hL'
      subst this
      rcases hr with ⟨_, rfl, rfl, rfl, rfl⟩ | ⟨r1, _⟩
      · refine ⟨rfl, fun hs => ?_, fun _ => ⟨rfl, rfl⟩, fun h => absurd h (by decide)⟩
        rcases hc.2 hs with ⟨x, _⟩ | ⟨_, x⟩
        · exact absurd x (by decide)
        · exact x
      · omega
    · obtain ⟨K, hK, hk⟩ := hm.can
      have := hK.same hL'
      subst this
      rcases hr with ⟨r1, _⟩ | ⟨_, rfl, rfl, hi, hn⟩
      · omega
      · refine ⟨rfl, fun hs => ?_, fun h => absurd rfl h, fun _ => ⟨.inr ⟨_, K, hm, hK, hi, rfl⟩, rfl⟩⟩
        rcases hc.2 hs with ⟨_, x0, K2, hK2, x⟩ | ⟨x, _⟩
        · have e1 : (!a.sw) = false := by rw [hs]; rfl
          rw [x, hn e1]
          obtain ⟨r1, r2, r3, _⟩ := errOf_zero h1
          rw [Gs.Can.same hK2 (clip_can hL r1 r2 r3)]
        · exact absurd rfl x
theorem DocU.shape {f : Int → Int} {size : Int} {a : Act} {L : List R} {B : Nat} {s' : Int} {v' : Value} {k e : Int} {W : World} (h : DocU f size a L B s' v' k e W) : ∃ b n c, v' = .slice b n c := by
  rcases h with ⟨_, _, _, h, _⟩ | ⟨_, L', _, ⟨_, _, h, _⟩ | ⟨_, _, _, ⟨_, _, h, _⟩, _⟩⟩
  · exact ⟨_, _, _, h⟩
  · exact ⟨_, _, _, h⟩
  · exact ⟨_, _, _, h⟩
/-- the document's Swap, of a usable map -/
theorem RSwap_all {f : Int → Int} {size : Int} {base : Nat} {v : Value} {L : List R} {W : World} (a : Act) (hrs : IsRs base W v L) (hL : Gs.Can f 0 L size) (hx : Ctx f 0 size) (h1 : 1 ≤ size) (hlen : L.length ≤ 4096) :
    Calls Try.prog 43 #[.agg #[.int .i64 size, v], .int .i64 a.lo, .int .i64 a.hi, .int .i64 a.fr, .int .i64 a.tt, .bool (!a.sw)] W fun e w' => ∃ s v' n e2, e = .returned (.tuple #[.agg #[.int .i64 s, v'], .int .i64 n, .int .i64 e2]) ∧ Hid (DocU f size a L W.heap.size s v' n e2 w') ∧ Below W.heap.size W w' := by
  have hne : 0 < L.length := by
    rcases fits_cut hL.1 with ⟨_, e⟩ | ⟨r, k, rfl⟩
    · omega
    · simp
  obtain ⟨sw, lo, hi, fr, tt⟩ := a
  by_cases hv : 0 ≤ lo ∧ lo ≤ hi ∧ hi ≤ size
  · have hE : ∀ ts, errOf size lo hi ts = if ts.all isT then 0 else 2 := fun ts => by unfold errOf; rw [if_neg (by omega)]
    cases sw with
    | false =>
      by_cases ht : isT tt = true
      · refine (RSwap_any (fr := fr) hrs hL hx hne hlen hv.1 hv.2.1 hv.2.2 ht).mono ?_
        rintro e w' ⟨s, v', n, e2, rfl, hr, hB⟩
        exact ⟨s, v', n, e2, rfl, .inr ⟨by show errOf size lo hi [tt] = 0; rw [hE]; simp [ht], hr.out⟩, hB⟩
      · have ht := Bool.eq_false_iff.2 ht
        obtain ⟨a, c, rfl, -⟩ := hrs
        refine (RSwap_to size lo hi fr tt a _ c W hne hv ht).mono ?_
        rintro e w' ⟨rfl, hB⟩
        have e2 : actE size ⟨false, lo, hi, fr, tt⟩ = 2 := by show errOf size lo hi [tt] = 2; rw [hE]; simp [ht]
        exact ⟨0, _, 0, 2, rfl, .inl ⟨by rw [e2]; decide, e2.symm, rfl, rfl, rfl⟩, hB⟩
    | true =>
      by_cases hf : isT fr = true
      · by_cases ht : isT tt = true
        · refine (RSwap_from hrs hL hx hne hlen hv.1 hv.2.1 hv.2.2 ht hf).mono ?_
          rintro e w' ⟨s, v', n, e2, rfl, hr, hB⟩
          exact ⟨s, v', n, e2, rfl, .inr ⟨by show errOf size lo hi [fr, tt] = 0; rw [hE]; simp [ht, hf], hr.out⟩, hB⟩
        · have ht := Bool.eq_false_iff.2 ht
          obtain ⟨a, c, rfl, -⟩ := hrs
          refine (RSwap_frto size lo hi fr tt a _ c W hne hv hf ht).mono ?_
          rintro e w' ⟨rfl, hB⟩
          have e2 : actE size ⟨true, lo, hi, fr, tt⟩ = 2 := by show errOf size lo hi [fr, tt] = 2; rw [hE]; simp [ht]
          exact ⟨0, _, 0, 2, rfl, .inl ⟨by rw [e2]; decide, e2.symm, rfl, rfl, rfl⟩, hB⟩
      · have hf := Bool.eq_false_iff.2 hf
        obtain ⟨a, c, rfl, -⟩ := hrs
        refine (RSwap_fr size lo hi fr tt a _ c W hne hv hf).mono ?_
        rintro e w' ⟨rfl, hB⟩
        have e2 : actE size ⟨true, lo, hi, fr, tt⟩ = 2 := by show errOf size lo hi [fr, tt] = 2; rw [hE]; simp [hf]
        exact ⟨0, _, 0, 2, rfl, .inl ⟨by rw [e2]; decide, e2.symm, rfl, rfl, rfl⟩, hB⟩
  · have e2 : actE size ⟨sw, lo, hi, fr, tt⟩ = 3 := by
      show errOf size lo hi _ = 3
      unfold errOf; rw [if_pos (by omega)]
    obtain ⟨a, c, rfl, -⟩ := hrs
    refine (RSwap_range size lo hi fr tt (!sw) a _ c W hne hv).mono ?_
    rintro e w' ⟨rfl, hB⟩
    exact ⟨0, _, 0, 3, rfl, .inl ⟨by rw [e2]; decide, e2.symm, rfl, rfl, rfl⟩, hB⟩
end Go.Proofs.Ytjbenhmpeceaeaa
