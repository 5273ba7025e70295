/- The contract of the document's Swap. -/
import Derived.Test.YtahgfggcpmnnaaaQc
import Derived.BigRegion
namespace Go.Proofs.Ytahgfggcpmnnaaa
open Go Go.RowKit Gs

/-- what the document's Swap answers, where nothing is refused -/
def RU (f : Int → Int) (size lo hi fr tt : Int) (any : Bool) (L : List R) (B : Nat) (s : Int) (v : Value) (n e : Int) (W : World) : Prop :=
  ∃ L', Gs.Can (gS f lo hi fr tt any) 0 L' size ∧ ((4096 < L'.length ∧ s = 0 ∧ v = .slice none 0 0 ∧ n = 0 ∧ e = 5) ∨ (L'.length ≤ 4096 ∧ s = size ∧ e = 0 ∧ IsRs B W v L' ∧ (any = false → n = cnt fr (clip lo hi L))))
theorem Rb.keep {W W' : World} {B : Nat} {r : R} (h : Rb W B r) (e : W'.heap[B]? = W.heap[B]?) : Rb W' B r := e.trans h
theorem IsRs.mono {base base' : Nat} {W : World} {v : Value} {l : List R} (h : IsRs base W v l) (hb : base' ≤ base) : IsRs base' W v l := by
  obtain ⟨ao, c, hv, h⟩ := h
  exact ⟨ao, c, hv, fun hl => by obtain ⟨B, e, h1, h2⟩ := h hl; exact ⟨B, e, ⟨Nat.le_trans hb h1.1, h1.2⟩, h2⟩⟩
theorem JP.box {W W' : World} {base k : Nat} {v v' : Value} {l : List R} {r : R} (h : JP W base v l v' W') (hb : Rb W k r) (hv : ∀ g, v.ownBlock = some g → g ≠ k) : Rb W' k r ∧ ∀ g, v'.ownBlock = some g → g ≠ k := by
  refine ⟨hb.keep (h.keep k hb.lt (fun e => hv k e.symm rfl)), fun g hg e => ?_⟩
  subst e
  rcases h.at' _ hg with h1 | h1
  · exact hv _ h1 rfl
  · exact absurd hb.lt (by omega)
set_option maxRecDepth 100000 in
set_option maxHeartbeats 4000000 in
theorem RSwap_any {f : Int → Int} {size lo hi fr tt : Int} {base : Nat} {v : Value} {L : List R} {W : World} (hrs : IsRs base W v L) (hL : Gs.Can f 0 L size) (hx : Ctx f 0 size) (hne : 0 < L.length) (hlen : L.length ≤ 4096) (h1 : 0 ≤ lo) (h2 : lo ≤ hi) (h3 : hi ≤ size) (htt : isT tt = true) :
    Calls Try.prog 43 #[.agg #[.int .i64 size, v], .int .i64 lo, .int .i64 hi, .int .i64 fr, .int .i64 tt, .bool true] W fun e w' => ∃ s v' n e2, e = .returned (.tuple #[.agg #[.int .i64 s, v'], .int .i64 n, .int .i64 e2]) ∧ Hid (RU f size lo hi fr tt true L W.heap.size s v' n e2 w') ∧ Below W.heap.size W w' := by
  have HRS := Lib.hid hrs
  obtain ⟨a, c, rfl, -⟩ := hrs
  obtain ⟨n, hn⟩ : ∃ n, n = L.length := ⟨_, rfl⟩
  rw [← hn] at HRS hne ⊢
  have hnb : n ≤ 4096 := by omega
  have HN := Lib.hid hn
  obtain ⟨w0, HW, hm, hr, hb⟩ := boxesR W size (.slice a n c) 33
  have HUS : Hid (∀ W', Calls Try.prog 42 #[.agg #[.int .i64 size, .slice a n c]] W' fun e w' => e = .returned (.bool true) ∧ Below W'.heap.size W' w') := fun W' => by
    have := RUsable_any size a n c W'
    rwa [decide_eq_true hne] at this
  have HVA : Hid (∀ W', Calls Try.prog 48 #[.agg #[.int .i64 size, .slice a n c], .int .i64 lo, .int .i64 hi] W' fun e w' => e = .returned (.bool true) ∧ Below W'.heap.size W' w') := fun W' => by
    have := Rvalid_any size lo hi (.slice a n c) W'
    rwa [decide_eq_true (p := 0 ≤ lo ∧ lo ≤ hi ∧ hi ≤ size) ⟨h1, h2, h3⟩] at this
  have HTT : Hid (∀ W', Calls Try.prog 51 #[.int .i64 tt] W' fun e w' => e = .returned (.bool true) ∧ W' = w') := fun W' => by
    have := RTag_any tt W'
    rwa [htt] at this
  have HJN : Hid (∀ (B0 : Nat) (u : Value) (l : List R) (x : R) (W' : World), rowR W' B0 u l → B0 ≤ W'.heap.size → l.length ≤ 100000 → Calls Try.prog 49 #[u, .agg #[.int .i64 x.lo, .int .i64 x.hi, .int .i64 x.tag]] W' fun e w' => ∃ v', e = .returned v' ∧ Hid (JP W' B0 u (joinL l x) v' w')) := fun B0 u l x W' h hb hl => Join_any x h hb hl
  have HM := Lib.hid hm; have HR := Lib.hid hr; have HB := Lib.hid hb; have HW' := Lib.hid HW
  have HL := Lib.hid hL; have HX := Lib.hid hx
  have HLH : Hid (0 ≤ lo ∧ lo ≤ hi ∧ hi ≤ size ∧ size ≤ 1099511627776) := ⟨h1, h2, h3, hx.2.1⟩
  have k0 := HM.out.c0; have k1 := HM.out.c1
  have hmx : ∀ p q : Int, (if p < q then q else p) = max p q := fun p q => by split <;> omega
  have hmn : ∀ p q : Int, (if p < q then p else q) = min p q := fun p q => by split <;> omega
  clear hL hx HW hm hr hb hn hlen h1 h2 h3 htt
  go_enter Try.func43, Try.ntmps43
  go_upto_region 1 with fail
  rw [← HW'.out]
  go_wp2_with fail
  refine (HUS.out _).mono ?_
  rintro e w1 ⟨rfl, hb⟩
  have HM1 := Lib.hid (HM.out.next hb); have HR1 := Lib.hid (HR.out.next hb)
  have HB1 := Lib.hid (HB.out.trans (hb.mono HB.out.size))
  clear hb k0 k1
  have k0 := HM1.out.c0; have k1 := HM1.out.c1
  go_wp2_with fail
  refine (HVA.out _).mono ?_
  rintro e w2 ⟨rfl, hb⟩
  have HM2 := Lib.hid (HM1.out.next hb); have HR2 := Lib.hid (HR1.out.next hb)
  have HB2 := Lib.hid (HB1.out.trans (hb.mono HB1.out.size))
  clear hb k0 k1
  go_wp2_with fail
  refine (HTT.out _).mono ?_
  rintro e w3 ⟨rfl, rfl⟩
  go_wp2_with fail
  go_loopw [15, 16, 17] (fun ov nv iv wr => ∃ (j : Nat) (m nn : Int) (lst : List R), j ≤ n ∧ iv = .int .i64 j ∧ nv = .int .i64 nn ∧ Hid (rowR wr w2.heap.size ov lst ∧ Gs.Can (gS f lo hi fr tt true) 0 lst m ∧ lst.length ≤ 3 * j) ∧ Hid (Gs.Can f m (L.drop j) size ∧ 0 ≤ m) ∧ Hid (0 ≤ nn ∧ nn ≤ m ∧ (true = false → nn = cnt fr (clip lo hi (L.take j)))) ∧ Hid (Below w2.heap.size w2 wr)) (fun _ _ i _ => n - (intOf i).toNat)
  case atStart => exact ⟨0, 0, 0, [], by omega, rfl, rfl, ⟨World.ownsRow_nil _ _ _ _, Gs.Can.nil _ _, Nat.le_refl _⟩, ⟨HL.out, Int.le_refl _⟩, ⟨Int.le_refl _, Int.le_refl _, fun _ => rfl⟩, Below.refl _ _⟩
  case round =>
    obtain ⟨j, m, nn, lst, hj, rfl, rfl, HROW, HCJ, HNN, HBr⟩ := hrel
    have hm := HM2.out.next HBr.out
    have k0 := hm.c0; have k1 := hm.c1
    clear hm
    by_cases hlt : j < n
    · have hj2 : (j : Int) < n := by omega
      have hjl : j < L.length := by rw [← HN.out]; exact hlt
      obtain ⟨a', c', hv, hcs⟩ := HRS.out.below (HB2.out.trans (HBr.out.mono HB2.out.size))
      injection hv with hv1 hv2 hv3
      clear hv2 hv3
      subst hv1
      obtain ⟨G, e1, -, hcs2⟩ := hcs (by omega)
      clear hcs
      subst e1
      obtain ⟨c0, c1, c2⟩ := hcs2 j hjl
      clear hcs2
      have hdr : L.drop j = L[j] :: L.drop (j + 1) := List.drop_eq_getElem_cons hjl
      have htk : L.take (j + 1) = L.take j ++ [L[j]] := by rw [List.take_add_one, List.getElem?_eq_getElem hjl]; rfl
      have hcan := HCJ.out.1
      rw [hdr] at hcan
      obtain ⟨⟨xlo, xhi, xtag⟩, hx⟩ : ∃ x, x = L[j] := ⟨_, rfl⟩
      rw [← hx] at hcan c0 c1 c2 htk
      simp only at c0 c1 c2
      obtain ⟨e1, e2, e3, e4⟩ := hcan.1
      simp only at e1 e2 e3 e4
      subst e1
      have hle4 := e4.le
      have HCAN2 : Hid (Gs.Can f xhi (L.drop (j + 1)) size ∧ 0 ≤ xhi) := ⟨⟨e4, hcan.2.tail⟩, by have := HCJ.out.2; omega⟩
      have HST : Hid (Gs.Can (gS f lo hi fr tt true) 0 (stepL lst ⟨xlo, xhi, xtag⟩ lo hi fr tt true) xhi) := step_can HROW.out.2.1 rfl e2 e3 HLH.out.2.1
      have HLN : Hid ((stepL lst ⟨xlo, xhi, xtag⟩ lo hi fr tt true).length ≤ 3 * (j + 1)) := Nat.le_trans (stepL_len _ _ _ _ _ _ _) (by have := HROW.out.2.2; omega)
      have HCN : Hid (cnt fr (clip lo hi (L.take (j + 1))) = cnt fr (clip lo hi (L.take j)) + if xtag = fr then max 0 (stepB ⟨xlo, xhi, xtag⟩ hi - stepA ⟨xlo, xhi, xtag⟩ lo) else 0) := by
        show _ = _
        rw [htk, clip_app, cnt_append, clip_cons, clip_nil, List.append_nil, step_cnt _ _ _ _ e2 HLH.out.2.1]
      obtain ⟨A, hA⟩ : ∃ A, A = max xlo (min xhi lo) := ⟨_, rfl⟩
      obtain ⟨B, hB⟩ : ∃ B, B = min (max hi xlo) xhi := ⟨_, rfl⟩
      have hab : xlo ≤ A ∧ A ≤ xhi ∧ xlo ≤ B ∧ B ≤ xhi ∧ A ≤ B := by have := HLH.out; omega
      have hN := HNN.out
      have hxm := HCJ.out.2
      have hsz := HLH.out.2.2.2
      obtain ⟨d, hd⟩ : ∃ d, d = max 0 (B - A) := ⟨_, rfl⟩
      have hd2 : 0 ≤ d ∧ d ≤ xhi - xlo := by omega
      have hw1 : IntKind.i64.wrap (B - A) = B - A := IntWalk.i64_in _ (by omega)
      have hw2 : IntKind.i64.wrap (nn + d) = nn + d := IntWalk.i64_in _ (by omega)
      have HD := Lib.hid hd
      have HBD : Hid ((B - A = d ∧ (if 0 ≤ B - A then B - A else 0) = d) ∧ (0 ≤ nn ∧ 0 ≤ d ∧ nn + d ≤ 1099511627776)) := by
        refine ⟨⟨by omega, ?_⟩, by omega⟩
        split <;> omega
      have HAH : Hid (A = stepA ⟨xlo, xhi, xtag⟩ lo) := by show A = max xlo (min lo xhi); omega
      have HBH : Hid (B = stepB ⟨xlo, xhi, xtag⟩ hi) := by show B = min xhi (max hi xlo); omega
      have HA2 := Lib.hid hA
      have HB3 := Lib.hid hB
      have HMAB : Hid (max A B = B) := by show _ = _; omega
      have HN2 : Hid (0 ≤ nn + d ∧ nn + d ≤ xhi) := by show _ ∧ _; omega
      have HN3 : Hid (0 ≤ nn ∧ nn ≤ xhi) := by show _ ∧ _; omega
      have HL1 : Hid (lst.length ≤ 12288) := by show _ ≤ _; have := HROW.out.2.2; omega
      obtain ⟨wx, HWX⟩ : ∃ wx, wx = wr.alloc (.cells #[.int .i64 xlo, .int .i64 xhi, .int .i64 xtag] 64) := ⟨_, rfl⟩
      have bx : Below wr.heap.size wr wx := by rw [HWX]; exact (Below.refl _ _).alloc (Nat.le_refl _) _
      have HRB : Hid (Rb wx wr.heap.size ⟨xlo, xhi, xtag⟩) := by rw [HWX]; exact Rb.new wr ⟨xlo, xhi, xtag⟩
      have HROWX : Hid (rowR wx w2.heap.size u15 lst) := by rw [HWX]; exact HROW.out.1.alloc _
      have HLTO := Lib.hid HROW.out.1.lt
      have HBx := Lib.hid (HBr.out.trans (bx.mono HBr.out.size))
      obtain ⟨r0, r1, r2⟩ := HRB.out.cells
      simp only at r0 r1 r2
      have HSX : Hid (wr.heap.size < wx.heap.size) := HRB.out.lt
      have HWX' := Lib.hid HWX
      clear hdr htk hcan hx e2 e3 e4 hle4 hA hB hab hN hxm hsz hd hd2 HWX bx
      go_upto_region 13 with fail
      rw [← HWX'.out]
      clear c0 c1 c2 k0 k1
      go_cut [19, 20] from 59 to 72 (fun s19 s20 wz => s19 = .int .i64 (max xlo (min xhi lo)) ∧ s20 = .int .i64 (min (max hi xlo) xhi) ∧ wz = wx.drew)
      case first =>
        go_region
        go_wp2_with fail
        go_meet
        first | exact ⟨rfl, rfl, rfl⟩ | (case rel => exact ⟨rfl, rfl, rfl⟩)
      case rest =>
        obtain ⟨rfl, rfl, rfl⟩ := hcut
        rw [← HA2.out, ← HB3.out]
        obtain ⟨wz, HWZ⟩ : ∃ wz, wz = wx.drew := ⟨_, rfl⟩
        have HRZ : Hid (Rb wz wr.heap.size ⟨xlo, xhi, xtag⟩) := by rw [HWZ]; exact HRB.out
        have HROWZ : Hid (rowR wz w2.heap.size u15 lst) := by rw [HWZ]; exact HROWX.out
        have HBz : Hid (Below w2.heap.size w2 wz) := by rw [HWZ]; exact HBx.out.drew
        have HJ1 := Lib.hid (HJN.out w2.heap.size u15 lst ⟨xlo, A, xtag⟩ wz HROWZ.out HBz.out.size (by have := HL1.out; omega))
        rw [← HWZ]
        clear HWZ r0 r1 r2
        obtain ⟨r0, r1, r2⟩ := HRZ.out.cells
        simp only at r0 r1 r2
        have hw2b : IntKind.i64.wrap (nn + (B - A)) = nn + (B - A) := IntWalk.i64_in _ (by have := HBD.out.2; have := HBD.out.1.1; omega)
        have hw2c : IntKind.i64.wrap nn = nn := IntWalk.i64_in _ (by have := HBD.out.2; omega)
        have hab0 : (0 : Int) ≤ B - A := by have := HBD.out.2; have := HBD.out.1.1; omega
        have hwd1 : (if (0 : Int) < B - A then B - A else 0) = d := (hmx 0 (B - A)).trans HD.out.symm
        have hwd2 : max 0 (B - A) = d := HD.out.symm
        have hmab1 : (if A < B then B else A) = B := (hmx A B).trans HMAB.out
        have hmab2 : max A B = B := HMAB.out
        clear hmx hmn
        by_cases hpos : 0 < B - A
        · skip
          go_wp2_with fail
          refine HJ1.out.mono ?_
          rintro e y1 ⟨v1, rfl, HP1⟩
          have hk1 := HP1.out.box HRZ.out (fun g hg => Nat.ne_of_lt (HLTO.out g hg).2)
          have HK1 := Lib.hid hk1
          clear r0 r1 r2 hk1
          obtain ⟨r0, r1, r2⟩ := HK1.out.1.cells
          simp only at r0 r1 r2
          have HB1' := Lib.hid (HBz.out.trans HP1.out.bel)
          have HJ2 := Lib.hid (HJN.out w2.heap.size v1 _ ⟨A, B, tt⟩ y1 HP1.out.own HB1'.out.size (Nat.le_trans (joinL_len _ _) (by have := HL1.out; omega)))
          go_wp2_with fail
          refine HJ2.out.mono ?_
          rintro e y2 ⟨v2, rfl, HP2⟩
          have hk2 := HP2.out.box HK1.out.1 HK1.out.2
          have HK2 := Lib.hid hk2
          clear r0 r1 r2 hk2
          obtain ⟨r0, r1, r2⟩ := HK2.out.1.cells
          simp only at r0 r1 r2
          have HB2' := Lib.hid (HB1'.out.trans HP2.out.bel)
          have HJ3 : Hid (Calls Try.prog 49 #[v2, .agg #[.int .i64 B, .int .i64 xhi, .int .i64 xtag]] y2 fun e w' => ∃ v', e = .returned v' ∧ Hid (JP y2 w2.heap.size v2 (joinL (joinL (joinL lst ⟨xlo, A, xtag⟩) ⟨A, B, tt⟩) ⟨B, xhi, xtag⟩) v' w')) := HJN.out w2.heap.size v2 _ ⟨B, xhi, xtag⟩ y2 HP2.out.own HB2'.out.size (Nat.le_trans (joinL_len _ _) (by have := HL1.out; have := joinL_len lst ⟨xlo, A, xtag⟩; omega))
          go_wp2_with fail
          refine HJ3.out.mono ?_
          rintro e y3 ⟨v3, rfl, HP3⟩
          have HB3' := Lib.hid (HB2'.out.trans HP3.out.bel)
          have HF3 : Hid (rowR y3 w2.heap.size v3 (stepL lst ⟨xlo, xhi, xtag⟩ lo hi fr tt true)) := by
            have e0 := HP3.out.own
            have e1 : stepT ⟨xlo, xhi, xtag⟩ fr tt true = tt := if_pos (.inl rfl)
            show rowR y3 w2.heap.size v3 (joinL (joinL (joinL lst ⟨xlo, stepA ⟨xlo, xhi, xtag⟩ lo, xtag⟩) ⟨stepA ⟨xlo, xhi, xtag⟩ lo, stepB ⟨xlo, xhi, xtag⟩ hi, stepT ⟨xlo, xhi, xtag⟩ fr tt true⟩) ⟨max (stepA ⟨xlo, xhi, xtag⟩ lo) (stepB ⟨xlo, xhi, xtag⟩ hi), xhi, xtag⟩)
            rw [← HAH.out, ← HBH.out, e1, HMAB.out]
            exact e0
          clear r0 r1 r2
          go_wp2_with fail
          go_roundw
          case rel => exact ⟨j + 1, xhi, nn + d, _, by omega, by go_num, (by have z1 := HBD.out.1.1; have z3 := HBD.out.2; first | rfl | (rw [z1]) | (rw [show d = 0 by omega, Int.add_zero]) | (clear hwd1 hwd2 hmab1 hmab2; go_num)), ⟨HF3.out, HST.out, HLN.out⟩, HCAN2.out, ⟨HN2.out.1, HN2.out.2, fun h => by cases h⟩, HB3'.out⟩
          case measure => simp [intOf]; omega
        · have hAB : B = A := by omega
          subst hAB
          go_wp2_with fail
          refine HJ1.out.mono ?_
          rintro e y1 ⟨v1, rfl, HP1⟩
          have hk1 := HP1.out.box HRZ.out (fun g hg => Nat.ne_of_lt (HLTO.out g hg).2)
          have HK1 := Lib.hid hk1
          clear r0 r1 r2 hk1
          obtain ⟨r0, r1, r2⟩ := HK1.out.1.cells
          simp only at r0 r1 r2
          have HB1' := Lib.hid (HBz.out.trans HP1.out.bel)
          have HJ2 := Lib.hid (HJN.out w2.heap.size v1 _ ⟨B, B, tt⟩ y1 HP1.out.own HB1'.out.size (Nat.le_trans (joinL_len _ _) (by have := HL1.out; omega)))
          go_wp2_with fail
          refine HJ2.out.mono ?_
          rintro e y2 ⟨v2, rfl, HP2⟩
          have hk2 := HP2.out.box HK1.out.1 HK1.out.2
          have HK2 := Lib.hid hk2
          clear r0 r1 r2 hk2
          obtain ⟨r0, r1, r2⟩ := HK2.out.1.cells
          simp only at r0 r1 r2
          have HB2' := Lib.hid (HB1'.out.trans HP2.out.bel)
          have HJ3 : Hid (Calls Try.prog 49 #[v2, .agg #[.int .i64 B, .int .i64 xhi, .int .i64 xtag]] y2 fun e w' => ∃ v', e = .returned v' ∧ Hid (JP y2 w2.heap.size v2 (joinL (joinL (joinL lst ⟨xlo, B, xtag⟩) ⟨B, B, tt⟩) ⟨B, xhi, xtag⟩) v' w')) := HJN.out w2.heap.size v2 _ ⟨B, xhi, xtag⟩ y2 HP2.out.own HB2'.out.size (Nat.le_trans (joinL_len _ _) (by have := HL1.out; have := joinL_len lst ⟨xlo, B, xtag⟩; omega))
          go_wp2_with fail
          refine HJ3.out.mono ?_
          rintro e y3 ⟨v3, rfl, HP3⟩
          have HB3' := Lib.hid (HB2'.out.trans HP3.out.bel)
          have HF3 : Hid (rowR y3 w2.heap.size v3 (stepL lst ⟨xlo, xhi, xtag⟩ lo hi fr tt true)) := by
            have e0 := HP3.out.own
            have e1 : stepT ⟨xlo, xhi, xtag⟩ fr tt true = tt := if_pos (.inl rfl)
            show rowR y3 w2.heap.size v3 (joinL (joinL (joinL lst ⟨xlo, stepA ⟨xlo, xhi, xtag⟩ lo, xtag⟩) ⟨stepA ⟨xlo, xhi, xtag⟩ lo, stepB ⟨xlo, xhi, xtag⟩ hi, stepT ⟨xlo, xhi, xtag⟩ fr tt true⟩) ⟨max (stepA ⟨xlo, xhi, xtag⟩ lo) (stepB ⟨xlo, xhi, xtag⟩ hi), xhi, xtag⟩)
            rw [← HAH.out, ← HBH.out, e1, HMAB.out]
            exact e0
          clear r0 r1 r2
          go_wp2_with fail
          go_roundw
          case rel => exact ⟨j + 1, xhi, nn + d, _, by omega, by go_num, (by have z1 := HBD.out.1.1; have z3 := HBD.out.2; first | rfl | (rw [z1]) | (rw [show d = 0 by omega, Int.add_zero]) | (clear hwd1 hwd2 hmab1 hmab2; go_num)), ⟨HF3.out, HST.out, HLN.out⟩, HCAN2.out, ⟨HN2.out.1, HN2.out.2, fun h => by cases h⟩, HB3'.out⟩
          case measure => simp [intOf]; omega
    · have hlt3 : ¬ (j : Int) < n := by omega
      have hjn : j = n := by omega
      have hdr : L.drop j = [] := List.drop_eq_nil_of_le (by have := HN.out; omega)
      have htk : L.take j = L := List.take_of_length_le (by have := HN.out; omega)
      have hms : m = size := by have := HCJ.out.1.1; rw [hdr] at this; exact this
      have HCN : Hid (true = false → nn = cnt fr (clip lo hi L)) := by have := HNN.out.2.2; rw [htk] at this; exact this
      have HC9 : Hid (Gs.Can (gS f lo hi fr tt true) 0 lst size) := by rw [← hms]; exact HROW.out.2.1
      have HI9 : Hid (IsRs w2.heap.size wr u15 lst) := IsRs.of_row HROW.out.1
      obtain ⟨ra, rc, hv⟩ := own_slice HROW.out.1
      subst hv
      obtain ⟨ln, hln⟩ : ∃ ln, ln = lst.length := ⟨_, rfl⟩
      rw [← hln] at HI9 ⊢
      have HLN := Lib.hid hln
      have HFU := Lib.hid (fun u => Rfull_any size u ra ln rc wr)
      have HRr := Lib.hid (HR2.out.next HBr.out)
      have HWr := Lib.hid (HB2.out.trans (HBr.out.mono HB2.out.size))
      have HGE : Hid (W.heap.size + 1 < w2.heap.size) := HR2.out.lt
      have HGW : Hid (w2.heap.size ≤ wr.heap.size) := HBr.out.size
      clear hmx hmn hdr htk hms hln hjn
      go_wp2_with fail
      refine (HFU.out _).mono ?_
      rintro e w6 ⟨s', v', e2, rfl, HQ, hb, -⟩
      have HR6 := Lib.hid (HRr.out.next hb)
      have HB6 := Lib.hid (HWr.out.trans (hb.mono HWr.out.size))
      have HI6 := Lib.hid (HI9.out.below hb)
      clear hb k0 k1
      obtain ⟨w7, HW7⟩ : ∃ w7, w7 = w6.alloc (.cells #[.int .i64 s', v'] 33) := ⟨_, rfl⟩
      have b7 : Below w6.heap.size w6 w7 := by rw [HW7]; exact (Below.refl _ _).alloc (Nat.le_refl _) _
      have HM7 : Hid (M2 w6.heap.size (.int .i64 s') v' w7) := by rw [HW7]; exact M2.new _ _ _ _
      have HR7 := Lib.hid (HR6.out.next b7)
      have HB7 := Lib.hid (HB6.out.trans (b7.mono HB6.out.size))
      have HI7 := Lib.hid (HI6.out.below b7)
      have HW7' := Lib.hid HW7
      clear HW7 b7
      rcases HQ.out with ⟨q1, rfl, rfl, rfl⟩ | ⟨q1, rfl, rfl, rfl⟩
      · have d0 := HR7.out.c0; have d1 := HR7.out.c1; have d2 := HR7.out.f0; have d3 := HR7.out.f1
        obtain ⟨u0, u1⟩ : _ ∧ _ := ⟨(HR7.out.put (.int .i64 0) (.slice none 0 0)).c0, (HR7.out.put (.int .i64 0) (.slice none 0 0)).c1⟩
        go_upto_region 22 with fail
        rw [← HW7'.out]
        go_wp2_with fail
        refine bodyPost_ret (v := .tuple #[.agg #[.int .i64 0, .slice none 0 0], .int .i64 0, .int .i64 5]) (by simp [results, Try.results43, go_sem, u0, u1]) rfl ?_
        have HBF := below_put HB7.out (B := W.heap.size + 1) (by omega) (.int .i64 0) (.slice none 0 0)
        have HRU : ∀ W', RU f size lo hi fr tt true L W.heap.size 0 (.slice none 0 0) 0 5 W' := fun W' => ⟨lst, HC9.out, .inl ⟨by rw [← HLN.out]; exact q1, rfl, rfl, rfl, rfl⟩⟩
        first
        | exact ⟨0, _, 0, 5, rfl, HRU _, HB7.out⟩
        | exact ⟨0, _, 0, 5, rfl, HRU _, HBF⟩
      · have d0 := HR7.out.c0; have d1 := HR7.out.c1; have d2 := HR7.out.f0; have d3 := HR7.out.f1
        have k0 := HM7.out.c0; have k1 := HM7.out.c1
        obtain ⟨u0, u1⟩ : _ ∧ _ := ⟨(HR7.out.put (.int .i64 s') (.slice ra ln rc)).c0, (HR7.out.put (.int .i64 s') (.slice ra ln rc)).c1⟩
        go_upto_region 22 with fail
        rw [← HW7'.out]
        go_wp2_with fail
        refine bodyPost_ret (v := .tuple #[.agg #[.int .i64 s', .slice ra ln rc], .int .i64 nn, .int .i64 0]) (by simp [results, Try.results43, go_sem, u0, u1]) rfl ?_
        have HBF := below_put HB7.out (B := W.heap.size + 1) (by omega) (.int .i64 s') (.slice ra ln rc)
        have HIF := ((HI7.out.set ⟨W.heap.size + 1, 0, none⟩ (by have := HGE.out; show W.heap.size + 1 < _; omega) (.int .i64 s')).set ⟨W.heap.size + 1, 1, none⟩ (by have := HGE.out; show W.heap.size + 1 < _; omega) (.slice ra ln rc)).mono (base' := W.heap.size) (by have := HGE.out; omega)
        exact ⟨s', _, nn, 0, rfl, ⟨lst, HC9.out, .inr ⟨by rw [← HLN.out]; exact q1, rfl, rfl, HIF, fun h => HCN.out (by first | exact h | trivial | cases h)⟩⟩, HBF⟩
end Go.Proofs.Ytahgfggcpmnnaaa
