/- The law SpanPlays: its walk. -/
import Derived.Test.YtjbenhmpeceaeaaQm
namespace Go.Proofs.Ytjbenhmpeceaeaa
open Go Go.RowKit Gs

section
variable {B1 : Nat} {D1 D2 DD : List Q4} {X1 X2 : Nat} {xs ys : List Value} {vv rv : Value} {W W' : World}
theorem VS.re (h : VS B1 D1 D2 DD X1 X2 xs ys vv rv W) {DE : List Q4} (h1 : ∀ d ∈ DE, d ∈ DD) (h2 : ∀ d ∈ D1, d ∈ DE) (h3 : ∀ d ∈ D2, d ∈ DE) : VS B1 D1 D2 DE X1 X2 xs ys vv rv W :=
  ⟨h.own1, h.own2, fun d hd => h.dual d (h1 d hd), h2, h3, h.p1, h.p2, h.b1, h.b2, h.l1, h.l2, h.ge⟩
theorem VS.more (h : VS B1 D1 D2 DD X1 X2 xs ys vv rv W) {d : Q4} (hd : Dual 0 W d.1 d.2.1 d.2.2.1 d.2.2.2) : VS B1 D1 D2 (d :: DD) X1 X2 xs ys vv rv W :=
  ⟨h.own1, h.own2, fun x hx => by
    rcases List.mem_cons.1 hx with rfl | hx
    · exact hd
    · exact h.dual x hx, fun x hx => List.mem_cons_of_mem _ (h.sub1 x hx), fun x hx => List.mem_cons_of_mem _ (h.sub2 x hx), h.p1, h.p2, h.b1, h.b2, h.l1, h.l2, h.ge⟩
theorem VS.put {q q2 : Option Addr} {x1 y0 : Value} {a : Option Addr} {n c : Nat} (h : VS B1 D1 D2 DD X1 X2 [.pointer q, x1] [y0, .slice a n c] vv rv W) (hne : X1 ≠ X2) (u1 v0 v1 : Value) :
    VS B1 D1 D2 DD X1 X2 [.pointer q2, u1] [v0, v1] vv rv ((((W.setCell ⟨X1, 0, none⟩ (.pointer q2)).setCell ⟨X1, 1, none⟩ u1).setCell ⟨X2, 0, none⟩ v0).setCell ⟨X2, 1, none⟩ v1) := by
  have hb2 : Bx X2 [y0, .slice a n c] ((W.setCell ⟨X1, 0, none⟩ (.pointer q2)).setCell ⟨X1, 1, none⟩ u1) := (h.b2.other hne _).other hne _
  exact ⟨row_put (row_put (row_put (row_put h.own1 h.l1) h.l1) h.l2) h.l2, row_put (row_put (row_put (row_put h.own2 h.l1) h.l1) h.l2) h.l2, fun d hd => ((h.dual d hd).setM h.b1 q2 u1).setR hb2 v0 v1, h.sub1, h.sub2, h.p1, h.p2,
    ((h.b1.two _ _).other hne.symm _).other hne.symm _, hb2.two _ _, h.l1, h.l2, by rw [World.size_setCell, World.size_setCell, World.size_setCell, World.size_setCell]; exact h.ge⟩
theorem VS.bel1 {W0 : World} {B0 : Nat} (h : VS B1 D1 D2 DD X1 X2 xs ys vv rv W) (hb : Below B0 W0 W) (h0 : B0 ≤ B1) (hg : W.grownBy W' vv.ownBlock) : Below B0 W0 W' := hb.grown hg (Nat.le_trans h0 h.ge) (fun k hk => Nat.le_trans h0 (h.own1.lt k hk).1)
theorem VS.bel2 {W0 : World} {B0 : Nat} (h : VS B1 D1 D2 DD X1 X2 xs ys vv rv W) (hb : Below B0 W0 W) (h0 : B0 ≤ B1) (hg : W.grownBy W' rv.ownBlock) : Below B0 W0 W' := hb.grown hg (Nat.le_trans h0 h.ge) (fun k hk => Nat.le_trans h0 (h.own2.lt k hk).1)
theorem VS.start1 {d : Q4} {o1 : Value} (hd : Dual 0 W d.1 d.2.1 d.2.2.1 d.2.2.2) (b1 : Bx X1 xs W) (b2 : Bx X2 ys W) (h1 : X1 < W.heap.size) (h2 : X2 < W.heap.size) (e1 : o1 = d.2.2.2) :
    VS W.heap.size [d] [d] [d] X1 X2 xs ys (.slice (some ⟨W.heap.size, 0, none⟩) 1 1) (.slice (some ⟨W.heap.size + 1, 0, none⟩) 1 1) ((W.alloc (.cells #[.pointer d.1, .int .i64 d.2.1] 27)).alloc (.cells #[.int .i64 d.2.2.1, o1] 33)) := by
  subst e1
  have a1 := alloc_below W (.cells #[.pointer d.1, .int .i64 d.2.1] 27)
  have a2 := a1.trans ((alloc_below (W.alloc (.cells #[.pointer d.1, .int .i64 d.2.1] 27)) (.cells #[.int .i64 d.2.2.1, d.2.2.2] 33)).mono a1.size)
  have r1 := World.ownsRow_lit (base := W.heap.size) (e := 27) (size := 2) W #[.pointer d.1, .int .i64 d.2.1] 1 (Nat.le_refl _) (by decide) (by simp)
  have r2 := World.ownsRow_lit (base := W.heap.size) (e := 33) (size := 2) (W.alloc (.cells #[.pointer d.1, .int .i64 d.2.1] 27)) #[.int .i64 d.2.2.1, d.2.2.2] 1 a1.size (by decide) (by simp)
  rw [World.size_alloc] at r2
  exact ⟨r1.alloc _, r2, fun x hx => by simp at hx; subst hx; exact hd.below a2, fun x hx => hx, fun x hx => hx, by simp, by simp, b1.next a2, b2.next a2, h1, h2, a2.size⟩
theorem VS.start2 {d : Q4} {o1 : Value} (hd : Dual 0 W d.1 d.2.1 d.2.2.1 d.2.2.2) (b1 : Bx X1 xs W) (b2 : Bx X2 ys W) (h1 : X1 < W.heap.size) (h2 : X2 < W.heap.size) (e1 : o1 = d.2.2.2) :
    VS W.heap.size [d] [d] [d] X1 X2 xs ys (.slice (some ⟨W.heap.size + 1, 0, none⟩) 1 1) (.slice (some ⟨W.heap.size, 0, none⟩) 1 1) ((W.alloc (.cells #[.int .i64 d.2.2.1, o1] 33)).alloc (.cells #[.pointer d.1, .int .i64 d.2.1] 27)) := by
  subst e1
  have a1 := alloc_below W (.cells #[.int .i64 d.2.2.1, d.2.2.2] 33)
  have a2 := a1.trans ((alloc_below (W.alloc (.cells #[.int .i64 d.2.2.1, d.2.2.2] 33)) (.cells #[.pointer d.1, .int .i64 d.2.1] 27)).mono a1.size)
  have r1 := World.ownsRow_lit (base := W.heap.size) (e := 33) (size := 2) W #[.int .i64 d.2.2.1, d.2.2.2] 1 (Nat.le_refl _) (by decide) (by simp)
  have r2 := World.ownsRow_lit (base := W.heap.size) (e := 27) (size := 2) (W.alloc (.cells #[.int .i64 d.2.2.1, d.2.2.2] 33)) #[.pointer d.1, .int .i64 d.2.1] 1 a1.size (by decide) (by simp)
  rw [World.size_alloc] at r2
  exact ⟨r2, r1.alloc _, fun x hx => by simp at hx; subst hx; exact hd.below a2, fun x hx => hx, fun x hx => hx, by simp, by simp, b1.next a2, b2.next a2, h1, h2, a2.size⟩
end
theorem add_block (a : Addr) (j : Nat) : (a.add j).block = a.block := by
  unfold Addr.add
  split <;> rfl
theorem news_alloc {w : World} {ad : Addr} {l : List Value} (h : ∀ j u, l[j]? = some u → w.cell? (ad.add j) = some u) (o : Obj) : ∀ j u, l[j]? = some u → (w.alloc o).cell? (ad.add j) = some u := by
  intro j u hj
  have h1 := h j u hj
  rw [(alloc_below w o).cell (World.block_lt_of_cell? _ _ h1)]
  exact h1
theorem enc1_get : ∀ (l : List Q4) (j : Nat) (h : j < l.length), (l.flatMap enc1)[j * 2]? = some (.pointer l[j].1) ∧ (l.flatMap enc1)[j * 2 + 1]? = some (.int .i64 l[j].2.1)
  | r :: l, 0, _ => ⟨rfl, rfl⟩
  | r :: l, j + 1, h => by
    have ih := enc1_get l j (by simpa using h)
    have e : ∀ i, ((r :: l).flatMap enc1)[i + 2]? = (l.flatMap enc1)[i]? := fun i => rfl
    rw [show (j + 1) * 2 = j * 2 + 2 by omega, show j * 2 + 2 + 1 = j * 2 + 1 + 2 by omega, e, e]
    exact ih
theorem enc2_get : ∀ (l : List Q4) (j : Nat) (h : j < l.length), (l.flatMap enc2)[j * 2]? = some (.int .i64 l[j].2.2.1) ∧ (l.flatMap enc2)[j * 2 + 1]? = some l[j].2.2.2
  | r :: l, 0, _ => ⟨rfl, rfl⟩
  | r :: l, j + 1, h => by
    have ih := enc2_get l j (by simpa using h)
    have e : ∀ i, ((r :: l).flatMap enc2)[i + 2]? = (l.flatMap enc2)[i]? := fun i => rfl
    rw [show (j + 1) * 2 = j * 2 + 2 by omega, show j * 2 + 2 + 1 = j * 2 + 1 + 2 by omega, e, e]
    exact ih
set_option maxRecDepth 100000 in
set_option maxHeartbeats 8000000 in
theorem spanPlays_walk (size : Int) (v : Value) (l : List Act) (W : World) (hl : IsAs W v l) :
    Calls Try.prog 3 #[.int .i64 size, v] W fun e w' => e = .returned (.bool true) ∧ Below W.heap.size W w' := by
  have HAW := Lib.hid (fun W' => awake_any W')
  have HAS := Lib.hid hl
  obtain ⟨ao, c, rfl, -⟩ := hl
  obtain ⟨n, hnn⟩ : ∃ n, n = l.length := ⟨_, rfl⟩
  have HN := Lib.hid hnn
  rw [← hnn] at HAS ⊢
  clear hnn
  by_cases hf : n ≤ 60
  · have HFW : Hid (∀ W', Calls Try.prog 11 #[.slice ao n c] W' fun e w' => e = .returned (.bool true) ∧ W' = w') := fun W' => by
      have := few_any ao n c W'
      rwa [decide_eq_true hf] at this
    have HNB : Hid (n ≤ 60) := hf
    have HNW := Lib.hid (New_any size W)
    have HRN : Hid (∀ W', Calls Try.prog 14 #[.int .i64 size] W' fun e w' => ∃ s v e2, e = .returned (.tuple #[.agg #[.int .i64 s, v], .int .i64 e2]) ∧ Hid (RNP size W'.heap.size s v e2 w') ∧ Below W'.heap.size W' w') := fun W' => RNew_any size W'
    go_enter Try.func3, Try.ntmps3
    go_wp2_with fail
    refine (HFW.out _).mono ?_
    rintro e w1 ⟨rfl, rfl⟩
    go_wp2_with fail
    refine HNW.out.mono ?_
    rintro e w1 ⟨q, s, e2, rfl, HQ, hb⟩
    obtain ⟨w2, HW2⟩ : ∃ w2, w2 = w1.alloc (.cells #[.pointer q, .int .i64 s] 27) := ⟨_, rfl⟩
    have b2 : Below w1.heap.size w1 w2 := by rw [HW2]; exact alloc_below _ _
    have n3 : Bx w1.heap.size [.pointer q, .int .i64 s] w2 := by rw [HW2]; exact Bx.new w1 [.pointer q, .int .i64 s] 27 (by simp)
    have b12 := hb.trans (b2.mono hb.size)
    have HW2' := Lib.hid HW2
    clear HW2
    go_upto_region 4 with fail
    rw [← HW2'.out]
    go_wp2_with fail
    refine (HRN.out _).mono ?_
    rintro e w3 ⟨s', v0, e3, rfl, HR, hb3⟩
    obtain ⟨va, vn, vc, rfl⟩ := HR.out.shape
    obtain ⟨w4, HW4⟩ : ∃ w4, w4 = w3.alloc (.cells #[.int .i64 s', .slice va vn vc] 33) := ⟨_, rfl⟩
    have b4 : Below w3.heap.size w3 w4 := by rw [HW4]; exact alloc_below _ _
    have n4 : Bx w3.heap.size [.int .i64 s', .slice va vn vc] w4 := by rw [HW4]; exact Bx.new w3 [.int .i64 s', .slice va vn vc] 33 (by simp)
    have b34 := hb3.trans (b4.mono hb3.size)
    have b14 := b2.trans (b34.mono b2.size)
    have hpair : e2 = e3 ∧ Dual w2.heap.size w4 q s s' (.slice va vn vc) := new_dual (by
      rcases HQ.out with ⟨g1, g2, g3⟩ | g
      · exact .inl ⟨g1, g2, g3.below b14⟩
      · exact .inr g) (HR.out.below b4)
    obtain ⟨rfl, hdu⟩ := hpair
    have HDU := Lib.hid (hdu.mono (Nat.zero_le _))
    have b04 := b12.trans (b34.mono b12.size)
    have G3 := Lib.hid (n3.next b34); have G4 := Lib.hid n4
    have HB4 := Lib.hid b04
    have HSZ : Hid (W.heap.size ≤ w1.heap.size ∧ w1.heap.size < w3.heap.size) := ⟨hb.size, Nat.lt_of_lt_of_le n3.lt hb3.size⟩
    have HW4' := Lib.hid HW4
    clear hb b2 n3 b12 hb3 HW4 b4 n4 b34 b14 hdu b04 HQ HR HRN HNW
    go_upto_region 5 with fail
    rw [← HW4'.out]
    clear HW4' HW2'
    obtain ⟨m0, m1, -, -⟩ := G3.out.c2
    obtain ⟨r0, r1, -, -⟩ := G4.out.c2
    go_wp2_with fail
    refine (same_dual HDU.out).mono ?_
    rintro e w5 ⟨rfl, hb⟩
    have HB5 := Lib.hid (HB4.out.trans (hb.out.mono HB4.out.size))
    have F3 := Lib.hid (G3.out.next hb.out); have F4 := Lib.hid (G4.out.next hb.out); have HD5 := Lib.hid (HDU.out.below hb.out)
    clear hb m0 m1 r0 r1 G3 G4 HDU HB4
    obtain ⟨m0, m1, -, -⟩ := F3.out.c2
    obtain ⟨r0, r1, -, -⟩ := F4.out.c2
    have p0 := (F3.out.next (alloc_below w5 (.cells #[.int .i64 s', .slice va vn vc] 33))).c2.1
    have p1 := (F3.out.next (alloc_below w5 (.cells #[.int .i64 s', .slice va vn vc] 33))).c2.2.1
    have p2 := (F4.out.next (alloc_below w5 (.cells #[.pointer q, .int .i64 s] 27))).c2.1
    have p3 := (F4.out.next (alloc_below w5 (.cells #[.pointer q, .int .i64 s] 27))).c2.2.1
    go_upto_region 7 with fail
    go_cut [9, 10] from 37 to 40 (fun s9 s10 wx => Hid (VS w5.heap.size [(q, s, s', .slice va vn vc)] [(q, s, s', .slice va vn vc)] [(q, s, s', .slice va vn vc)] w1.heap.size w3.heap.size [.pointer q, .int .i64 s] [.int .i64 s', .slice va vn vc] s9 s10 wx) ∧ Hid (Below W.heap.size W wx))
    case first =>
      go_region
      all_goals
        go_wp2_with fail
        go_meet
        case rel =>
          first
          | exact ⟨(VS.start1 (d := (q, s, s', .slice va vn vc)) HD5.out F3.out F4.out F3.out.lt F4.out.lt rfl).below (Below.refl _ _).drew, ((HB5.out.alloc HB5.out.size _).alloc (by have := HB5.out.size; simp; omega) _).drew⟩
          | exact ⟨(VS.start2 (d := (q, s, s', .slice va vn vc)) HD5.out F3.out F4.out F3.out.lt F4.out.lt rfl).below (Below.refl _ _).drew, ((HB5.out.alloc HB5.out.size _).alloc (by have := HB5.out.size; simp; omega) _).drew⟩
    case rest =>
      obtain ⟨HVS, HBc⟩ := hcut
      clear m0 m1 r0 r1 p0 p1 p2 p3 F3 F4 HD5 HB5
      go_wp2_with fail
      obtain ⟨B1, hB1⟩ : ∃ B1, B1 = w5.heap.size := ⟨_, rfl⟩
      obtain ⟨X1, hX1⟩ : ∃ X1, X1 = w1.heap.size := ⟨_, rfl⟩
      obtain ⟨X2, hX2⟩ : ∃ X2, X2 = w3.heap.size := ⟨_, rfl⟩
      have HXX : Hid (W.heap.size ≤ X1 ∧ X1 < X2) := by rw [hX1, hX2]; exact HSZ.out
      have HXB : Hid (W.heap.size ≤ B1) := by
        have h1 := HVS.out.l1
        have := HSZ.out
        rw [hB1]
        show W.heap.size ≤ w5.heap.size
        omega
      rw [← hB1, ← hX1, ← hX2] at HVS
      rw [← hX1, ← hX2]
      clear hB1 hX1 hX2 HSZ
      obtain ⟨i1, hi1, hy0, hy1, hy2⟩ := info_parts infoMap
      obtain ⟨i2, hi2, hz0, hz1, hz2⟩ := info_parts infoRMap
      have HI1 := Lib.hid hi1; have HI2 := Lib.hid hi2; have HY0 := Lib.hid hy0; have HY1 := Lib.hid hy1; have HY2 := Lib.hid hy2; have HZ0 := Lib.hid hz0; have HZ1 := Lib.hid hz1; have HZ2 := Lib.hid hz2
      clear hi1 hi2 hy0 hy1 hy2 hz0 hz1 hz2
      go_loopg [9, 10, 11, 12] n (fun kk s9 s10 s11 s12 wr => ∃ (j : Nat) (q : Option Addr) (s s' : Int) (va : Option Addr) (vn vc : Nat) (D : List Q4), Hid (kk + j = n) ∧ s11 = .bool true ∧ s12 = .int .i64 j ∧ Hid (VS B1 D D D X1 X2 [.pointer q, .int .i64 s] [.int .i64 s', .slice va vn vc] s9 s10 wr) ∧ Hid ((q, s, s', Value.slice va vn vc) ∈ D ∧ D.length = j + 1) ∧ Hid (Below W.heap.size W wr))
      case atStart => exact ⟨0, q, s, s', va, vn, vc, _, by show _ = _; omega, rfl, rfl, HVS, ⟨by simp, rfl⟩, HBc⟩
      case round =>
        obtain ⟨j, q, s, s', va, vn, vc, D, HK, rfl, rfl, HV, HD, HBr⟩ := hrel
        clear HVS HBc
        have hjn : j ≤ n := by have := HK.out; omega
        by_cases hlt : j < n
        · have hlt2 : (j : Int) < n := by omega
          have hjl : j < l.length := by have := HN.out; omega
          obtain ⟨B, o, rfl, g0, g1, g2, g3, g4⟩ := (HAS.out.below HBr.out).at' hjl
          generalize l[j] = a at *
          obtain ⟨asw, alo, ahi, afr, att⟩ := a
          simp only at g0 g1 g2 g3 g4
          obtain ⟨m0, m1, r0, r1⟩ := HV.out.cells
          have bd : Below wr.heap.size wr wr.drew := (Below.refl _ _).drew
          have HVd := Lib.hid (HV.out.below bd)
          have HBd := Lib.hid (HBr.out.trans (bd.mono HBr.out.size))
          clear bd
          have HDO : Hid (Calls Try.prog 16 #[.agg #[.pointer q, .int .i64 s], .agg #[.int .i64 s', .slice va vn vc], .agg #[.bool asw, .int .i64 alo, .int .i64 ahi, .int .i64 afr, .int .i64 att]] wr.drew fun e w' => ∃ q2 s2 va2 vn2 vc2, e = .returned (.tuple #[.agg #[.pointer q2, .int .i64 s], .agg #[.int .i64 s2, .slice va2 vn2 vc2], .bool true]) ∧ Hid (Dual 0 w' q2 s s2 (.slice va2 vn2 vc2)) ∧ Hid (VS B1 D D D X1 X2 [.pointer q, .int .i64 s] [.int .i64 s', .slice va vn vc] u9 u10 w') ∧ Hid (Below W.heap.size W w')) :=
            (do_any asw alo ahi afr att (HVd.out.dual _ HD.out.1) (Nat.zero_le _)).mono fun e w' ⟨q2, s2, v2, he, hd, hb⟩ => by
              obtain ⟨va2, vn2, vc2, rfl⟩ := hd.out.shape
              exact ⟨q2, s2, va2, vn2, vc2, he, hd, HVd.out.below hb, HBd.out.trans (hb.mono HBd.out.size)⟩
          have HOT : Hid (∀ w' x y, Bx X2 [.int .i64 s', .slice va vn vc] w' → Bx X2 [.int .i64 s', .slice va vn vc] ((w'.setCell ⟨X1, 0, none⟩ x).setCell ⟨X1, 1, none⟩ y)) := fun w' x y h => (h.other (by have := HXX.out; omega) _).other (by have := HXX.out; omega) _
          clear HVd HBd
          go_upto_region 12 with fail
          go_cut [11] from 41 to 73 (fun s11 wx => ∃ q2 s2 va2 vn2 vc2, s11 = .bool true ∧ Hid (VS B1 D D ((q2, s, s2, .slice va2 vn2 vc2) :: D) X1 X2 [.pointer q2, .int .i64 s] [.int .i64 s2, .slice va2 vn2 vc2] u9 u10 wx) ∧ Hid (Below W.heap.size W wx))
          case first =>
            go_region_with (go_at_call 16; with_reducible refine HDO.out.mono ?_; rintro e w6 ⟨q2, s2, va2, vn2, vc2, rfl, hd2, K3, HB6⟩; obtain ⟨m0, m1, m2, m3⟩ := K3.out.b1.c2; obtain ⟨r0, r1, r2, r3⟩ := (HOT.out _ (.pointer q2) (.int .i64 s) K3.out.b2).c2)
            all_goals
              clear m0 m1 m2 m3 r0 r1 r2 r3 g0 g1 g2 g3 g4
              go_wp2_with fail
              go_meet
              case rel =>
                have hsz := HXX.out
                exact ⟨q2, s2, va2, vn2, vc2, rfl, (K3.out.more (d := (q2, s, s2, .slice va2 vn2 vc2)) hd2.out).put (by omega) _ _ _, below_put (below_put HB6.out (by omega) _ _) (by omega) _ _⟩
          case rest =>
            obtain ⟨q2, s2, va2, vn2, vc2, rfl, KV, HB6⟩ := hcut
            clear m0 m1 r0 r1 g0 g1 g2 g3 g4 HDO HOT HV
            obtain ⟨m0, m1, r0, r1⟩ := KV.out.cells
            go_wp2_with fail
            refine (same_dual (KV.out.dual (q2, s, s2, .slice va2 vn2 vc2) (List.mem_cons_self ..))).mono ?_
            rintro e w7 ⟨rfl, hb⟩
            have KV7 := Lib.hid (KV.out.below hb.out)
            have HB7 := Lib.hid (HB6.out.trans (hb.out.mono HB6.out.size))
            clear hb m0 m1 r0 r1 KV HB6
            have HMEM : Hid ((q2, s, s2, Value.slice va2 vn2 vc2) ∈ (q2, s, s2, Value.slice va2 vn2 vc2) :: D) := List.mem_cons_self ..
            have bd : Below w7.heap.size w7 w7.drew := (Below.refl _ _).drew
            have KVd := Lib.hid (KV7.out.below bd)
            have HBd := Lib.hid (HB7.out.trans (bd.mono HB7.out.size))
            have HLT1 : Hid (∀ g, u9.ownBlock = some g → g < w7.heap.size) := fun g hg => (KVd.out.own1.lt g hg).2
            have HON1 : Hid (∀ (x : Option Addr) (y : Int), ∀ u ∈ [Value.pointer x, .int .i64 y], u.oneCell' = true) := by intro x y u hu; simp at hu; rcases hu with rfl | rfl <;> rfl
            have HON2 : Hid (∀ (x : Int) (a : Option Addr) (n c : Nat), ∀ u ∈ [Value.int .i64 x, .slice a n c], u.oneCell' = true) := by intro x a n c u hu; simp at hu; rcases hu with rfl | rfl <;> rfl
            have HN1a : Hid (∀ j u, [Value.pointer q2, .int .i64 s][j]? = some u → (w7.drew.alloc (.cells #[.pointer q2, .int .i64 s] 27)).cell? ((⟨w7.heap.size, 0, none⟩ : Addr).add j) = some u) := cells2_new w7.drew _ _ _
            have HN1b : Hid (∀ j u, [Value.pointer q2, .int .i64 s][j]? = some u → ((w7.drew.alloc (.cells #[.pointer q2, .int .i64 s] 27)).alloc (.cells #[.int .i64 s2, .slice va2 vn2 vc2] 33)).cell? ((⟨w7.heap.size, 0, none⟩ : Addr).add j) = some u) := news_alloc HN1a.out _
            have HN2d : Hid (∀ j u, [Value.int .i64 s2, .slice va2 vn2 vc2][j]? = some u → (w7.drew.alloc (.cells #[.int .i64 s2, .slice va2 vn2 vc2] 33)).cell? ((⟨w7.heap.size, 0, none⟩ : Addr).add j) = some u) := cells2_new w7.drew _ _ _
            have HN2c : Hid (∀ j u, [Value.int .i64 s2, .slice va2 vn2 vc2][j]? = some u → ((w7.drew.alloc (.cells #[.int .i64 s2, .slice va2 vn2 vc2] 33)).alloc (.cells #[.pointer q2, .int .i64 s] 27)).cell? ((⟨w7.heap.size, 0, none⟩ : Addr).add j) = some u) := news_alloc HN2d.out _
            have HN1c : Hid (∀ j u, [Value.pointer q2, .int .i64 s][j]? = some u → ((w7.drew.alloc (.cells #[.int .i64 s2, .slice va2 vn2 vc2] 33)).alloc (.cells #[.pointer q2, .int .i64 s] 27)).cell? ((⟨w7.heap.size + 1, 0, none⟩ : Addr).add j) = some u) := by
              have h := cells2_new (w7.drew.alloc (.cells #[.int .i64 s2, .slice va2 vn2 vc2] 33)) (Value.pointer q2) (.int .i64 s) 27
              rw [World.size_alloc] at h
              exact h
            have HN2b : Hid (∀ j u, [Value.int .i64 s2, .slice va2 vn2 vc2][j]? = some u → ((w7.drew.alloc (.cells #[.pointer q2, .int .i64 s] 27)).alloc (.cells #[.int .i64 s2, .slice va2 vn2 vc2] 33)).cell? ((⟨w7.heap.size + 1, 0, none⟩ : Addr).add j) = some u) := by
              have h := cells2_new (w7.drew.alloc (.cells #[.pointer q2, .int .i64 s] 27)) (Value.int .i64 s2) (.slice va2 vn2 vc2) 33
              rw [World.size_alloc] at h
              exact h
            have hml : D.length + 1 ≤ maxLen := Nat.le_trans (show D.length + 1 ≤ 100 by have := HD.out.2; omega) (by decide)
            have hmb1 : (D.length + 1) * 16 ≤ 140737488355328 := by have := HD.out.2; omega
            have hmb2 : (D.length + 1) * 32 ≤ 140737488355328 := by have := HD.out.2; omega
            clear bd KV7
            have hcl := KVd.out.cells
            have hc0 := hcl
            have hcw : w7.cell? ⟨X1, 0, none⟩ = some (.pointer q2) ∧ w7.cell? ⟨X1, 1, none⟩ = some (.int .i64 s) ∧ w7.cell? ⟨X2, 0, none⟩ = some (.int .i64 s2) ∧ w7.cell? ⟨X2, 1, none⟩ = some (.slice va2 vn2 vc2) := hcl
            go_upto_region 15 with fail
            go_region_held3 (fun W' : World => W'.cell? ⟨X1, 0, none⟩ = some (.pointer q2) ∧ W'.cell? ⟨X1, 1, none⟩ = some (.int .i64 s) ∧ W'.cell? ⟨X2, 0, none⟩ = some (.int .i64 s2) ∧ W'.cell? ⟨X2, 1, none⟩ = some (.slice va2 vn2 vc2)) (first | assumption | exact (KVd.out.alloc _).cells | exact ((KVd.out.alloc _).alloc _).cells | exact (hV1.out.alloc _).cells | fail) (first
              | (refine step_append_row rfl (.tmp 66) (.tmp 68) 37 rfl B1 27 i1 (.agg #[.pointer none, .int .i64 0]) 2 16 Try.underlying37 HI1.out HY0.out HY1.out HY2.out rfl (by decide) _ _ _ (by rfl) (by first | exact (KVd.out.alloc _).own1 | exact ((KVd.out.alloc _).alloc _).own1 | fail) _ 1 1 [.pointer q2, .int .i64 s] rfl rfl (by first | exact HN1a.out | exact HN1b.out | exact HN1c.out | fail) (HON1.out q2 s) hml hmb1 (by first | exact (KVd.out.alloc _).ge | exact ((KVd.out.alloc _).alloc _).ge | fail) ?_; intro v1 w8 hown8 hgrow8 _; (first | (have hV1 := Lib.hid (VS.app1 (d := (q2, s, s2, Value.slice va2 vn2 vc2)) (KVd.out.alloc _) HMEM.out hown8 hgrow8); have hB8 := Lib.hid (VS.bel1 (KVd.out.alloc _) (HBd.out.alloc HBd.out.size _) HXB.out hgrow8)) | (have hV1 := Lib.hid (VS.app1 (d := (q2, s, s2, Value.slice va2 vn2 vc2)) ((KVd.out.alloc _).alloc _) HMEM.out hown8 hgrow8); have hB8 := Lib.hid (VS.bel1 ((KVd.out.alloc _).alloc _) ((HBd.out.alloc HBd.out.size _).alloc (HBd.out.alloc HBd.out.size _).size _) HXB.out hgrow8)) | fail); have hc8 := hV1.out.cells)
              | (refine step_append_row rfl (.tmp 70) (.tmp 72) 38 rfl B1 33 i2 (.agg #[.int .i64 0, .slice none 0 0]) 2 32 Try.underlying38 HI2.out HZ0.out HZ1.out HZ2.out rfl (by decide) _ _ _ (by rfl) (by first | exact hV1.out.own2 | exact (hV1.out.alloc _).own2 | fail) _ 1 1 [.int .i64 s2, .slice va2 vn2 vc2] rfl rfl (by first | exact cells2_new _ _ _ _ | exact fun j u hj => hgrow8.cell (HN2b.out j u hj) (by rw [add_block]; intro e; have hlt : w7.heap.size + 1 < w7.heap.size := HLT1.out _ e.symm; omega) | exact fun j u hj => hgrow8.cell (HN2c.out j u hj) (by rw [add_block]; intro e; have hlt : w7.heap.size < w7.heap.size := HLT1.out _ e.symm; omega) | fail) (HON2.out s2 va2 vn2 vc2) hml hmb2 (by first | exact hV1.out.ge | exact (hV1.out.alloc _).ge | fail) ?_; intro v2 w9 hown9 hgrow9 _; (first | (have hV2 := Lib.hid (VS.app2 (d := (q2, s, s2, Value.slice va2 vn2 vc2)) hV1.out HMEM.out hown9 hgrow9); have hB9 := Lib.hid (VS.bel2 hV1.out hB8.out HXB.out hgrow9)) | (have hV2 := Lib.hid (VS.app2 (d := (q2, s, s2, Value.slice va2 vn2 vc2)) (hV1.out.alloc _) HMEM.out hown9 hgrow9); have hB9 := Lib.hid (VS.bel2 (hV1.out.alloc _) (hB8.out.alloc hB8.out.size _) HXB.out hgrow9)) | fail); have hc9 := hV2.out.cells) | fail)
            all_goals
              have HV9 : Hid (VS B1 (D ++ [(q2, s, s2, .slice va2 vn2 vc2)]) (D ++ [(q2, s, s2, .slice va2 vn2 vc2)]) (D ++ [(q2, s, s2, .slice va2 vn2 vc2)]) X1 X2 [.pointer q2, .int .i64 s] [.int .i64 s2, .slice va2 vn2 vc2] v1 v2 w9) := hV2.out.re (fun d hd => by
                rcases List.mem_append.1 hd with hd | hd
                · exact List.mem_cons_of_mem _ hd
                · simp at hd; subst hd; exact List.mem_cons_self ..) (fun d hd => hd) (fun d hd => hd)
              have HD9 : Hid ((q2, s, s2, Value.slice va2 vn2 vc2) ∈ D ++ [(q2, s, s2, Value.slice va2 vn2 vc2)] ∧ (D ++ [(q2, s, s2, Value.slice va2 vn2 vc2)]).length = j + 1 + 1) := ⟨by simp, by have := HD.out.2; simp; omega⟩
              clear hcl hc0 hcw hc8 hc9 hV1 hV2 hown8 hown9 hgrow8 hgrow9 hml hmb1 hmb2
              go_wp2_with fail
              go_roundg (n - (j + 1))
              case measure => have := HK.out; omega
              case rel => exact ⟨j + 1, q2, s, s2, va2, vn2, vc2, _, by show _ = _; omega, rfl, by go_num, HV9.out, HD9.out, hB9.out⟩
        · have hlt3 : ¬ (j : Int) < n := by omega
          obtain ⟨g1, cap1, cur1, e9, hb1, hh1, hg1⟩ := row_some HV.out.own1 HV.out.p1
          obtain ⟨g2, cap2, cur2, e10, hb2, hh2, hg2⟩ := row_some HV.out.own2 HV.out.p2
          obtain ⟨K, hK⟩ : ∃ K, K = D.length := ⟨_, rfl⟩
          rw [← hK] at e9 e10
          subst e9
          subst e10
          have HKL := Lib.hid hK
          have HDL : Hid (K ≤ 61) := by have := HD.out.2; show _ ≤ _; omega
          have HBL : Hid (g1 < wr.heap.size ∧ g2 < wr.heap.size) := ⟨(HV.out.own1.lt g1 rfl).2, (HV.out.own2.lt g2 rfl).2⟩
          have HG1 : Hid (∀ i, (h : i < D.length) → wr.cell? ⟨g1, i * 2, none⟩ = some (.pointer D[i].1) ∧ wr.cell? ⟨g1, i * 2 + 1, none⟩ = some (.int .i64 D[i].2.1) ∧ wr.cell? ⟨g2, i * 2, none⟩ = some (.int .i64 D[i].2.2.1) ∧ wr.cell? ⟨g2, i * 2 + 1, none⟩ = some D[i].2.2.2) := fun i hi => by
            obtain ⟨a0, a1⟩ := enc1_get D i hi
            obtain ⟨b0, b1⟩ := enc2_get D i hi
            have c0 := HV.out.own1.cells (g := g1) rfl _ _ a0
            have c1 := HV.out.own1.cells (g := g1) rfl _ _ a1
            have c2 := HV.out.own2.cells (g := g2) rfl _ _ b0
            have c3 := HV.out.own2.cells (g := g2) rfl _ _ b1
            rw [add_zero'] at c0 c1 c2 c3
            exact ⟨c0, c1, c2, c3⟩
          have HDD : Hid (∀ d ∈ D, Dual 0 wr d.1 d.2.1 d.2.2.1 d.2.2.2) := HV.out.dual
          clear hb1 hh1 hg1 hb2 hh2 hg2 hK HV HD
          go_wp2_with fail
          go_loopw [13] (fun iv w8 => ∃ i : Nat, i ≤ K ∧ iv = .int .i64 i ∧ Hid (Below wr.heap.size wr w8)) (fun i _ => K - (intOf i).toNat)
          case atStart => exact ⟨0, by omega, rfl, Below.refl _ _⟩
          case round =>
            obtain ⟨i, hi, rfl, HB8⟩ := hrel
            by_cases hlt4 : i < K
            · have hi2 : (i : Int) < K := by omega
              have hi0 : (0 : Int) ≤ (i : Int) := by omega
              have hil : i < D.length := by have := HKL.out; omega
              have hkb : K ≤ 61 := HDL.out
              have HC := HG1.out i hil
              have HDi := HDD.out D[i] (List.getElem_mem hil)
              rcases hd : D[i] with ⟨dp, dz, ds, dv⟩
              rw [hd] at HC HDi
              simp only at HC HDi
              obtain ⟨da, dn, dc, rfl⟩ := HDi.shape
              have HALL : Hid (∀ W', Below wr.heap.size wr W' → W'.cell? ⟨g1, i * 2, none⟩ = some (.pointer dp) ∧ W'.cell? ⟨g1, i * 2 + 1, none⟩ = some (.int .i64 dz) ∧ W'.cell? ⟨g2, i * 2, none⟩ = some (.int .i64 ds) ∧ W'.cell? ⟨g2, i * 2 + 1, none⟩ = some (.slice da dn dc)) := fun W' h => by
                have h := HB8.out.trans (h.mono HB8.out.size)
                exact ⟨(h.cell (p := ⟨g1, i * 2, none⟩) HBL.out.1).trans HC.1, (h.cell (p := ⟨g1, i * 2 + 1, none⟩) HBL.out.1).trans HC.2.1, (h.cell (p := ⟨g2, i * 2, none⟩) HBL.out.2).trans HC.2.2.1, (h.cell (p := ⟨g2, i * 2 + 1, none⟩) HBL.out.2).trans HC.2.2.2⟩
              have HSM : Hid (∀ W', Below wr.heap.size wr W' → Calls Try.prog 15 #[.agg #[.pointer dp, .int .i64 dz], .agg #[.int .i64 ds, .slice da dn dc]] W' fun e w' => e = .returned (.bool true) ∧ Below wr.heap.size wr w') := fun W' h => (same_dual (HDi.below (HB8.out.trans (h.mono HB8.out.size)))).mono fun e w' ⟨he, hB⟩ => ⟨he, h.trans (hB.out.mono h.size)⟩
              have hs : Below wr.heap.size wr wr := Below.refl _ _
              have hs2 := hs.drew
              have hcl := HALL.out _ hs2
              have hc0 := HALL.out _ hs
              clear hd HC HDi
              go_wp2_with fail
              go_region_held3 (fun W' : World => W'.cell? ⟨g1, i * 2, none⟩ = some (.pointer dp) ∧ W'.cell? ⟨g1, i * 2 + 1, none⟩ = some (.int .i64 dz) ∧ W'.cell? ⟨g2, i * 2, none⟩ = some (.int .i64 ds) ∧ W'.cell? ⟨g2, i * 2 + 1, none⟩ = some (.slice da dn dc)) (first | assumption | fail) (first
                | (go_at_call 15; with_reducible refine (HSM.out _ ?h).mono ?_; (case h => assumption); rintro e w' ⟨rfl, hs1'⟩; have hc1' := HALL.out _ hs1') | fail)
              all_goals
                have HB9 := Lib.hid (HB8.out.trans (hs1'.mono HB8.out.size))
                clear hs hs2 hcl hc0 hs1' hc1'
                go_wp2_with fail
                go_roundw
                case rel => exact ⟨i + 1, by omega, by go_num, HB9.out⟩
                case measure => simp [intOf]; omega
            · have hi2 : ¬ (i : Int) < K := by omega
              go_wp2_with fail
              refine (HAW.out _).mono ?_
              rintro e w9 ⟨rfl, hb⟩
              have HF := Lib.hid (HBr.out.trans ((HB8.out.trans (hb.mono HB8.out.size)).mono HBr.out.size))
              clear hb
              go_wp2_with fail
              go_ret
              exact ⟨rfl, HF.out⟩
  · have HFW : Hid (∀ W', Calls Try.prog 11 #[.slice ao n c] W' fun e w' => e = .returned (.bool false) ∧ W' = w') := fun W' => by
      have := few_any ao n c W'
      rwa [decide_eq_false hf] at this
    go_enter Try.func3, Try.ntmps3
    go_wp2_with fail
    refine (HFW.out _).mono ?_
    rintro e w1 ⟨rfl, rfl⟩
    go_wp2_with fail
    refine (HAW.out _).mono ?_
    rintro e w2 ⟨rfl, hb⟩
    have HB2 := Lib.hid hb
    clear hb
    go_wp2_with fail
    go_ret
    exact ⟨rfl, HB2.out⟩
end Go.Proofs.Ytjbenhmpeceaeaa
