/- The contract of the law's do: both maps after one update. -/
import Derived.Test.YtjbenhmpeceaeaaQj
import Derived.Test.YtjbenhmpeceaeaaZj
namespace Go.Proofs.Ytjbenhmpeceaeaa
open Go Go.RowKit Gs

theorem CodeU.below {f : Int → Int} {size : Int} {a : Act} {q : Option Addr} {s2 n2 e2 : Int} {W W' : World} (h : CodeU f size a q s2 n2 e2 W) (hb : Below W.heap.size W W') : CodeU f size a q s2 n2 e2 W' := ⟨h.1.below hb, h.2⟩
theorem CodeU.set {f : Int → Int} {size : Int} {a : Act} {q : Option Addr} {s2 n2 e2 : Int} {W : World} {X i : Nat} {u : Value} (h : CodeU f size a q s2 n2 e2 W) (h22 : W.cell? ⟨X, 22, none⟩ = none) : CodeU f size a q s2 n2 e2 (W.setCell ⟨X, i, none⟩ u) := by
  refine ⟨?_, h.2⟩
  rcases h.1 with g | g | ⟨g1, g2, g3, g4⟩
  · exact .inl g
  · exact .inr (.inl g)
  · exact .inr (.inr ⟨g1, g2, g3, g4.lo, g4.ctx, g4.tr.set h22 u⟩)
theorem DocU.below {f : Int → Int} {size : Int} {a : Act} {L : List R} {B : Nat} {s' : Int} {v' : Value} {k e : Int} {W W' : World} (h : DocU f size a L B s' v' k e W) (hb : Below W.heap.size W W') : DocU f size a L B s' v' k e W' := by
  rcases h with h | ⟨h1, L', h2, h | ⟨g1, g2, g3, g4, g5⟩⟩
  · exact .inl h
  · exact .inr ⟨h1, L', h2, .inl h⟩
  · exact .inr ⟨h1, L', h2, .inr ⟨g1, g2, g3, g4.below hb, g5⟩⟩
/-- what do asks of its two calls -/
theorem do_parts {base : Nat} {W : World} {p : Option Addr} {size s : Int} {v : Value} (a : Act) (h : Dual base W p size s v) :
    ∃ (CX : Option Addr → Int → Int → Int → World → Prop) (DX : Nat → Int → Value → Int → Int → World → Prop),
      Hid (∀ W', Below W.heap.size W W' → Calls Try.prog 39 #[.agg #[.pointer p, .int .i64 size], .int .i64 a.lo, .int .i64 a.hi, .int .i64 a.fr, .int .i64 a.tt] W' fun e w' => ∃ q s2 n2 e2, e = .returned (.tuple #[.agg #[.pointer q, .int .i64 s2], .int .i64 n2, .int .i64 e2]) ∧ Hid (a.sw = true → CX q s2 n2 e2 w') ∧ Below W'.heap.size W' w') ∧
      Hid (∀ W', Below W.heap.size W W' → Calls Try.prog 38 #[.agg #[.pointer p, .int .i64 size], .int .i64 a.lo, .int .i64 a.hi, .int .i64 a.tt] W' fun e w' => ∃ q s2 e2, e = .returned (.tuple #[.agg #[.pointer q, .int .i64 s2], .int .i64 e2]) ∧ Hid (a.sw = false → CX q s2 0 e2 w') ∧ Below W'.heap.size W' w') ∧
      Hid (∀ W', Below W.heap.size W W' → Calls Try.prog 43 #[.agg #[.int .i64 s, v], .int .i64 a.lo, .int .i64 a.hi, .int .i64 a.fr, .int .i64 a.tt, .bool (!a.sw)] W' fun e w' => ∃ s' b' n' c' k e2, e = .returned (.tuple #[.agg #[.int .i64 s', .slice b' n' c'], .int .i64 k, .int .i64 e2]) ∧ Hid (DX W'.heap.size s' (.slice b' n' c') k e2 w') ∧ Below W'.heap.size W' w') ∧
      Hid (∀ B q s2 n2 e2 s' v' k e W1, CX q s2 n2 e2 W1 → DX B s' v' k e W1 → Agree B W1 a.sw size q s2 n2 e2 s' v' k e) ∧
      Hid (∀ q s2 n2 e2 W1 W2, CX q s2 n2 e2 W1 → Below W1.heap.size W1 W2 → CX q s2 n2 e2 W2) ∧
      Hid (∀ q s2 n2 e2 W1 X i u, CX q s2 n2 e2 W1 → W1.cell? ⟨X, 22, none⟩ = none → CX q s2 n2 e2 (W1.setCell ⟨X, i, none⟩ u)) ∧
      Hid (∀ B s' v' k e W1 W2, DX B s' v' k e W1 → Below W1.heap.size W1 W2 → DX B s' v' k e W2) := by
  rcases h with ⟨rfl, rfl, rfl, rfl⟩ | ⟨f, L, h1, h2, h3, rfl⟩
  · refine ⟨fun q s2 n2 e2 _ => q = none ∧ s2 = 0 ∧ n2 = 0 ∧ e2 = 1, fun _ s' v' k e _ => s' = 0 ∧ v' = .slice none 0 0 ∧ k = 0 ∧ e = 1, fun W' _ => ?_, fun W' _ => ?_, fun W' _ => ?_, ?_, fun _ _ _ _ _ _ h _ => h, fun _ _ _ _ _ _ _ _ h _ => h, fun _ _ _ _ _ _ _ h _ => h⟩
    · refine (Swap_un 0 a.lo a.hi a.fr a.tt W').mono ?_
      rintro e w' ⟨rfl, hB⟩
      exact ⟨none, 0, 0, 1, rfl, fun _ => ⟨rfl, rfl, rfl, rfl⟩, hB⟩
    · refine (Set_un 0 a.lo a.hi a.tt W').mono ?_
      rintro e w' ⟨rfl, hB⟩
      exact ⟨none, 0, 1, rfl, fun _ => ⟨rfl, rfl, rfl, rfl⟩, hB⟩
    · refine (RSwap_un 0 a.lo a.hi a.fr a.tt (!a.sw) none 0 0 W' (by decide)).mono ?_
      rintro e w' ⟨rfl, hB⟩
      exact ⟨0, none, 0, 0, 0, 1, rfl, ⟨rfl, rfl, rfl, rfl⟩, hB⟩
    · rintro B q s2 n2 e2 s' v' k e W1 ⟨rfl, rfl, rfl, rfl⟩ ⟨rfl, rfl, rfl, rfl⟩
      exact ⟨rfl, fun _ => rfl, fun _ => ⟨rfl, rfl⟩, fun h => absurd h (by decide)⟩
  · have hcan := h1.can
    obtain ⟨K, hK, hk⟩ := hcan
    have e := hK.same h2
    subst e
    have HI := Lib.hid h1
    refine ⟨CodeU f s a, fun B => DocU f s a K B, fun W' hW => ?_, fun W' hW => ?_, fun W' hW => ?_, fun B q s2 n2 e2 s' v' k e W1 hc hd => agree_of hc hd hK, fun _ _ _ _ _ _ h hb => h.below hb, fun _ _ _ _ _ _ _ _ h h22 => h.set h22, fun _ _ _ _ _ _ _ h hb => h.below hb⟩
    · refine (Swap_any (h1.below hW)).mono ?_
      rintro e w' ⟨q, s2, n2, e2, rfl, hu, hn, hB⟩
      refine ⟨q, s2, n2, e2, rfl, fun hs => ?_, hB⟩
      obtain ⟨sw, lo, hi, fr, tt⟩ := a
      cases hs
      exact ⟨hu.out, fun _ => hn.out⟩
    · refine (Set_any (h1.below hW)).mono ?_
      rintro e w' ⟨q, s2, e2, rfl, hu, hB⟩
      refine ⟨q, s2, e2, rfl, fun hs => ?_, hB⟩
      obtain ⟨sw, lo, hi, fr, tt⟩ := a
      cases hs
      exact ⟨hu.out, fun h => by cases h⟩
    · refine (RSwap_all a (h3.below hW) hK h1.ctx h1.lo hk).mono ?_
      rintro e w' ⟨s', v', n, e2, rfl, hd, hB⟩
      obtain ⟨b', n', c', rfl⟩ := hd.out.shape
      exact ⟨s', b', n', c', n, e2, rfl, hd, hB⟩
/-- the boxes that do lays -/
theorem boxes_do (W : World) (x0 x1 y0 y1 : Value) (zs : List Value) (hz : zs.length ≤ 22) (T1 T2 T3 : TypeId) : ∃ w0, w0 = ((((W.alloc (.cells #[x0, x1] T1)).alloc (.cells #[y0, y1] T2)).alloc (.cells zs.toArray T3)).alloc (.cells #[.pointer none, .int .i64 0] T1)).alloc (.cells #[.int .i64 0, .slice none 0 0] T2) ∧
    Bx W.heap.size [x0, x1] w0 ∧ Bx (W.heap.size + 1) [y0, y1] w0 ∧ Bx (W.heap.size + 1 + 1) zs w0 ∧ Bx (W.heap.size + 1 + 1 + 1) [.pointer none, .int .i64 0] w0 ∧ Bx (W.heap.size + 1 + 1 + 1 + 1) [.int .i64 0, .slice none 0 0] w0 ∧ Below W.heap.size W w0 ∧ w0.heap.size = W.heap.size + 5 := by
  have al : ∀ (X : World) (o : Obj), Below X.heap.size X (X.alloc o) := fun X o => (Below.refl _ _).alloc (Nat.le_refl _) _
  obtain ⟨w1, e1⟩ : ∃ w1, w1 = W.alloc (.cells #[x0, x1] T1) := ⟨_, rfl⟩
  obtain ⟨w2, e2⟩ : ∃ w2, w2 = w1.alloc (.cells #[y0, y1] T2) := ⟨_, rfl⟩
  obtain ⟨w3, e3⟩ : ∃ w3, w3 = w2.alloc (.cells zs.toArray T3) := ⟨_, rfl⟩
  obtain ⟨w4, e4⟩ : ∃ w4, w4 = w3.alloc (.cells #[.pointer none, .int .i64 0] T1) := ⟨_, rfl⟩
  obtain ⟨w5, e5⟩ : ∃ w5, w5 = w4.alloc (.cells #[.int .i64 0, .slice none 0 0] T2) := ⟨_, rfl⟩
  have s1 : w1.heap.size = W.heap.size + 1 := by rw [e1]; simp
  have s2 : w2.heap.size = W.heap.size + 1 + 1 := by rw [e2]; simp [s1]
  have s3 : w3.heap.size = W.heap.size + 1 + 1 + 1 := by rw [e3]; simp [s2]
  have s4 : w4.heap.size = W.heap.size + 1 + 1 + 1 + 1 := by rw [e4]; simp [s3]
  have s5 : w5.heap.size = W.heap.size + 1 + 1 + 1 + 1 + 1 := by rw [e5]; simp [s4]
  have a1 : Below W.heap.size W w1 := by rw [e1]; exact al _ _
  have a2 : Below w1.heap.size w1 w2 := by rw [e2]; exact al _ _
  have a3 : Below w2.heap.size w2 w3 := by rw [e3]; exact al _ _
  have a4 : Below w3.heap.size w3 w4 := by rw [e4]; exact al _ _
  have a5 : Below w4.heap.size w4 w5 := by rw [e5]; exact al _ _
  have n1 : Bx W.heap.size [x0, x1] w1 := by rw [e1]; exact Bx.new W [x0, x1] T1 (by simp)
  have n2 : Bx w1.heap.size [y0, y1] w2 := by rw [e2]; exact Bx.new w1 [y0, y1] T2 (by simp)
  have n3 : Bx w2.heap.size zs w3 := by rw [e3]; exact Bx.new w2 zs T3 hz
  have n4 : Bx w3.heap.size [.pointer none, .int .i64 0] w4 := by rw [e4]; exact Bx.new w3 [.pointer none, .int .i64 0] T1 (by simp)
  have n5 : Bx w4.heap.size [.int .i64 0, .slice none 0 0] w5 := by rw [e5]; exact Bx.new w4 [.int .i64 0, .slice none 0 0] T2 (by simp)
  rw [s1] at n2; rw [s2] at n3; rw [s3] at n4; rw [s4] at n5
  have a45 := a4.trans (a5.mono a4.size)
  have a35 := a3.trans (a45.mono a3.size)
  have a25 := a2.trans (a35.mono a2.size)
  rw [← e1, ← e2, ← e3, ← e4, ← e5]
  exact ⟨w5, rfl, n1.next a25, n2.next a35, n3.next a45, n4.next a5, n5, a1.trans (a25.mono a1.size), s5⟩

set_option maxRecDepth 100000 in
set_option maxHeartbeats 4000000 in
theorem do_true (lo hi fr tt : Int) {base : Nat} {W : World} {p : Option Addr} {size s : Int} {v : Value} (h : Dual base W p size s v) (hbase : base ≤ W.heap.size) :
    Calls Try.prog 16 #[.agg #[.pointer p, .int .i64 size], .agg #[.int .i64 s, v], .agg #[.bool true, .int .i64 lo, .int .i64 hi, .int .i64 fr, .int .i64 tt]] W fun e w' => ∃ p' s' v', e = .returned (.tuple #[.agg #[.pointer p', .int .i64 size], .agg #[.int .i64 s', v'], .bool true]) ∧ Hid (Dual base w' p' size s' v') ∧ Below W.heap.size W w' := by
  obtain ⟨CX, DX, HS, HT, HD, HAG, HCB, HCS, HDB⟩ := do_parts ⟨true, lo, hi, fr, tt⟩ h
  simp only at HS HT HD HAG
  obtain ⟨va, vn, vc, rfl⟩ := h.shape
  obtain ⟨w0, HW, n1, n2, n3, n4, n5, hb, hs0⟩ := boxes_do W (.pointer p) (.int .i64 size) (.int .i64 s) (.slice va vn vc) [.bool true, .int .i64 lo, .int .i64 hi, .int .i64 fr, .int .i64 tt] (by simp) 27 33 42
  obtain ⟨w1, HW1⟩ : ∃ w1, w1 = w0.alloc (.cells #[.pointer p, .int .i64 size] 27) := ⟨_, rfl⟩
  have b1 : Below w0.heap.size w0 w1 := by rw [HW1]; exact (Below.refl _ _).alloc (Nat.le_refl _) _
  have n6 : Bx w0.heap.size [.pointer p, .int .i64 size] w1 := by rw [HW1]; exact Bx.new w0 [.pointer p, .int .i64 size] 27 (by simp)
  have HDU := Lib.hid h
  have HBASE := Lib.hid hbase
  clear hbase
  have H1 := Lib.hid (n1.next b1); have H2 := Lib.hid (n2.next b1); have H3 := Lib.hid (n3.next b1); have H4 := Lib.hid (n4.next b1); have H5 := Lib.hid (n5.next b1); have H6 := Lib.hid n6
  have HB := Lib.hid (hb.trans (b1.mono hb.size))
  have HS0 := Lib.hid hs0
  have HW' := Lib.hid HW; have HW1' := Lib.hid HW1
  obtain ⟨a0, a1, -, -⟩ := n1.c2
  clear h HW HW1 n2 n3 n4 n5 n6 b1 hb hs0 n1
  go_enter Try.func16, Try.ntmps16
  go_upto_region 2 with fail
  rw [← HW'.out]
  go_upto_region 3 with fail
  rw [← HW1'.out]
  clear a0 a1
  obtain ⟨a0, a1, -, -⟩ := H1.out.c2
  have k0 := (H3.out.c 0 _ rfl).1; have k1 := (H3.out.c 1 _ rfl).1; have k2 := (H3.out.c 2 _ rfl).1; have k3 := (H3.out.c 3 _ rfl).1; have k4 := (H3.out.c 4 _ rfl).1
  go_wp2_with fail
  refine (HS.out _ HB.out).mono ?_
  rintro e w2 ⟨q, s2, n2, e2, rfl, hcx, hb⟩
  have HCX := Lib.hid (hcx.out (by trivial))
  have G1 := Lib.hid (H1.out.next hb); have G2 := Lib.hid (H2.out.next hb); have G3 := Lib.hid (H3.out.next hb); have G4 := Lib.hid (H4.out.next hb); have G5 := Lib.hid (H5.out.next hb); have G6 := Lib.hid (H6.out.next hb)
  have HB2 := Lib.hid (HB.out.trans (hb.mono HB.out.size))
  obtain ⟨-, -, f0, f1⟩ := G6.out.c2
  obtain ⟨b0, b1, -, -⟩ := G6.out.c2
  clear hb hcx a0 a1 k0 k1 k2 k3 k4 HS HT
  go_upto_region 6 with fail
  obtain ⟨w3, HW3⟩ : ∃ w3, w3 = (w2.setCell ⟨w0.heap.size, 0, none⟩ (.pointer q)).setCell ⟨w0.heap.size, 1, none⟩ (.int .i64 s2) := ⟨_, rfl⟩
  rw [← HW3]
  have hs0 := HS0.out
  have HCX3 : Hid (CX q s2 n2 e2 w3) := by
    rw [HW3]
    exact HCS.out _ _ _ _ _ _ _ _ (HCS.out _ _ _ _ _ _ _ _ HCX.out G6.out.c22) (G6.out.put (i := 0) (by simp) (by decide) _).c22
  have F1 : Hid (Bx W.heap.size [.pointer p, .int .i64 size] w3) := by rw [HW3]; exact (G1.out.other (by omega) _).other (by omega) _
  have F2 : Hid (Bx (W.heap.size + 1) [.int .i64 s, .slice va vn vc] w3) := by rw [HW3]; exact (G2.out.other (by omega) _).other (by omega) _
  have F3 : Hid (Bx (W.heap.size + 1 + 1) [.bool true, .int .i64 lo, .int .i64 hi, .int .i64 fr, .int .i64 tt] w3) := by rw [HW3]; exact (G3.out.other (by omega) _).other (by omega) _
  have F4 : Hid (Bx (W.heap.size + 1 + 1 + 1) [.pointer none, .int .i64 0] w3) := by rw [HW3]; exact (G4.out.other (by omega) _).other (by omega) _
  have F5 : Hid (Bx (W.heap.size + 1 + 1 + 1 + 1) [.int .i64 0, .slice none 0 0] w3) := by rw [HW3]; exact (G5.out.other (by omega) _).other (by omega) _
  have F6 : Hid (Bx w0.heap.size [.pointer q, .int .i64 s2] w3) := by rw [HW3]; exact G6.out.two _ _
  have HB3 : Hid (Below W.heap.size W w3) := by rw [HW3]; exact below_put HB2.out (by omega) _ _
  clear HW3 G1 G2 G3 G4 G5 G6 H1 H2 H3 H4 H5 H6 f0 f1 b0 b1 hs0 HCX HB HB2
  obtain ⟨a0, a1, -, -⟩ := F2.out.c2
  have k0 := (F3.out.c 0 _ rfl).1; have k1 := (F3.out.c 1 _ rfl).1; have k2 := (F3.out.c 2 _ rfl).1; have k3 := (F3.out.c 3 _ rfl).1; have k4 := (F3.out.c 4 _ rfl).1
  go_wp2_with fail
  refine (HD.out _ HB3.out).mono ?_
  rintro e w4 ⟨s', b', n', c', k, e', rfl, hdx, hb⟩
  obtain ⟨w5, HW5⟩ : ∃ w5, w5 = w4.alloc (.cells #[.int .i64 s', .slice b' n' c'] 33) := ⟨_, rfl⟩
  have b5 : Below w4.heap.size w4 w5 := by rw [HW5]; exact (Below.refl _ _).alloc (Nat.le_refl _) _
  have n7 : Bx w4.heap.size [.int .i64 s', .slice b' n' c'] w5 := by rw [HW5]; exact Bx.new w4 [.int .i64 s', .slice b' n' c'] 33 (by simp)
  have b45 := hb.trans (b5.mono hb.size)
  have HGE : Hid (w0.heap.size < w3.heap.size ∧ w3.heap.size ≤ w4.heap.size ∧ w0.heap.size = W.heap.size + 5) := ⟨F6.out.lt, hb.size, HS0.out⟩
  have G1 := Lib.hid (F1.out.next b45); have G2 := Lib.hid (F2.out.next b45); have G3 := Lib.hid (F3.out.next b45); have G4 := Lib.hid (F4.out.next b45); have G5 := Lib.hid (F5.out.next b45); have G6 := Lib.hid (F6.out.next b45)
  have G7 := Lib.hid n7
  have HB5 := Lib.hid (HB3.out.trans (b45.mono HB3.out.size))
  have hag := HAG.out _ _ _ _ _ _ _ _ _ _ (HCB.out _ _ _ _ _ _ HCX3.out b45) (HDB.out _ _ _ _ _ _ _ hdx.out b5)
  have HW5' := Lib.hid HW5
  obtain ⟨rfl, hnk, hz, hd⟩ := hag
  have HZ := Lib.hid hz; have HDD := Lib.hid hd
  clear HW5 hb hdx b5 n7 b45 hz hd F1 F2 F3 F4 F5 F6 HCX3 HB3 a0 a1 k0 k1 k2 k3 k4 HAG HCB HCS HDB HD
  have hnk := hnk rfl
  subst hnk
  have k0 := (G3.out.c 0 _ rfl).1
  obtain ⟨m0, m1, -, -⟩ := G1.out.c2
  obtain ⟨r0, r1, -, -⟩ := G2.out.c2
  obtain ⟨x0, x1, x2, x3⟩ := G4.out.c2
  obtain ⟨y0, y1, y2, y3⟩ := G5.out.c2
  obtain ⟨p0, p1, -, -⟩ := G6.out.c2
  obtain ⟨q0, q1, -, -⟩ := G7.out.c2
  go_upto_region 7 with fail
  rw [← HW5'.out]
  by_cases he : e2 = 0
  · subst he
    obtain ⟨hdd, rfl⟩ := HDD.out rfl
    have HDD2 := Lib.hid hdd
    clear hdd
    have HP : Hid (∀ q0 q1 r0 r1, Below W.heap.size W ((((w5.setCell ⟨W.heap.size + 1 + 1 + 1, 0, none⟩ q0).setCell ⟨W.heap.size + 1 + 1 + 1, 1, none⟩ q1).setCell ⟨W.heap.size + 1 + 1 + 1 + 1, 0, none⟩ r0).setCell ⟨W.heap.size + 1 + 1 + 1 + 1, 1, none⟩ r1)) := fun q0 q1 r0 r1 => below_put (below_put HB5.out (by omega) _ _) (by omega) _ _
    have HE1 : Hid (∀ q0 q1 r0 r1, Bx (W.heap.size + 1 + 1 + 1) [q0, q1] ((((w5.setCell ⟨W.heap.size + 1 + 1 + 1, 0, none⟩ q0).setCell ⟨W.heap.size + 1 + 1 + 1, 1, none⟩ q1).setCell ⟨W.heap.size + 1 + 1 + 1 + 1, 0, none⟩ r0).setCell ⟨W.heap.size + 1 + 1 + 1 + 1, 1, none⟩ r1)) := fun q0 q1 r0 r1 => ((G4.out.two _ _).other (by omega) _).other (by omega) _
    have HE2 : Hid (∀ q0 q1 r0 r1, Bx (W.heap.size + 1 + 1 + 1 + 1) [r0, r1] ((((w5.setCell ⟨W.heap.size + 1 + 1 + 1, 0, none⟩ q0).setCell ⟨W.heap.size + 1 + 1 + 1, 1, none⟩ q1).setCell ⟨W.heap.size + 1 + 1 + 1 + 1, 0, none⟩ r0).setCell ⟨W.heap.size + 1 + 1 + 1 + 1, 1, none⟩ r1)) := fun q0 q1 r0 r1 => (((G5.out.other (by omega) _).other (by omega) _)).two _ _
    have hge := HGE.out
    have HY1 : Hid (Bx w4.heap.size [.int .i64 s', .slice b' n' c'] ((w5.setCell ⟨W.heap.size + 1 + 1 + 1, 0, none⟩ (.pointer q)).setCell ⟨W.heap.size + 1 + 1 + 1, 1, none⟩ (.int .i64 s2))) := (G7.out.other (by omega) _).other (by omega) _
    have HY2 : Hid (Bx (W.heap.size + 1 + 1 + 1 + 1) [.int .i64 0, .slice none 0 0] ((w5.setCell ⟨W.heap.size + 1 + 1 + 1, 0, none⟩ (.pointer q)).setCell ⟨W.heap.size + 1 + 1 + 1, 1, none⟩ (.int .i64 s2))) := (G5.out.other (by omega) _).other (by omega) _
    obtain ⟨z0, z1, -, -⟩ := HY1.out.c2
    obtain ⟨z2, z3, z4, z5⟩ := HY2.out.c2
    clear HDD HZ HW' HW1' HW5' hge m0 m1 r0 r1
    go_wp2_with fail
    go_region
    all_goals
      go_wp2_with fail
      obtain ⟨u0, u1, -, -⟩ := (HE1.out (.pointer q) (.int .i64 s2) (.int .i64 s') (.slice b' n' c')).c2
      obtain ⟨u2, u3, -, -⟩ := (HE2.out (.pointer q) (.int .i64 s2) (.int .i64 s') (.slice b' n' c')).c2
      have hge := HGE.out
      have HFD : Hid (Dual base ((((w5.setCell ⟨W.heap.size + 1 + 1 + 1, 0, none⟩ (.pointer q)).setCell ⟨W.heap.size + 1 + 1 + 1, 1, none⟩ (.int .i64 s2)).setCell ⟨W.heap.size + 1 + 1 + 1 + 1, 0, none⟩ (.int .i64 s')).setCell ⟨W.heap.size + 1 + 1 + 1 + 1, 1, none⟩ (.slice b' n' c')) q s2 s' (.slice b' n' c')) :=
        ((((HDD2.out.set (by omega) G4.out.c22 0 _).set (by omega) (G4.out.put (i := 0) (by simp) (by decide) _).c22 1 _).set (by omega) HY2.out.c22 0 _).set (by omega) (HY2.out.put (i := 0) (by simp) (by decide) _).c22 1 _).mono (by have := HBASE.out; omega)
      have HFP := Lib.hid (HP.out (.pointer q) (.int .i64 s2) (.int .i64 s') (.slice b' n' c'))
      refine bodyPost_ret (v := .tuple #[.agg #[.pointer q, .int .i64 s2], .agg #[.int .i64 s', .slice b' n' c'], .bool true]) (by simp [results, Try.results16, go_sem, u0, u1, u2, u3]) rfl ?_
      exact ⟨q, s', _, rfl, HFD.out.below (Below.refl _ _).drew, HFP.out.drew⟩
  · obtain ⟨rfl, rfl⟩ := HZ.out he
    have hne : (e2 == 0) = false := beq_eq_false_iff_ne.2 he
    have HSM : Hid (∀ W', Calls Try.prog 15 #[.agg #[.pointer none, .int .i64 0], .agg #[.int .i64 0, .slice none 0 0]] W' fun e w' => e = .returned (.bool true) ∧ Hid (Below W'.heap.size W' w')) := fun W' => same_un W'
    have HALL : Hid (∀ W', Below w5.heap.size w5 W' → W'.cell? ⟨W.heap.size, 0, none⟩ = some (.pointer p) ∧ W'.cell? ⟨W.heap.size, 1, none⟩ = some (.int .i64 size) ∧ W'.cell? ⟨W.heap.size + 1, 0, none⟩ = some (.int .i64 s) ∧ W'.cell? ⟨W.heap.size + 1, 1, none⟩ = some (.slice va vn vc) ∧ W'.cell? ⟨w0.heap.size, 0, none⟩ = some (.pointer none) ∧ W'.cell? ⟨w0.heap.size, 1, none⟩ = some (.int .i64 0)) := fun W' h => ⟨(G1.out.next h).c2.1, (G1.out.next h).c2.2.1, (G2.out.next h).c2.1, (G2.out.next h).c2.2.1, (G6.out.next h).c2.1, (G6.out.next h).c2.2.1⟩
    have HSM2 : Hid (∀ W', Below w5.heap.size w5 W' → Calls Try.prog 15 #[.agg #[.pointer none, .int .i64 0], .agg #[.int .i64 0, .slice none 0 0]] W' fun e w' => e = .returned (.bool true) ∧ Below w5.heap.size w5 w') := fun W' h => (same_un W').mono fun e w' ⟨he, hB⟩ => ⟨he, h.trans (hB.out.mono h.size)⟩
    have hge := HGE.out
    have HST1 : Hid (∀ W' u v, Below w5.heap.size w5 W' → ((W'.setCell ⟨W.heap.size + 1 + 1 + 1, 0, none⟩ u).setCell ⟨W.heap.size + 1 + 1 + 1, 1, none⟩ v).cell? ⟨W.heap.size, 0, none⟩ = some (.pointer p) ∧ ((W'.setCell ⟨W.heap.size + 1 + 1 + 1, 0, none⟩ u).setCell ⟨W.heap.size + 1 + 1 + 1, 1, none⟩ v).cell? ⟨W.heap.size, 1, none⟩ = some (.int .i64 size) ∧ ((W'.setCell ⟨W.heap.size + 1 + 1 + 1, 0, none⟩ u).setCell ⟨W.heap.size + 1 + 1 + 1, 1, none⟩ v).cell? ⟨W.heap.size + 1, 0, none⟩ = some (.int .i64 s) ∧ ((W'.setCell ⟨W.heap.size + 1 + 1 + 1, 0, none⟩ u).setCell ⟨W.heap.size + 1 + 1 + 1, 1, none⟩ v).cell? ⟨W.heap.size + 1, 1, none⟩ = some (.slice va vn vc) ∧ ((W'.setCell ⟨W.heap.size + 1 + 1 + 1, 0, none⟩ u).setCell ⟨W.heap.size + 1 + 1 + 1, 1, none⟩ v).cell? ⟨w0.heap.size, 0, none⟩ = some (.pointer none) ∧ ((W'.setCell ⟨W.heap.size + 1 + 1 + 1, 0, none⟩ u).setCell ⟨W.heap.size + 1 + 1 + 1, 1, none⟩ v).cell? ⟨w0.heap.size, 1, none⟩ = some (.int .i64 0)) := fun W' u v h => ⟨(Bx.other (Bx.other (G1.out.next h) (by omega) _) (by omega) _).c2.1, (Bx.other (Bx.other (G1.out.next h) (by omega) _) (by omega) _).c2.2.1, (Bx.other (Bx.other (G2.out.next h) (by omega) _) (by omega) _).c2.1, (Bx.other (Bx.other (G2.out.next h) (by omega) _) (by omega) _).c2.2.1, (Bx.other (Bx.other (G6.out.next h) (by omega) _) (by omega) _).c2.1, (Bx.other (Bx.other (G6.out.next h) (by omega) _) (by omega) _).c2.2.1⟩
    have HST2 : Hid (∀ W' u v x y, Below w5.heap.size w5 W' → ((((W'.setCell ⟨W.heap.size + 1 + 1 + 1, 0, none⟩ u).setCell ⟨W.heap.size + 1 + 1 + 1, 1, none⟩ v).setCell ⟨W.heap.size + 1 + 1 + 1 + 1, 0, none⟩ x).setCell ⟨W.heap.size + 1 + 1 + 1 + 1, 1, none⟩ y).cell? ⟨W.heap.size, 0, none⟩ = some (.pointer p) ∧ ((((W'.setCell ⟨W.heap.size + 1 + 1 + 1, 0, none⟩ u).setCell ⟨W.heap.size + 1 + 1 + 1, 1, none⟩ v).setCell ⟨W.heap.size + 1 + 1 + 1 + 1, 0, none⟩ x).setCell ⟨W.heap.size + 1 + 1 + 1 + 1, 1, none⟩ y).cell? ⟨W.heap.size, 1, none⟩ = some (.int .i64 size) ∧ ((((W'.setCell ⟨W.heap.size + 1 + 1 + 1, 0, none⟩ u).setCell ⟨W.heap.size + 1 + 1 + 1, 1, none⟩ v).setCell ⟨W.heap.size + 1 + 1 + 1 + 1, 0, none⟩ x).setCell ⟨W.heap.size + 1 + 1 + 1 + 1, 1, none⟩ y).cell? ⟨W.heap.size + 1, 0, none⟩ = some (.int .i64 s) ∧ ((((W'.setCell ⟨W.heap.size + 1 + 1 + 1, 0, none⟩ u).setCell ⟨W.heap.size + 1 + 1 + 1, 1, none⟩ v).setCell ⟨W.heap.size + 1 + 1 + 1 + 1, 0, none⟩ x).setCell ⟨W.heap.size + 1 + 1 + 1 + 1, 1, none⟩ y).cell? ⟨W.heap.size + 1, 1, none⟩ = some (.slice va vn vc) ∧ ((((W'.setCell ⟨W.heap.size + 1 + 1 + 1, 0, none⟩ u).setCell ⟨W.heap.size + 1 + 1 + 1, 1, none⟩ v).setCell ⟨W.heap.size + 1 + 1 + 1 + 1, 0, none⟩ x).setCell ⟨W.heap.size + 1 + 1 + 1 + 1, 1, none⟩ y).cell? ⟨w0.heap.size, 0, none⟩ = some (.pointer none) ∧ ((((W'.setCell ⟨W.heap.size + 1 + 1 + 1, 0, none⟩ u).setCell ⟨W.heap.size + 1 + 1 + 1, 1, none⟩ v).setCell ⟨W.heap.size + 1 + 1 + 1 + 1, 0, none⟩ x).setCell ⟨W.heap.size + 1 + 1 + 1 + 1, 1, none⟩ y).cell? ⟨w0.heap.size, 1, none⟩ = some (.int .i64 0)) := fun W' u v x y h => ⟨(Bx.other (Bx.other (Bx.other (Bx.other (G1.out.next h) (by omega) _) (by omega) _) (by omega) _) (by omega) _).c2.1, (Bx.other (Bx.other (Bx.other (Bx.other (G1.out.next h) (by omega) _) (by omega) _) (by omega) _) (by omega) _).c2.2.1, (Bx.other (Bx.other (Bx.other (Bx.other (G2.out.next h) (by omega) _) (by omega) _) (by omega) _) (by omega) _).c2.1, (Bx.other (Bx.other (Bx.other (Bx.other (G2.out.next h) (by omega) _) (by omega) _) (by omega) _) (by omega) _).c2.2.1, (Bx.other (Bx.other (Bx.other (Bx.other (G6.out.next h) (by omega) _) (by omega) _) (by omega) _) (by omega) _).c2.1, (Bx.other (Bx.other (Bx.other (Bx.other (G6.out.next h) (by omega) _) (by omega) _) (by omega) _) (by omega) _).c2.2.1⟩
    have HR4 : Hid (∀ W', Below w5.heap.size w5 W' → Bx (W.heap.size + 1 + 1 + 1) [.pointer none, .int .i64 0] W') := fun W' h => G4.out.next h
    have HR5 : Hid (∀ W' u v, Below w5.heap.size w5 W' → Bx (W.heap.size + 1 + 1 + 1 + 1) [.int .i64 0, .slice none 0 0] ((W'.setCell ⟨W.heap.size + 1 + 1 + 1, 0, none⟩ u).setCell ⟨W.heap.size + 1 + 1 + 1, 1, none⟩ v)) := fun W' u v h => (Bx.other (Bx.other (G5.out.next h) (by omega) _) (by omega) _)
    clear hge
    have hs : Below w5.heap.size w5 w5 := Below.refl _ _
    have hs2 := hs.drew
    have hcl := HALL.out _ hs2
    have hc0 := HALL.out _ hs
    go_wp2_with fail
    go_region_held3 (fun W' : World => W'.cell? ⟨W.heap.size, 0, none⟩ = some (.pointer p) ∧ W'.cell? ⟨W.heap.size, 1, none⟩ = some (.int .i64 size) ∧ W'.cell? ⟨W.heap.size + 1, 0, none⟩ = some (.int .i64 s) ∧ W'.cell? ⟨W.heap.size + 1, 1, none⟩ = some (.slice va vn vc) ∧ W'.cell? ⟨w0.heap.size, 0, none⟩ = some (.pointer none) ∧ W'.cell? ⟨w0.heap.size, 1, none⟩ = some (.int .i64 0)) (first | assumption | (with_reducible exact HST1.out _ _ _ (by assumption)) | (with_reducible exact HST2.out _ _ _ _ _ (by assumption)) | fail) (first
      | (go_at_call 15; with_reducible refine (HSM2.out _ ?h).mono ?_; (case h => assumption); rintro e w' ⟨rfl, hs1'⟩; have hc1' := HALL.out _ hs1'; obtain ⟨x0, x1, x2, x3⟩ := (HR4.out _ hs1').c2; obtain ⟨y0, y1, y2, y3⟩ := (HR5.out _ (.pointer p) (.int .i64 size) hs1').c2) | fail)
    all_goals
      have HFP := Lib.hid (below_put (below_put (HB5.out.trans (hs1'.mono HB5.out.size)) (B := W.heap.size + 1 + 1 + 1) (by omega) (.pointer p) (.int .i64 size)) (B := W.heap.size + 1 + 1 + 1 + 1) (by omega) (.int .i64 s) (.slice va vn vc))
      obtain ⟨u0, u1, -, -⟩ := (((HR4.out _ hs1').two (.pointer p) (.int .i64 size)).other (X := W.heap.size + 1 + 1 + 1 + 1) (i := 0) (by omega) (.int .i64 s)).other (X := W.heap.size + 1 + 1 + 1 + 1) (i := 1) (by omega) (.slice va vn vc) |>.c2
      obtain ⟨u2, u3, -, -⟩ := ((HR5.out _ (.pointer p) (.int .i64 size) hs1').two (.int .i64 s) (.slice va vn vc)).c2
      clear hs hs2 hcl hc0 hc1' x0 x1 x2 x3 y0 y1 y2 y3 hs1'
      go_wp2_with fail
      refine bodyPost_ret (v := .tuple #[.agg #[.pointer p, .int .i64 size], .agg #[.int .i64 s, .slice va vn vc], .bool true]) (by simp [results, Try.results16, go_sem, u0, u1, u2, u3]) rfl ?_
      exact ⟨p, s, _, rfl, HDU.out.below HFP.out, HFP.out⟩
set_option maxRecDepth 100000 in
set_option maxHeartbeats 4000000 in
theorem do_false (lo hi fr tt : Int) {base : Nat} {W : World} {p : Option Addr} {size s : Int} {v : Value} (h : Dual base W p size s v) (hbase : base ≤ W.heap.size) :
    Calls Try.prog 16 #[.agg #[.pointer p, .int .i64 size], .agg #[.int .i64 s, v], .agg #[.bool false, .int .i64 lo, .int .i64 hi, .int .i64 fr, .int .i64 tt]] W fun e w' => ∃ p' s' v', e = .returned (.tuple #[.agg #[.pointer p', .int .i64 size], .agg #[.int .i64 s', v'], .bool true]) ∧ Hid (Dual base w' p' size s' v') ∧ Below W.heap.size W w' := by
  obtain ⟨CX, DX, HS, HT, HD, HAG, HCB, HCS, HDB⟩ := do_parts ⟨false, lo, hi, fr, tt⟩ h
  simp only at HS HT HD HAG
  obtain ⟨va, vn, vc, rfl⟩ := h.shape
  obtain ⟨w0, HW, n1, n2, n3, n4, n5, hb, hs0⟩ := boxes_do W (.pointer p) (.int .i64 size) (.int .i64 s) (.slice va vn vc) [.bool false, .int .i64 lo, .int .i64 hi, .int .i64 fr, .int .i64 tt] (by simp) 27 33 42
  obtain ⟨w1, HW1⟩ : ∃ w1, w1 = w0.alloc (.cells #[.pointer p, .int .i64 size] 27) := ⟨_, rfl⟩
  have b1 : Below w0.heap.size w0 w1 := by rw [HW1]; exact (Below.refl _ _).alloc (Nat.le_refl _) _
  have n6 : Bx w0.heap.size [.pointer p, .int .i64 size] w1 := by rw [HW1]; exact Bx.new w0 [.pointer p, .int .i64 size] 27 (by simp)
  have HDU := Lib.hid h
  have HBASE := Lib.hid hbase
  clear hbase
  have H1 := Lib.hid (n1.next b1); have H2 := Lib.hid (n2.next b1); have H3 := Lib.hid (n3.next b1); have H4 := Lib.hid (n4.next b1); have H5 := Lib.hid (n5.next b1); have H6 := Lib.hid n6
  have HB := Lib.hid (hb.trans (b1.mono hb.size))
  have HS0 := Lib.hid hs0
  have HW' := Lib.hid HW; have HW1' := Lib.hid HW1
  obtain ⟨a0, a1, -, -⟩ := n1.c2
  clear h HW HW1 n2 n3 n4 n5 n6 b1 hb hs0 n1
  go_enter Try.func16, Try.ntmps16
  go_upto_region 2 with fail
  rw [← HW'.out]
  go_upto_region 3 with fail
  rw [← HW1'.out]
  clear a0 a1
  obtain ⟨a0, a1, -, -⟩ := H1.out.c2
  have k0 := (H3.out.c 0 _ rfl).1; have k1 := (H3.out.c 1 _ rfl).1; have k2 := (H3.out.c 2 _ rfl).1; have k3 := (H3.out.c 3 _ rfl).1; have k4 := (H3.out.c 4 _ rfl).1
  go_wp2_with fail
  refine (HT.out _ HB.out).mono ?_
  rintro e w2 ⟨q, s2, e2, rfl, hcx, hb⟩
  obtain ⟨n2, hn2⟩ : ∃ n2 : Int, n2 = 0 := ⟨_, rfl⟩
  rw [← hn2] at hcx
  have HN2 := Lib.hid hn2
  clear hn2
  have HCX := Lib.hid (hcx.out (by trivial))
  have G1 := Lib.hid (H1.out.next hb); have G2 := Lib.hid (H2.out.next hb); have G3 := Lib.hid (H3.out.next hb); have G4 := Lib.hid (H4.out.next hb); have G5 := Lib.hid (H5.out.next hb); have G6 := Lib.hid (H6.out.next hb)
  have HB2 := Lib.hid (HB.out.trans (hb.mono HB.out.size))
  obtain ⟨-, -, f0, f1⟩ := G6.out.c2
  obtain ⟨b0, b1, -, -⟩ := G6.out.c2
  clear hb hcx a0 a1 k0 k1 k2 k3 k4 HS HT
  go_upto_region 6 with fail
  obtain ⟨w3, HW3⟩ : ∃ w3, w3 = (w2.setCell ⟨w0.heap.size, 0, none⟩ (.pointer q)).setCell ⟨w0.heap.size, 1, none⟩ (.int .i64 s2) := ⟨_, rfl⟩
  rw [← HW3]
  have hs0 := HS0.out
  have HCX3 : Hid (CX q s2 n2 e2 w3) := by
    rw [HW3]
    exact HCS.out _ _ _ _ _ _ _ _ (HCS.out _ _ _ _ _ _ _ _ HCX.out G6.out.c22) (G6.out.put (i := 0) (by simp) (by decide) _).c22
  have F1 : Hid (Bx W.heap.size [.pointer p, .int .i64 size] w3) := by rw [HW3]; exact (G1.out.other (by omega) _).other (by omega) _
  have F2 : Hid (Bx (W.heap.size + 1) [.int .i64 s, .slice va vn vc] w3) := by rw [HW3]; exact (G2.out.other (by omega) _).other (by omega) _
  have F3 : Hid (Bx (W.heap.size + 1 + 1) [.bool false, .int .i64 lo, .int .i64 hi, .int .i64 fr, .int .i64 tt] w3) := by rw [HW3]; exact (G3.out.other (by omega) _).other (by omega) _
  have F4 : Hid (Bx (W.heap.size + 1 + 1 + 1) [.pointer none, .int .i64 0] w3) := by rw [HW3]; exact (G4.out.other (by omega) _).other (by omega) _
  have F5 : Hid (Bx (W.heap.size + 1 + 1 + 1 + 1) [.int .i64 0, .slice none 0 0] w3) := by rw [HW3]; exact (G5.out.other (by omega) _).other (by omega) _
  have F6 : Hid (Bx w0.heap.size [.pointer q, .int .i64 s2] w3) := by rw [HW3]; exact G6.out.two _ _
  have HB3 : Hid (Below W.heap.size W w3) := by rw [HW3]; exact below_put HB2.out (by omega) _ _
  clear HW3 G1 G2 G3 G4 G5 G6 H1 H2 H3 H4 H5 H6 f0 f1 b0 b1 hs0 HCX HB HB2
  obtain ⟨a0, a1, -, -⟩ := F2.out.c2
  have k0 := (F3.out.c 0 _ rfl).1; have k1 := (F3.out.c 1 _ rfl).1; have k2 := (F3.out.c 2 _ rfl).1; have k3 := (F3.out.c 3 _ rfl).1; have k4 := (F3.out.c 4 _ rfl).1
  go_wp2_with fail
  refine (HD.out _ HB3.out).mono ?_
  rintro e w4 ⟨s', b', n', c', k, e', rfl, hdx, hb⟩
  obtain ⟨w5, HW5⟩ : ∃ w5, w5 = w4.alloc (.cells #[.int .i64 s', .slice b' n' c'] 33) := ⟨_, rfl⟩
  have b5 : Below w4.heap.size w4 w5 := by rw [HW5]; exact (Below.refl _ _).alloc (Nat.le_refl _) _
  have n7 : Bx w4.heap.size [.int .i64 s', .slice b' n' c'] w5 := by rw [HW5]; exact Bx.new w4 [.int .i64 s', .slice b' n' c'] 33 (by simp)
  have b45 := hb.trans (b5.mono hb.size)
  have HGE : Hid (w0.heap.size < w3.heap.size ∧ w3.heap.size ≤ w4.heap.size ∧ w0.heap.size = W.heap.size + 5) := ⟨F6.out.lt, hb.size, HS0.out⟩
  have G1 := Lib.hid (F1.out.next b45); have G2 := Lib.hid (F2.out.next b45); have G3 := Lib.hid (F3.out.next b45); have G4 := Lib.hid (F4.out.next b45); have G5 := Lib.hid (F5.out.next b45); have G6 := Lib.hid (F6.out.next b45)
  have G7 := Lib.hid n7
  have HB5 := Lib.hid (HB3.out.trans (b45.mono HB3.out.size))
  have hag := HAG.out _ _ _ _ _ _ _ _ _ _ (HCB.out _ _ _ _ _ _ HCX3.out b45) (HDB.out _ _ _ _ _ _ _ hdx.out b5)
  have HW5' := Lib.hid HW5
  obtain ⟨rfl, hnk, hz, hd⟩ := hag
  have HZ := Lib.hid hz; have HDD := Lib.hid hd
  clear HW5 hb hdx b5 n7 b45 hz hd F1 F2 F3 F4 F5 F6 HCX3 HB3 a0 a1 k0 k1 k2 k3 k4 HAG HCB HCS HDB HD
  clear hnk
  have k0 := (G3.out.c 0 _ rfl).1
  obtain ⟨m0, m1, -, -⟩ := G1.out.c2
  obtain ⟨r0, r1, -, -⟩ := G2.out.c2
  obtain ⟨x0, x1, x2, x3⟩ := G4.out.c2
  obtain ⟨y0, y1, y2, y3⟩ := G5.out.c2
  obtain ⟨p0, p1, -, -⟩ := G6.out.c2
  obtain ⟨q0, q1, -, -⟩ := G7.out.c2
  go_upto_region 7 with fail
  rw [← HW5'.out]
  by_cases he : e2 = 0
  · subst he
    obtain ⟨hdd, rfl⟩ := HDD.out rfl
    have HDD2 := Lib.hid hdd
    clear hdd
    have HP : Hid (∀ q0 q1 r0 r1, Below W.heap.size W ((((w5.setCell ⟨W.heap.size + 1 + 1 + 1, 0, none⟩ q0).setCell ⟨W.heap.size + 1 + 1 + 1, 1, none⟩ q1).setCell ⟨W.heap.size + 1 + 1 + 1 + 1, 0, none⟩ r0).setCell ⟨W.heap.size + 1 + 1 + 1 + 1, 1, none⟩ r1)) := fun q0 q1 r0 r1 => below_put (below_put HB5.out (by omega) _ _) (by omega) _ _
    have HE1 : Hid (∀ q0 q1 r0 r1, Bx (W.heap.size + 1 + 1 + 1) [q0, q1] ((((w5.setCell ⟨W.heap.size + 1 + 1 + 1, 0, none⟩ q0).setCell ⟨W.heap.size + 1 + 1 + 1, 1, none⟩ q1).setCell ⟨W.heap.size + 1 + 1 + 1 + 1, 0, none⟩ r0).setCell ⟨W.heap.size + 1 + 1 + 1 + 1, 1, none⟩ r1)) := fun q0 q1 r0 r1 => ((G4.out.two _ _).other (by omega) _).other (by omega) _
    have HE2 : Hid (∀ q0 q1 r0 r1, Bx (W.heap.size + 1 + 1 + 1 + 1) [r0, r1] ((((w5.setCell ⟨W.heap.size + 1 + 1 + 1, 0, none⟩ q0).setCell ⟨W.heap.size + 1 + 1 + 1, 1, none⟩ q1).setCell ⟨W.heap.size + 1 + 1 + 1 + 1, 0, none⟩ r0).setCell ⟨W.heap.size + 1 + 1 + 1 + 1, 1, none⟩ r1)) := fun q0 q1 r0 r1 => (((G5.out.other (by omega) _).other (by omega) _)).two _ _
    have hge := HGE.out
    have HY1 : Hid (Bx w4.heap.size [.int .i64 s', .slice b' n' c'] ((w5.setCell ⟨W.heap.size + 1 + 1 + 1, 0, none⟩ (.pointer q)).setCell ⟨W.heap.size + 1 + 1 + 1, 1, none⟩ (.int .i64 s2))) := (G7.out.other (by omega) _).other (by omega) _
    have HY2 : Hid (Bx (W.heap.size + 1 + 1 + 1 + 1) [.int .i64 0, .slice none 0 0] ((w5.setCell ⟨W.heap.size + 1 + 1 + 1, 0, none⟩ (.pointer q)).setCell ⟨W.heap.size + 1 + 1 + 1, 1, none⟩ (.int .i64 s2))) := (G5.out.other (by omega) _).other (by omega) _
    obtain ⟨z0, z1, -, -⟩ := HY1.out.c2
    obtain ⟨z2, z3, z4, z5⟩ := HY2.out.c2
    clear HDD HZ HW' HW1' HW5' hge m0 m1 r0 r1
    go_wp2_with fail
    go_region
    all_goals
      go_wp2_with fail
      obtain ⟨u0, u1, -, -⟩ := (HE1.out (.pointer q) (.int .i64 s2) (.int .i64 s') (.slice b' n' c')).c2
      obtain ⟨u2, u3, -, -⟩ := (HE2.out (.pointer q) (.int .i64 s2) (.int .i64 s') (.slice b' n' c')).c2
      have hge := HGE.out
      have HFD : Hid (Dual base ((((w5.setCell ⟨W.heap.size + 1 + 1 + 1, 0, none⟩ (.pointer q)).setCell ⟨W.heap.size + 1 + 1 + 1, 1, none⟩ (.int .i64 s2)).setCell ⟨W.heap.size + 1 + 1 + 1 + 1, 0, none⟩ (.int .i64 s')).setCell ⟨W.heap.size + 1 + 1 + 1 + 1, 1, none⟩ (.slice b' n' c')) q s2 s' (.slice b' n' c')) :=
        ((((HDD2.out.set (by omega) G4.out.c22 0 _).set (by omega) (G4.out.put (i := 0) (by simp) (by decide) _).c22 1 _).set (by omega) HY2.out.c22 0 _).set (by omega) (HY2.out.put (i := 0) (by simp) (by decide) _).c22 1 _).mono (by have := HBASE.out; omega)
      have HFP := Lib.hid (HP.out (.pointer q) (.int .i64 s2) (.int .i64 s') (.slice b' n' c'))
      refine bodyPost_ret (v := .tuple #[.agg #[.pointer q, .int .i64 s2], .agg #[.int .i64 s', .slice b' n' c'], .bool true]) (by simp [results, Try.results16, go_sem, u0, u1, u2, u3]) rfl ?_
      exact ⟨q, s', _, rfl, HFD.out.below (Below.refl _ _).drew, HFP.out.drew⟩
  · obtain ⟨rfl, rfl⟩ := HZ.out he
    have hne : (e2 == 0) = false := beq_eq_false_iff_ne.2 he
    have HSM : Hid (∀ W', Calls Try.prog 15 #[.agg #[.pointer none, .int .i64 0], .agg #[.int .i64 0, .slice none 0 0]] W' fun e w' => e = .returned (.bool true) ∧ Hid (Below W'.heap.size W' w')) := fun W' => same_un W'
    have HALL : Hid (∀ W', Below w5.heap.size w5 W' → W'.cell? ⟨W.heap.size, 0, none⟩ = some (.pointer p) ∧ W'.cell? ⟨W.heap.size, 1, none⟩ = some (.int .i64 size) ∧ W'.cell? ⟨W.heap.size + 1, 0, none⟩ = some (.int .i64 s) ∧ W'.cell? ⟨W.heap.size + 1, 1, none⟩ = some (.slice va vn vc) ∧ W'.cell? ⟨w0.heap.size, 0, none⟩ = some (.pointer none) ∧ W'.cell? ⟨w0.heap.size, 1, none⟩ = some (.int .i64 0)) := fun W' h => ⟨(G1.out.next h).c2.1, (G1.out.next h).c2.2.1, (G2.out.next h).c2.1, (G2.out.next h).c2.2.1, (G6.out.next h).c2.1, (G6.out.next h).c2.2.1⟩
    have HSM2 : Hid (∀ W', Below w5.heap.size w5 W' → Calls Try.prog 15 #[.agg #[.pointer none, .int .i64 0], .agg #[.int .i64 0, .slice none 0 0]] W' fun e w' => e = .returned (.bool true) ∧ Below w5.heap.size w5 w') := fun W' h => (same_un W').mono fun e w' ⟨he, hB⟩ => ⟨he, h.trans (hB.out.mono h.size)⟩
    have hge := HGE.out
    have HST1 : Hid (∀ W' u v, Below w5.heap.size w5 W' → ((W'.setCell ⟨W.heap.size + 1 + 1 + 1, 0, none⟩ u).setCell ⟨W.heap.size + 1 + 1 + 1, 1, none⟩ v).cell? ⟨W.heap.size, 0, none⟩ = some (.pointer p) ∧ ((W'.setCell ⟨W.heap.size + 1 + 1 + 1, 0, none⟩ u).setCell ⟨W.heap.size + 1 + 1 + 1, 1, none⟩ v).cell? ⟨W.heap.size, 1, none⟩ = some (.int .i64 size) ∧ ((W'.setCell ⟨W.heap.size + 1 + 1 + 1, 0, none⟩ u).setCell ⟨W.heap.size + 1 + 1 + 1, 1, none⟩ v).cell? ⟨W.heap.size + 1, 0, none⟩ = some (.int .i64 s) ∧ ((W'.setCell ⟨W.heap.size + 1 + 1 + 1, 0, none⟩ u).setCell ⟨W.heap.size + 1 + 1 + 1, 1, none⟩ v).cell? ⟨W.heap.size + 1, 1, none⟩ = some (.slice va vn vc) ∧ ((W'.setCell ⟨W.heap.size + 1 + 1 + 1, 0, none⟩ u).setCell ⟨W.heap.size + 1 + 1 + 1, 1, none⟩ v).cell? ⟨w0.heap.size, 0, none⟩ = some (.pointer none) ∧ ((W'.setCell ⟨W.heap.size + 1 + 1 + 1, 0, none⟩ u).setCell ⟨W.heap.size + 1 + 1 + 1, 1, none⟩ v).cell? ⟨w0.heap.size, 1, none⟩ = some (.int .i64 0)) := fun W' u v h => ⟨(Bx.other (Bx.other (G1.out.next h) (by omega) _) (by omega) _).c2.1, (Bx.other (Bx.other (G1.out.next h) (by omega) _) (by omega) _).c2.2.1, (Bx.other (Bx.other (G2.out.next h) (by omega) _) (by omega) _).c2.1, (Bx.other (Bx.other (G2.out.next h) (by omega) _) (by omega) _).c2.2.1, (Bx.other (Bx.other (G6.out.next h) (by omega) _) (by omega) _).c2.1, (Bx.other (Bx.other (G6.out.next h) (by omega) _) (by omega) _).c2.2.1⟩
    have HST2 : Hid (∀ W' u v x y, Below w5.heap.size w5 W' → ((((W'.setCell ⟨W.heap.size + 1 + 1 + 1, 0, none⟩ u).setCell ⟨W.heap.size + 1 + 1 + 1, 1, none⟩ v).setCell ⟨W.heap.size + 1 + 1 + 1 + 1, 0, none⟩ x).setCell ⟨W.heap.size + 1 + 1 + 1 + 1, 1, none⟩ y).cell? ⟨W.heap.size, 0, none⟩ = some (.pointer p) ∧ ((((W'.setCell ⟨W.heap.size + 1 + 1 + 1, 0, none⟩ u).setCell ⟨W.heap.size + 1 + 1 + 1, 1, none⟩ v).setCell ⟨W.heap.size + 1 + 1 + 1 + 1, 0, none⟩ x).setCell ⟨W.heap.size + 1 + 1 + 1 + 1, 1, none⟩ y).cell? ⟨W.heap.size, 1, none⟩ = some (.int .i64 size) ∧ ((((W'.setCell ⟨W.heap.size + 1 + 1 + 1, 0, none⟩ u).setCell ⟨W.heap.size + 1 + 1 + 1, 1, none⟩ v).setCell ⟨W.heap.size + 1 + 1 + 1 + 1, 0, none⟩ x).setCell ⟨W.heap.size + 1 + 1 + 1 + 1, 1, none⟩ y).cell? ⟨W.heap.size + 1, 0, none⟩ = some (.int .i64 s) ∧ ((((W'.setCell ⟨W.heap.size + 1 + 1 + 1, 0, none⟩ u).setCell ⟨W.heap.size + 1 + 1 + 1, 1, none⟩ v).setCell ⟨W.heap.size + 1 + 1 + 1 + 1, 0, none⟩ x).setCell ⟨W.heap.size + 1 + 1 + 1 + 1, 1, none⟩ y).cell? ⟨W.heap.size + 1, 1, none⟩ = some (.slice va vn vc) ∧ ((((W'.setCell ⟨W.heap.size + 1 + 1 + 1, 0, none⟩ u).setCell ⟨W.heap.size + 1 + 1 + 1, 1, none⟩ v).setCell ⟨W.heap.size + 1 + 1 + 1 + 1, 0, none⟩ x).setCell ⟨W.heap.size + 1 + 1 + 1 + 1, 1, none⟩ y).cell? ⟨w0.heap.size, 0, none⟩ = some (.pointer none) ∧ ((((W'.setCell ⟨W.heap.size + 1 + 1 + 1, 0, none⟩ u).setCell ⟨W.heap.size + 1 + 1 + 1, 1, none⟩ v).setCell ⟨W.heap.size + 1 + 1 + 1 + 1, 0, none⟩ x).setCell ⟨W.heap.size + 1 + 1 + 1 + 1, 1, none⟩ y).cell? ⟨w0.heap.size, 1, none⟩ = some (.int .i64 0)) := fun W' u v x y h => ⟨(Bx.other (Bx.other (Bx.other (Bx.other (G1.out.next h) (by omega) _) (by omega) _) (by omega) _) (by omega) _).c2.1, (Bx.other (Bx.other (Bx.other (Bx.other (G1.out.next h) (by omega) _) (by omega) _) (by omega) _) (by omega) _).c2.2.1, (Bx.other (Bx.other (Bx.other (Bx.other (G2.out.next h) (by omega) _) (by omega) _) (by omega) _) (by omega) _).c2.1, (Bx.other (Bx.other (Bx.other (Bx.other (G2.out.next h) (by omega) _) (by omega) _) (by omega) _) (by omega) _).c2.2.1, (Bx.other (Bx.other (Bx.other (Bx.other (G6.out.next h) (by omega) _) (by omega) _) (by omega) _) (by omega) _).c2.1, (Bx.other (Bx.other (Bx.other (Bx.other (G6.out.next h) (by omega) _) (by omega) _) (by omega) _) (by omega) _).c2.2.1⟩
    have HR4 : Hid (∀ W', Below w5.heap.size w5 W' → Bx (W.heap.size + 1 + 1 + 1) [.pointer none, .int .i64 0] W') := fun W' h => G4.out.next h
    have HR5 : Hid (∀ W' u v, Below w5.heap.size w5 W' → Bx (W.heap.size + 1 + 1 + 1 + 1) [.int .i64 0, .slice none 0 0] ((W'.setCell ⟨W.heap.size + 1 + 1 + 1, 0, none⟩ u).setCell ⟨W.heap.size + 1 + 1 + 1, 1, none⟩ v)) := fun W' u v h => (Bx.other (Bx.other (G5.out.next h) (by omega) _) (by omega) _)
    clear hge
    have hs : Below w5.heap.size w5 w5 := Below.refl _ _
    have hs2 := hs.drew
    have hcl := HALL.out _ hs2
    have hc0 := HALL.out _ hs
    go_wp2_with fail
    go_region_held3 (fun W' : World => W'.cell? ⟨W.heap.size, 0, none⟩ = some (.pointer p) ∧ W'.cell? ⟨W.heap.size, 1, none⟩ = some (.int .i64 size) ∧ W'.cell? ⟨W.heap.size + 1, 0, none⟩ = some (.int .i64 s) ∧ W'.cell? ⟨W.heap.size + 1, 1, none⟩ = some (.slice va vn vc) ∧ W'.cell? ⟨w0.heap.size, 0, none⟩ = some (.pointer none) ∧ W'.cell? ⟨w0.heap.size, 1, none⟩ = some (.int .i64 0)) (first | assumption | (with_reducible exact HST1.out _ _ _ (by assumption)) | (with_reducible exact HST2.out _ _ _ _ _ (by assumption)) | fail) (first
      | (go_at_call 15; with_reducible refine (HSM2.out _ ?h).mono ?_; (case h => assumption); rintro e w' ⟨rfl, hs1'⟩; have hc1' := HALL.out _ hs1'; obtain ⟨x0, x1, x2, x3⟩ := (HR4.out _ hs1').c2; obtain ⟨y0, y1, y2, y3⟩ := (HR5.out _ (.pointer p) (.int .i64 size) hs1').c2) | fail)
    all_goals
      have HFP := Lib.hid (below_put (below_put (HB5.out.trans (hs1'.mono HB5.out.size)) (B := W.heap.size + 1 + 1 + 1) (by omega) (.pointer p) (.int .i64 size)) (B := W.heap.size + 1 + 1 + 1 + 1) (by omega) (.int .i64 s) (.slice va vn vc))
      obtain ⟨u0, u1, -, -⟩ := (((HR4.out _ hs1').two (.pointer p) (.int .i64 size)).other (X := W.heap.size + 1 + 1 + 1 + 1) (i := 0) (by omega) (.int .i64 s)).other (X := W.heap.size + 1 + 1 + 1 + 1) (i := 1) (by omega) (.slice va vn vc) |>.c2
      obtain ⟨u2, u3, -, -⟩ := ((HR5.out _ (.pointer p) (.int .i64 size) hs1').two (.int .i64 s) (.slice va vn vc)).c2
      clear hs hs2 hcl hc0 hc1' x0 x1 x2 x3 y0 y1 y2 y3 hs1'
      go_wp2_with fail
      refine bodyPost_ret (v := .tuple #[.agg #[.pointer p, .int .i64 size], .agg #[.int .i64 s, .slice va vn vc], .bool true]) (by simp [results, Try.results16, go_sem, u0, u1, u2, u3]) rfl ?_
      exact ⟨p, s, _, rfl, HDU.out.below HFP.out, HFP.out⟩
theorem do_any (sw : Bool) (lo hi fr tt : Int) {base : Nat} {W : World} {p : Option Addr} {size s : Int} {v : Value} (h : Dual base W p size s v) (hbase : base ≤ W.heap.size) :
    Calls Try.prog 16 #[.agg #[.pointer p, .int .i64 size], .agg #[.int .i64 s, v], .agg #[.bool sw, .int .i64 lo, .int .i64 hi, .int .i64 fr, .int .i64 tt]] W fun e w' => ∃ p' s' v', e = .returned (.tuple #[.agg #[.pointer p', .int .i64 size], .agg #[.int .i64 s', v'], .bool true]) ∧ Hid (Dual base w' p' size s' v') ∧ Below W.heap.size W w' := by
  cases sw
  · exact do_false lo hi fr tt h hbase
  · exact do_true lo hi fr tt h hbase
end Go.Proofs.Ytjbenhmpeceaeaa
