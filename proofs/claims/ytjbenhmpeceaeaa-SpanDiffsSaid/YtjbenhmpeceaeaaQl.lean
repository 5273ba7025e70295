/- The contract of the law's played: both maps after some updates. -/
import Derived.Test.YtjbenhmpeceaeaaQk
import Derived.Test.YtjbenhmpeceaeaaQi
import Derived.Laws.OwnMore
namespace Go.Proofs.Ytjbenhmpeceaeaa
open Go Go.RowKit Gs

/-- a store at a block whose second cell is a list, or whose first one is a pointer -/
theorem IsRs.apart {base : Nat} {W : World} {v : Value} {l : List R} (h : IsRs base W v l) {X i : Nat} {u : Value} (hX : (∀ x, W.cell? ⟨X, 0, none⟩ ≠ some (.int .i64 x)) ∨ (∀ x, W.cell? ⟨X, 1, none⟩ ≠ some (.int .i64 x))) : IsRs base (W.setCell ⟨X, i, none⟩ u) v l := by
  obtain ⟨ao, c, hv, h⟩ := h
  refine ⟨ao, c, hv, fun hl => ?_⟩
  obtain ⟨B, e, hB, hc⟩ := h hl
  have hne : B ≠ X := fun e => by
    subst e
    obtain ⟨h0, h1, _⟩ := hc 0 hl
    rcases hX with h | h
    · exact h _ h0
    · exact h _ h1
  refine ⟨B, e, ⟨hB.1, by rw [World.size_setCell]; exact hB.2⟩, fun j hj => ?_⟩
  obtain ⟨h0, h1, h2⟩ := hc j hj
  have o : ∀ k, (⟨X, i, none⟩ : Addr) ≠ ⟨B, k, none⟩ := fun k e => hne (by injection e with e; exact e.symm)
  exact ⟨(World.cell?_setCell_other _ _ _ _ (o _)).trans h0, (World.cell?_setCell_other _ _ _ _ (o _)).trans h1, (World.cell?_setCell_other _ _ _ _ (o _)).trans h2⟩
theorem Dual.apart {base : Nat} {W : World} {p : Option Addr} {size s : Int} {v : Value} (h : Dual base W p size s v) {X i : Nat} {u : Value} (h22 : W.cell? ⟨X, 22, none⟩ = none) (hX : (∀ x, W.cell? ⟨X, 0, none⟩ ≠ some (.int .i64 x)) ∨ (∀ x, W.cell? ⟨X, 1, none⟩ ≠ some (.int .i64 x))) : Dual base (W.setCell ⟨X, i, none⟩ u) p size s v := by
  rcases h with h | ⟨f, L, h1, h2, h3, h4⟩
  · exact .inl h
  · exact .inr ⟨f, L, ⟨h1.lo, h1.ctx, h1.tr.set h22 u⟩, h2, h3.apart hX, h4⟩
theorem Dual.setM {base : Nat} {W : World} {p : Option Addr} {size s : Int} {v : Value} (h : Dual base W p size s v) {X : Nat} {q : Option Addr} {y : Value} (hb : Bx X [.pointer q, y] W) (q2 : Option Addr) (u : Value) : Dual base ((W.setCell ⟨X, 0, none⟩ (.pointer q2)).setCell ⟨X, 1, none⟩ u) p size s v :=
  (h.apart hb.c22 (.inl fun x e => by rw [hb.c2.1] at e; cases e)).apart (hb.put (i := 0) (by simp) (by decide) (.pointer q2)).c22 (.inl fun x e => by rw [((hb.put (i := 0) (by simp) (by decide) (.pointer q2)).c 0 _ rfl).1] at e; cases e)
theorem Dual.setR {base : Nat} {W : World} {p : Option Addr} {size s : Int} {v : Value} (h : Dual base W p size s v) {X : Nat} {x : Value} {a : Option Addr} {n c : Nat} (hb : Bx X [x, .slice a n c] W) (u1 u2 : Value) : Dual base ((W.setCell ⟨X, 0, none⟩ u1).setCell ⟨X, 1, none⟩ u2) p size s v :=
  (h.apart hb.c22 (.inr fun x e => by rw [hb.c2.2.1] at e; cases e)).apart (hb.put (i := 0) (by simp) (by decide) u1).c22 (.inr fun x e => by rw [((hb.put (i := 0) (by simp) (by decide) u1).c 1 _ rfl).1] at e; cases e)
/-- the parts of a Dual that is usable -/
theorem Dual.open {base : Nat} {W : World} {p : Option Addr} {z s : Int} {v : Value} (h : Dual base W p z s v) : (p = none ∧ z = 0 ∧ s = 0 ∧ v = .slice none 0 0) ∨ ∃ f L, IsM f z W p ∧ Gs.Can f 0 L z ∧ IsRs base W v L ∧ s = z ∧ 0 < L.length ∧ L.length ≤ 4096 := by
  rcases h with h | ⟨f, L, h1, h2, h3, h4⟩
  · exact .inl h
  · obtain ⟨K, k1, k2⟩ := h1.can
    have e := k1.same h2
    subst e
    refine .inr ⟨f, K, h1, h2, h3, h4, ?_, k2⟩
    rcases fits_cut h2.1 with ⟨_, e⟩ | ⟨r, k, rfl⟩
    · have := h1.lo; omega
    · simp
theorem same_dual {base : Nat} {W : World} {p : Option Addr} {z s : Int} {v : Value} (h : Dual base W p z s v) : Calls Try.prog 15 #[.agg #[.pointer p, .int .i64 z], .agg #[.int .i64 s, v]] W fun e w' => e = .returned (.bool true) ∧ Hid (Below W.heap.size W w') := by
  rcases h with ⟨rfl, rfl, rfl, rfl⟩ | ⟨f, L, h1, h2, h3, rfl⟩
  · exact same_un W
  · exact same_ok h1 h2 h3
/-- an append of nothing -/
theorem wpList_append_nil {P : Program} {w : World} {ops : Array Oper} {rest : List Oper} {o : Oper} {a : Go.Act} {Q : Exit → Go.Act → World → Prop} (hgd : o.guard = none) (s x : Operand) (t : TypeId)
    (ho : o.op = .call { callee := .builtin .append, args := #[s, x], argTypes := #[t, t] })
    (base : Nat) (e : TypeId) (i : TypeInfo) (size : Nat) (ht : P.underlying t = some (.slice e)) (hi : P.info? e = some i)
    (v : Value) (n : Nat) (xs : List Value) (hs : a.eval s = v) (hown : w.ownsRow base e size v n xs) (hx : a.eval x = .slice none 0 0)
    (h : wpList P ops Q rest (a.put o.dst v) w) : wpList P ops Q (o :: rest) a w := by
  refine wpList_plain hgd fun K hK => ?_
  have hr := run_append_owned_none (P := P) w base t o.type e i size ht hi v n xs hown
  unfold Oper.wp execOp
  simp only [ho, resolve, invoke, builtin, Sem.run_bind, Sem.run_pure, Result.andThen_ok, List.map_toArray, List.map_cons, List.map_nil, hs, hx, hr]
  exact hK _ _ h
/-- what both News answer -/
theorem new_dual {size : Int} {B : Nat} {q : Option Addr} {s e2 s' : Int} {v' : Value} {e3 : Int} {W : World} (h1 : (e2 = 0 ∧ s = size ∧ IsM (fun _ => 0) size W q) ∨ (e2 = 2 ∧ q = none ∧ s = 0 ∧ (size < 1 ∨ 1099511627776 < size))) (h2 : RNP size B s' v' e3 W) : e2 = e3 ∧ Dual B W q s s' v' := by
  rcases h1 with ⟨rfl, rfl, h1⟩ | ⟨rfl, rfl, rfl, h1⟩
  · rcases h2 with ⟨rfl, rfl, h3, h4, h5⟩ | ⟨_, _, _, h3⟩
    · exact ⟨rfl, .inr ⟨_, _, h1, Gs.Can.one (r := ⟨0, s', 0⟩) (by show 0 < s'; omega) (fun _ _ _ => rfl), h5, rfl⟩⟩
    · have := h1.lo; have := h1.hi; omega
  · rcases h2 with ⟨_, _, h3, h4, _⟩ | ⟨rfl, rfl, rfl, _⟩
    · omega
    · exact ⟨rfl, .inl ⟨rfl, rfl, rfl, rfl⟩⟩
theorem RNP.below {size : Int} {B : Nat} {s : Int} {v : Value} {e : Int} {W W' : World} (h : RNP size B s v e W) (hb : Below W.heap.size W W') : RNP size B s v e W' := by
  rcases h with ⟨h1, h2, h3, h4, h5⟩ | h
  · exact .inl ⟨h1, h2, h3, h4, h5.below hb⟩
  · exact .inr h
theorem RNP.shape {size : Int} {B : Nat} {s : Int} {v : Value} {e : Int} {W : World} (h : RNP size B s v e W) : ∃ a n c, v = .slice a n c := by
  rcases h with ⟨_, _, _, _, ⟨_, _, h, _⟩⟩ | ⟨_, _, h, _⟩
  · exact ⟨_, _, _, h⟩
  · exact ⟨_, _, _, h⟩
/-- an update of a list -/
theorem IsAs.at' {W : World} {a : Option Addr} {n c : Nat} {l : List Act} (h : IsAs W (.slice a n c) l) {j : Nat} (hj : j < l.length) :
    ∃ B o, a = some ⟨B, o, none⟩ ∧ W.cell? ⟨B, o + j * 5, none⟩ = some (.bool l[j].sw) ∧ W.cell? ⟨B, o + j * 5 + 1, none⟩ = some (.int .i64 l[j].lo) ∧ W.cell? ⟨B, o + j * 5 + 2, none⟩ = some (.int .i64 l[j].hi) ∧ W.cell? ⟨B, o + j * 5 + 3, none⟩ = some (.int .i64 l[j].fr) ∧ W.cell? ⟨B, o + j * 5 + 4, none⟩ = some (.int .i64 l[j].tt) := by
  obtain ⟨a', c', hv, hcs⟩ := h
  injection hv with hv1 hv2 hv3
  subst hv1
  obtain ⟨B, o, e1, -, hcs2⟩ := hcs (by omega)
  exact ⟨B, o, e1, hcs2 j hj⟩
theorem alloc_below (W : World) (o : Obj) : Below W.heap.size W (W.alloc o) := (Below.refl _ _).alloc (Nat.le_refl _) _

set_option maxRecDepth 100000 in
set_option maxHeartbeats 4000000 in
theorem played_any {size : Int} {W : World} {v : Value} {l : List Act} (hl : IsAs W v l) (hn : l.length ≤ 1000) :
    Calls Try.prog 17 #[.int .i64 size, v] W fun e w' => ∃ p z s v', e = .returned (.tuple #[.agg #[.pointer p, .int .i64 z], .agg #[.int .i64 s, v'], .bool true]) ∧ Hid (Dual 0 w' p z s v') ∧ Below W.heap.size W w' := by
  have HAS := Lib.hid hl
  obtain ⟨ao, c, rfl, -⟩ := hl
  obtain ⟨n, hnn⟩ : ∃ n, n = l.length := ⟨_, rfl⟩
  have HN := Lib.hid hnn
  rw [← hnn] at hn HAS ⊢
  obtain ⟨w0, HW⟩ : ∃ w0, w0 = (W.alloc (.cells #[.pointer none, .int .i64 0] 27)).alloc (.cells #[.int .i64 0, .slice none 0 0] 33) := ⟨_, rfl⟩
  have hb : Below W.heap.size W w0 := by rw [HW]; exact (alloc_below _ _).alloc (by simp) _
  have n1 : Bx W.heap.size [.pointer none, .int .i64 0] w0 := by rw [HW]; exact (Bx.new W [.pointer none, .int .i64 0] 27 (by simp)).next (alloc_below _ _)
  have n2 : Bx (W.heap.size + 1) [.int .i64 0, .slice none 0 0] w0 := by
    have := Bx.new (W.alloc (.cells #[.pointer none, .int .i64 0] 27)) [.int .i64 0, .slice none 0 0] 33 (by simp)
    rw [World.size_alloc, ← HW] at this
    exact this
  have HNW := Lib.hid (New_any size w0)
  have HRN : Hid (∀ W', Calls Try.prog 14 #[.int .i64 size] W' fun e w' => ∃ s v e2, e = .returned (.tuple #[.agg #[.int .i64 s, v], .int .i64 e2]) ∧ Hid (RNP size W'.heap.size s v e2 w') ∧ Below W'.heap.size W' w') := fun W' => RNew_any size W'
  have H1 := Lib.hid n1; have H2 := Lib.hid n2; have HB := Lib.hid hb; have HW' := Lib.hid HW
  clear hnn hb n1 n2 HW
  go_enter Try.func17, Try.ntmps17
  go_upto_region 1 with fail
  rw [← HW'.out]
  go_wp2_with fail
  refine HNW.out.mono ?_
  rintro e w1 ⟨q, s, e2, rfl, HQ, hb⟩
  obtain ⟨w2, HW2⟩ : ∃ w2, w2 = w1.alloc (.cells #[.pointer q, .int .i64 s] 27) := ⟨_, rfl⟩
  have b2 : Below w1.heap.size w1 w2 := by rw [HW2]; exact alloc_below _ _
  have n3 : Bx w1.heap.size [.pointer q, .int .i64 s] w2 := by rw [HW2]; exact Bx.new w1 [.pointer q, .int .i64 s] 27 (by simp)
  have b12 := hb.trans (b2.mono hb.size)
  have HW2' := Lib.hid HW2
  clear HW2
  go_upto_region 2 with fail
  rw [← HW2'.out]
  go_wp2_with fail
  refine (HRN.out _).mono ?_
  rintro e w3 ⟨s', v0, e3, rfl, HR, hb3⟩
  obtain ⟨va, vn, vc, rfl⟩ := HR.out.shape
  obtain ⟨w4, HW4⟩ : ∃ w4, w4 = w3.alloc (.cells #[.int .i64 s', .slice va vn vc] 33) := ⟨_, rfl⟩
  have b4 : Below w3.heap.size w3 w4 := by rw [HW4]; exact alloc_below _ _
  have n4 : Bx w3.heap.size [.int .i64 s', .slice va vn vc] w4 := by rw [HW4]; exact Bx.new w3 [.int .i64 s', .slice va vn vc] 33 (by simp)
  have b34 := hb3.trans (b4.mono hb3.size)
  have b14 := b2.trans (b34.mono b2.size)
  have hpair : e2 = e3 ∧ Dual w2.heap.size w4 q s s' (.slice va vn vc) := new_dual (by
    rcases HQ.out with ⟨g1, g2, g3⟩ | g
    · exact .inl ⟨g1, g2, g3.below b14⟩
    · exact .inr g) (HR.out.below b4)
  obtain ⟨rfl, hdu⟩ := hpair
  have HDU := Lib.hid (hdu.mono (Nat.zero_le _))
  have b04 := b12.trans (b34.mono b12.size)
  have G1 := Lib.hid (H1.out.next b04); have G2 := Lib.hid (H2.out.next b04)
  have G3 := Lib.hid (n3.next b34); have G4 := Lib.hid n4
  have HB4 := Lib.hid (HB.out.trans (b04.mono HB.out.size))
  have HSZ : Hid (W.heap.size + 1 < w1.heap.size ∧ w1.heap.size < w3.heap.size) := ⟨Nat.lt_of_lt_of_le H2.out.lt hb.size, Nat.lt_of_lt_of_le n3.lt hb3.size⟩
  have HW4' := Lib.hid HW4
  clear hb b2 n3 b12 hb3 HW4 b4 n4 b34 b14 hdu b04 HQ HR HB H1 H2 HRN HNW
  go_upto_region 3 with fail
  rw [← HW4'.out]
  clear HW4' HW2' HW'
  go_wp2_with fail
  go_loopg [11, 12] n (fun k ov iv wr => ∃ (j : Nat) (q : Option Addr) (s s' : Int) (va : Option Addr) (vn vc : Nat), Hid (k + j = n) ∧ ov = .bool true ∧ iv = .int .i64 j ∧ Hid (Bx w1.heap.size [.pointer q, .int .i64 s] wr) ∧ Hid (Bx w3.heap.size [.int .i64 s', .slice va vn vc] wr) ∧ Hid (Dual 0 wr q s s' (.slice va vn vc)) ∧ Hid (Bx W.heap.size [.pointer none, .int .i64 0] wr) ∧ Hid (Bx (W.heap.size + 1) [.int .i64 0, .slice none 0 0] wr) ∧ Hid (Below W.heap.size W wr))
  case atStart => exact ⟨0, q, s, s', va, vn, vc, by show _ = _; omega, rfl, rfl, G3, G4, HDU, G1, G2, HB4⟩
  case round =>
    obtain ⟨j, q, s, s', va, vn, vc, HK, rfl, rfl, F3, F4, HD, F1, F2, HBr⟩ := hrel
    clear HDU G1 G2 G3 G4 HB4
    have hjn : j ≤ n := by have := HK.out; omega
    by_cases hlt : j < n
    · have hlt2 : (j : Int) < n := by omega
      have hjl : j < l.length := by have := HN.out; omega
      obtain ⟨B, o, rfl, g0, g1, g2, g3, g4⟩ := (HAS.out.below HBr.out).at' hjl
      generalize l[j] = a at *
      obtain ⟨asw, alo, ahi, afr, att⟩ := a
      simp only at g0 g1 g2 g3 g4
      obtain ⟨m0, m1, -, -⟩ := F3.out.c2
      obtain ⟨r0, r1, -, -⟩ := F4.out.c2
      have bd : Below wr.heap.size wr wr.drew := (Below.refl _ _).drew
      have F3d := Lib.hid (F3.out.next bd); have F4d := Lib.hid (F4.out.next bd); have HDd := Lib.hid (HD.out.below bd)
      have F1d := Lib.hid (F1.out.next bd); have F2d := Lib.hid (F2.out.next bd); have HBd := Lib.hid (HBr.out.trans (bd.mono HBr.out.size))
      clear bd
      have HDO : Hid (Calls Try.prog 16 #[.agg #[.pointer q, .int .i64 s], .agg #[.int .i64 s', .slice va vn vc], .agg #[.bool asw, .int .i64 alo, .int .i64 ahi, .int .i64 afr, .int .i64 att]] wr.drew fun e w' => ∃ q2 s2 va2 vn2 vc2, e = .returned (.tuple #[.agg #[.pointer q2, .int .i64 s], .agg #[.int .i64 s2, .slice va2 vn2 vc2], .bool true]) ∧ Hid (Dual 0 w' q2 s s2 (.slice va2 vn2 vc2)) ∧ Hid (Bx w1.heap.size [.pointer q, .int .i64 s] w') ∧ Hid (Bx w3.heap.size [.int .i64 s', .slice va vn vc] w') ∧ Hid (Bx W.heap.size [.pointer none, .int .i64 0] w') ∧ Hid (Bx (W.heap.size + 1) [.int .i64 0, .slice none 0 0] w') ∧ Hid (Below W.heap.size W w')) :=
        (do_any asw alo ahi afr att HDd.out (Nat.zero_le _)).mono fun e w' ⟨q2, s2, v2, he, hd, hb⟩ => by
          obtain ⟨va2, vn2, vc2, rfl⟩ := hd.out.shape
          exact ⟨q2, s2, va2, vn2, vc2, he, hd, F3d.out.next hb, F4d.out.next hb, F1d.out.next hb, F2d.out.next hb, HBd.out.trans (hb.mono HBd.out.size)⟩
      have HOT : Hid (∀ w' x y, Bx w3.heap.size [.int .i64 s', .slice va vn vc] w' → Bx w3.heap.size [.int .i64 s', .slice va vn vc] ((w'.setCell ⟨w1.heap.size, 0, none⟩ x).setCell ⟨w1.heap.size, 1, none⟩ y)) := fun w' x y h => (h.other (by have := HSZ.out; omega) _).other (by have := HSZ.out; omega) _
      clear F3d F4d HDd F1d F2d HBd
      go_upto_region 7 with fail
      go_region_with (go_at_call 16; with_reducible refine HDO.out.mono ?_; rintro e w5 ⟨q2, s2, va2, vn2, vc2, rfl, hd2, K3, K4, K1, K2, HB5⟩; obtain ⟨m0, m1, m2, m3⟩ := K3.out.c2; obtain ⟨r0, r1, r2, r3⟩ := (HOT.out _ (.pointer q2) (.int .i64 s) K4.out).c2)
      all_goals
        clear m0 m1 m2 m3 r0 r1 r2 r3 g0 g1 g2 g3 g4
        go_wp2_with fail
        go_roundg (n - (j + 1))
        case measure => have := HK.out; omega
        case rel =>
          have hsz := HSZ.out
          have KR := HOT.out _ (.pointer q2) (.int .i64 s) K4.out
          have KM := K3.out.two (.pointer q2) (.int .i64 s)
          exact ⟨j + 1, q2, s, s2, va2, vn2, vc2, by show _ = _; omega, rfl, by go_num, (KM.other (by omega) _).other (by omega) _, KR.two _ _, (hd2.out.setM K3.out q2 (.int .i64 s)).setR KR (.int .i64 s2) (.slice va2 vn2 vc2), (((K1.out.other (by omega) _).other (by omega) _).other (by omega) _).other (by omega) _, (((K2.out.other (by omega) _).other (by omega) _).other (by omega) _).other (by omega) _, below_put (below_put HB5.out (by omega) _ _) (by omega) _ _⟩
    · have hlt3 : ¬ (j : Int) < n := by omega
      have hge := HSZ.out
      obtain ⟨m0, m1, -, -⟩ := F3.out.c2
      obtain ⟨r0, r1, -, -⟩ := F4.out.c2
      obtain ⟨x0, x1, x2, x3⟩ := F1.out.c2
      obtain ⟨y0, y1, y2, y3⟩ := F2.out.c2
      have HY1 : Hid (Bx w3.heap.size [.int .i64 s', .slice va vn vc] ((wr.setCell ⟨W.heap.size, 0, none⟩ (.pointer q)).setCell ⟨W.heap.size, 1, none⟩ (.int .i64 s))) := (F4.out.other (by omega) _).other (by omega) _
      have HY2 : Hid (Bx (W.heap.size + 1) [.int .i64 0, .slice none 0 0] ((wr.setCell ⟨W.heap.size, 0, none⟩ (.pointer q)).setCell ⟨W.heap.size, 1, none⟩ (.int .i64 s))) := (F2.out.other (by omega) _).other (by omega) _
      obtain ⟨z0, z1, -, -⟩ := HY1.out.c2
      obtain ⟨z2, z3, z4, z5⟩ := HY2.out.c2
      obtain ⟨u0, u1, -, -⟩ := ((F1.out.two (.pointer q) (.int .i64 s)).other (X := W.heap.size + 1) (i := 0) (by omega) (.int .i64 s')).other (X := W.heap.size + 1) (i := 1) (by omega) (.slice va vn vc) |>.c2
      obtain ⟨u2, u3, -, -⟩ := (HY2.out.two (.int .i64 s') (.slice va vn vc)).c2
      have HD1 := Lib.hid ((HD.out.setM F1.out q (.int .i64 s)).setR HY2.out (.int .i64 s') (.slice va vn vc))
      have HBF := Lib.hid (below_put (below_put HBr.out (B := W.heap.size) (Nat.le_refl _) (.pointer q) (.int .i64 s)) (B := W.heap.size + 1) (by omega) (.int .i64 s') (.slice va vn vc))
      clear hge
      go_upto_region 8 with fail
      go_region
      all_goals
        go_wp2_with fail
        refine bodyPost_ret (v := .tuple #[.agg #[.pointer q, .int .i64 s], .agg #[.int .i64 s', .slice va vn vc], .bool true]) (by simp [results, Try.results17, go_sem, u0, u1, u2, u3]) rfl ?_
        exact ⟨q, s, s', _, rfl, HD1.out.below (Below.refl _ _).drew, HBF.out.drew⟩
end Go.Proofs.Ytjbenhmpeceaeaa
