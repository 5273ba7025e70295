/- The contract of Swap. -/
import Derived.Test.YtahgfggcpmnnaaaYx
import Derived.Deep.CutRange
namespace Go.Proofs.Ytahgfggcpmnnaaa
open Go Go.RowKit Gs

/-- in a range one tag becomes another one -/
def swr (f : Int → Int) (lo hi : Int) (fr tt : Nat) (x : Int) : Int := if lo ≤ x ∧ x < hi then swp f fr tt x else f x
theorem swr_ctx {f : Int → Int} {a b lo hi : Int} {fr tt : Nat} (h : Ctx f a b) (h1 : tt < 16) : Ctx (swr f lo hi fr tt) a b := by
  refine ⟨h.1, h.2.1, fun p p1 p2 => ?_⟩
  have e1 := h.2.2 p p1 p2
  have e2 := (swp_ctx (fr := fr) h h1).2.2 p p1 p2
  simp only [swr]
  split <;> omega
/-- a map that was laid behind a world -/
structure Mt (w2 : World) (X : Nat) (p : Option Addr) (size : Int) (W' : World) : Prop where
  mb : Mb X p size W'
  ge : w2.heap.size ≤ X
  bel : Below w2.heap.size w2 W'
theorem Mt.next {w2 W' W2 : World} {X : Nat} {p : Option Addr} {size : Int} (h : Mt w2 X p size W') (hb : Below W'.heap.size W' W2) : Mt w2 X p size W2 := ⟨h.mb.next hb, h.ge, h.bel.trans (hb.mono h.bel.size)⟩
theorem Mt.drew {w2 W' : World} {X : Nat} {p : Option Addr} {size : Int} (h : Mt w2 X p size W') : Mt w2 X p size W'.drew := h.next (Below.refl _ _).drew
theorem Mt.new {w2 W' : World} (h : Below w2.heap.size w2 W') (p : Option Addr) (size : Int) (Ty : TypeId) : Mt w2 W'.heap.size p size (W'.alloc (.cells #[.pointer p, .int .i64 size] Ty)) := ⟨Mb.new _ _ _ _, h.size, h.alloc h.size _⟩
theorem Mt.put {w2 W' : World} {X : Nat} {p : Option Addr} {size : Int} (h : Mt w2 X p size W') (q : Option Addr) (s : Int) : Mt w2 X q s ((W'.setCell ⟨X, 0, none⟩ (.pointer q)).setCell ⟨X, 1, none⟩ (.int .i64 s)) := ⟨h.mb.put q s, h.ge, (h.bel.setCell h.ge _).setCell h.ge _⟩
theorem bUp2 {w2 W' : World} (h : Below w2.heap.size w2 W') (o : Obj) : Below w2.heap.size w2 (W'.alloc o) := h.alloc h.size _
theorem Upd.alloc {f g : Int → Int} {size er s e : Int} {q : Option Addr} {W : World} (h : Upd f g size er q s e W) (o : Obj) : Upd f g size er q s e (W.alloc o) := h.below ((Below.refl _ _).alloc (Nat.le_refl _) _)
set_option maxHeartbeats 1000000 in
theorem Swap_err {f : Int → Int} {size lo hi fr tt : Int} {W : World} {p : Option Addr} (h : IsM f size W p) (her : errOf size lo hi [fr, tt] ≠ 0) :
    Calls Try.prog 39 #[.agg #[.pointer p, .int .i64 size], .int .i64 lo, .int .i64 hi, .int .i64 fr, .int .i64 tt] W fun e w' => e = .returned (.tuple #[.agg #[.pointer none, .int .i64 0], .int .i64 0, .int .i64 (errOf size lo hi [fr, tt])]) ∧ Below W.heap.size W w' := by
  obtain ⟨b, rfl⟩ := h.some
  obtain ⟨w0, HW, hm, hr, hc, hlt, hb⟩ := boxes3 W (some ⟨b, 0, none⟩) size 27 #[.int .i64 fr, .int .i64 tt] 3
  have HCK : Hid (Calls Try.prog 46 #[.agg #[.pointer (some ⟨b, 0, none⟩), .int .i64 size], .int .i64 lo, .int .i64 hi, .slice (some ⟨W.heap.size + 1 + 1, 0, none⟩) 2 2] w0 fun e w' => e = .returned (.int .i64 (errOf size lo hi [fr, tt])) ∧ Below w0.heap.size w0 w') :=
    check_any b (W.heap.size + 1 + 1) 2 size lo hi [fr, tt] w0 hlt (fun i hi => by
      have : i = 0 ∨ i = 1 := by simp at hi; omega
      rcases this with rfl | rfl
      · exact hc 0 _ rfl
      · exact hc 1 _ rfl) (by simp)
  have HR := Lib.hid hr; have HB := Lib.hid hb; have HW' := Lib.hid HW
  have hne : (errOf size lo hi [fr, tt] == 0) = false := beq_eq_false_iff_ne.2 her
  clear hm hr hb HW hc hlt h her
  generalize errOf size lo hi [fr, tt] = er at *
  go_enter Try.func39, Try.ntmps39
  go_wp2_with fail
  rw [← HW'.out]
  refine HCK.out.mono ?_
  rintro e w1 ⟨rfl, hb⟩
  have HR1 := Lib.hid (HR.out.next hb)
  have HB1 := Lib.hid (HB.out.trans (hb.mono HB.out.size))
  have d0 := HR1.out.c0; have d1 := HR1.out.c1; have d2 := HR1.out.f0; have d3 := HR1.out.f1
  obtain ⟨u0, u1⟩ : _ ∧ _ := ⟨(HR1.out.put none 0).c0, (HR1.out.put none 0).c1⟩
  clear hb
  go_wp2_with fail
  refine bodyPost_ret (v := .tuple #[.agg #[.pointer none, .int .i64 0], .int .i64 0, .int .i64 er]) (by simp [results, Try.results39, go_sem, u0, u1]) rfl ?_
  have HBF := below_put HB1.out (B := W.heap.size + 1) (by omega) (.pointer none) (.int .i64 0)
  exact ⟨rfl, by first | exact HB1.out | exact HBF⟩
set_option maxHeartbeats 2000000 in
theorem Swap_ok {f : Int → Int} {size lo hi : Int} {fr tt : Nat} {W : World} {p : Option Addr} (h : IsM f size W p) (her : errOf size lo hi [(fr : Int), (tt : Int)] = 0) :
    Calls Try.prog 39 #[.agg #[.pointer p, .int .i64 size], .int .i64 lo, .int .i64 hi, .int .i64 fr, .int .i64 tt] W fun e w' => ∃ q s n e2, e = .returned (.tuple #[.agg #[.pointer q, .int .i64 s], .int .i64 n, .int .i64 e2]) ∧ Hid (Upd f (swr f lo hi fr tt) size 0 q s e2 w') ∧ Hid ((e2 = 0 ∧ ∃ L, Gs.Can f lo L hi ∧ n = cnt fr L) ∨ (e2 ≠ 0 ∧ n = 0)) ∧ Below W.heap.size W w' := by
  obtain ⟨r1, r2, r3, r4⟩ := errOf_zero her
  have r5 := (r4 fr (by simp)).2
  have r6 := (r4 tt (by simp)).2
  have hfr : fr < 16 := by omega
  have htt : tt < 16 := by omega
  have hlo := h.lo
  have htr := h.tr
  have hcx := h.ctx
  have hpx : Ctx (swr f lo hi fr tt) 0 size := swr_ctx hcx htt
  obtain ⟨b, rfl⟩ := h.some
  obtain ⟨w0, HW, hm, hr, hc, hlt, hb⟩ := boxes3 W (some ⟨b, 0, none⟩) size 27 #[.int .i64 fr, .int .i64 tt] 3
  have HCK : Hid (Calls Try.prog 46 #[.agg #[.pointer (some ⟨b, 0, none⟩), .int .i64 size], .int .i64 lo, .int .i64 hi, .slice (some ⟨W.heap.size + 1 + 1, 0, none⟩) 2 2] w0 fun e w' => e = .returned (.int .i64 (errOf size lo hi [(fr : Int), (tt : Int)])) ∧ Below w0.heap.size w0 w') :=
    check_any b (W.heap.size + 1 + 1) 2 size lo hi [(fr : Int), (tt : Int)] w0 hlt (fun i hi => by
      have : i = 0 ∨ i = 1 := by simp at hi; omega
      rcases this with rfl | rfl
      · exact hc 0 _ rfl
      · exact hc 1 _ rfl) (by simp)
  rw [her] at HCK
  have HCT : Hid (∀ W', Below W.heap.size W W' → Calls Try.prog 66 #[.agg #[.pointer (some ⟨b, 0, none⟩), .int .i64 size], .int .i64 lo, .int .i64 hi] W' fun e w' => ∃ x y z, e = .returned (.tuple #[.pointer x, .pointer y, .pointer z]) ∧ Hid (Tr f 0 lo 4096 w' x) ∧ Hid (Tr f lo hi 4096 w' y) ∧ Hid (Tr f hi size 4096 w' z) ∧ Below W'.heap.size W' w') := fun W' hb => cut_any (htr.below hb) hcx (by omega) r1 r2 r3
  have HRT : Hid (∀ y W', Tr f lo hi 4096 W' y → Calls Try.prog 70 #[.pointer y, .int .i64 fr, .int .i64 tt] W' fun e w' => ∃ x, e = .returned (.pointer x) ∧ Hid (Tr (swr f lo hi fr tt) lo hi 4096 w' x) ∧ Below W'.heap.size W' w') := fun y W' hy =>
    (hy.retag (hcx.sub r1 r3) hfr htt (by omega)).mono fun e w' ⟨x, he, ht, hB⟩ => ⟨x, he, ht.out.congr fun z z1 z2 => by simp only [swr]; rw [if_pos ⟨z1, z2⟩], hB⟩
  have HC1 : Hid (∀ x y W', Tr f 0 lo 4096 W' x → Tr (swr f lo hi fr tt) lo hi 4096 W' y → Calls Try.prog 69 #[.pointer x, .pointer y] W' fun e w' => ∃ g, e = .returned (.pointer g) ∧ Hid (Tr (swr f lo hi fr tt) 0 hi 8193 w' g) ∧ Below W'.heap.size W' w') := fun x y W' hx hy =>
    Tr.concat (n := 4096) (k := 4096) (hx.congr fun z z1 z2 => by simp only [swr]; rw [if_neg (by omega)]) hy (hpx.sub (Int.le_refl _) r3) (by omega)
  have HC2 : Hid (∀ x y W', Tr (swr f lo hi fr tt) 0 hi 8193 W' x → Tr f hi size 4096 W' y → Calls Try.prog 69 #[.pointer x, .pointer y] W' fun e w' => ∃ g, e = .returned (.pointer g) ∧ Hid (Tr (swr f lo hi fr tt) 0 size 12290 w' g) ∧ Below W'.heap.size W' w') := fun x y W' hx hy =>
    Tr.concat (n := 8193) (k := 4096) hx (hy.congr fun z z1 z2 => by simp only [swr]; rw [if_neg (by omega)]) hpx (by omega)
  have HWI : Hid (∀ g W', Tr (swr f lo hi fr tt) 0 size 12290 W' g → Calls Try.prog 67 #[.agg #[.pointer (some ⟨b, 0, none⟩), .int .i64 size], .pointer g] W' fun e w' => ∃ q s e2, e = .returned (.tuple #[.agg #[.pointer q, .int .i64 s], .int .i64 e2]) ∧ Hid (Upd f (swr f lo hi fr tt) size 0 q s e2 w') ∧ Below W'.heap.size W' w') := fun g W' hg => with_any hg hpx hlo (by omega)
  have HCN : Hid (∀ y W', Tr f lo hi 4096 W' y → ∃ n, Hid (∃ L, Gs.Can f lo L hi ∧ n = cnt fr L) ∧ ∀ W'', Below W'.heap.size W' W'' → Calls Try.prog 53 #[.pointer y, .int .i64 fr] W'' fun e w' => e = .returned (.int .i64 n) ∧ W'' = w') := fun y W' ⟨t, t1, t2, _⟩ => ⟨cnt fr t.L, ⟨t.L, t2, rfl⟩, fun W'' hb => count_any t _ W'' fr hfr (IsT.below hb t1)⟩
  have HM := Lib.hid hm; have HR := Lib.hid hr; have HB := Lib.hid hb; have HW' := Lib.hid HW
  clear hm hr hb HW hc hlt h her r1 r2 r3 r4 r5 r6 hlo htr hcx hpx hfr htt
  go_enter Try.func39, Try.ntmps39
  go_wp2_with fail
  rw [← HW'.out]
  refine HCK.out.mono ?_
  rintro e w1 ⟨rfl, hb⟩
  have HR1 := Lib.hid (HR.out.next hb)
  have HM1 := Lib.hid (HM.out.next hb)
  have HB1 := Lib.hid (HB.out.trans (hb.mono HB.out.size))
  have k0 := HM1.out.c0; have k1 := HM1.out.c1
  clear hb
  go_wp2_with fail
  refine (HCT.out _ HB1.out).mono ?_
  rintro e w2 ⟨x, y, z, rfl, HX, HY, HZ, hb⟩
  have HR2 := Lib.hid (HR1.out.next hb)
  have HM2 := Lib.hid (HM1.out.next hb)
  have HB2 := Lib.hid (HB1.out.trans (hb.mono HB1.out.size))
  clear hb k0 k1
  have HALL : Hid (∀ W', Below w2.heap.size w2 W' → W'.cell? ⟨W.heap.size, 0, none⟩ = some (.pointer (some ⟨b, 0, none⟩)) ∧ W'.cell? ⟨W.heap.size, 1, none⟩ = some (.int .i64 size)) := fun W' h => ⟨(HM2.out.next h).c0, (HM2.out.next h).c1⟩
  have HAL : Hid (∀ W' o, Below w2.heap.size w2 W' → (W'.alloc o).cell? ⟨W.heap.size, 0, none⟩ = some (.pointer (some ⟨b, 0, none⟩)) ∧ (W'.alloc o).cell? ⟨W.heap.size, 1, none⟩ = some (.int .i64 size)) := fun W' o h => HALL.out _ (bUp2 h o)
  have HALD : Hid (∀ W' o, Below w2.heap.size w2 W' → (W'.alloc o).drew.cell? ⟨W.heap.size, 0, none⟩ = some (.pointer (some ⟨b, 0, none⟩)) ∧ (W'.alloc o).drew.cell? ⟨W.heap.size, 1, none⟩ = some (.int .i64 size)) := fun W' o h => HALL.out _ (bUp2 h o).drew
  have HST : Hid (∀ W' X u v, Below w2.heap.size w2 W' → w2.heap.size ≤ X → ((W'.setCell ⟨X, 0, none⟩ u).setCell ⟨X, 1, none⟩ v).cell? ⟨W.heap.size, 0, none⟩ = some (.pointer (some ⟨b, 0, none⟩)) ∧ ((W'.setCell ⟨X, 0, none⟩ u).setCell ⟨X, 1, none⟩ v).cell? ⟨W.heap.size, 1, none⟩ = some (.int .i64 size)) := fun W' X u v h hX => HALL.out _ ((h.setCell hX u).setCell hX v)
  have HRT2 : Hid (∀ W', Below w2.heap.size w2 W' → Calls Try.prog 70 #[.pointer y, .int .i64 fr, .int .i64 tt] W' fun e w' => ∃ x, e = .returned (.pointer x) ∧ Hid (Tr (swr f lo hi fr tt) lo hi 4096 w' x) ∧ Below W'.heap.size W' w' ∧ Below w2.heap.size w2 w') := fun W' h => (HRT.out y W' (HY.out.below h)).mono fun e w' ⟨g, he, ht, hB⟩ => ⟨g, he, ht, hB, h.trans (hB.mono h.size)⟩
  have HC12 : Hid (∀ g W', Below w2.heap.size w2 W' → Hid (Tr (swr f lo hi fr tt) lo hi 4096 W' g) → Calls Try.prog 69 #[.pointer x, .pointer g] W' fun e w' => ∃ g, e = .returned (.pointer g) ∧ Hid (Tr (swr f lo hi fr tt) 0 hi 8193 w' g) ∧ Below W'.heap.size W' w' ∧ Below w2.heap.size w2 w') := fun g W' h hg => (HC1.out x g W' (HX.out.below h) hg.out).mono fun e w' ⟨g, he, ht, hB⟩ => ⟨g, he, ht, hB, h.trans (hB.mono h.size)⟩
  have HC22 : Hid (∀ g W', Below w2.heap.size w2 W' → Hid (Tr (swr f lo hi fr tt) 0 hi 8193 W' g) → Calls Try.prog 69 #[.pointer g, .pointer z] W' fun e w' => ∃ g, e = .returned (.pointer g) ∧ Hid (Tr (swr f lo hi fr tt) 0 size 12290 w' g) ∧ Below W'.heap.size W' w' ∧ Below w2.heap.size w2 w') := fun g W' h hg => (HC2.out g z W' hg.out (HZ.out.below h)).mono fun e w' ⟨g, he, ht, hB⟩ => ⟨g, he, ht, hB, h.trans (hB.mono h.size)⟩
  have HWI2 : Hid (∀ g W', Below w2.heap.size w2 W' → Hid (Tr (swr f lo hi fr tt) 0 size 12290 W' g) → Calls Try.prog 67 #[.agg #[.pointer (some ⟨b, 0, none⟩), .int .i64 size], .pointer g] W' fun e w' => ∃ q s e2, e = .returned (.tuple #[.agg #[.pointer q, .int .i64 s], .int .i64 e2]) ∧ Hid (Upd f (swr f lo hi fr tt) size 0 q s e2 w') ∧ Below W'.heap.size W' w' ∧ Below w2.heap.size w2 w') := fun g W' h ht => (HWI.out g W' ht.out).mono fun e w' ⟨q, s, e2, he, hu, hB⟩ => ⟨q, s, e2, he, hu, hB, h.trans (hB.mono h.size)⟩
  have HTA : Hid (∀ a b n q W' o, Hid (Tr (swr f lo hi fr tt) a b n W' q) → Hid (Tr (swr f lo hi fr tt) a b n (W'.alloc o) q)) := fun a b n q W' o h => h.out.below ((Below.refl _ _).alloc (Nat.le_refl _) _)
  have hs : Below w2.heap.size w2 w2 := Below.refl _ _
  have hs2 := hs.drew
  have hcl := HALL.out _ hs2
  have hc0 := HALL.out _ hs
  go_upto_region 5 with fail
  go_cut [17, 18] from 38 to 50 (fun s17 s18 wx => ∃ X q s e2, s17 = .pointer (some ⟨X, 0, none⟩) ∧ s18 = .int .i64 e2 ∧ Hid (Mt w2 X q s wx) ∧ Hid (Upd f (swr f lo hi fr tt) size 0 q s e2 wx))
  case first =>
    go_region_held3 (fun W' : World => W'.cell? ⟨W.heap.size, 0, none⟩ = some (.pointer (some ⟨b, 0, none⟩)) ∧ W'.cell? ⟨W.heap.size, 1, none⟩ = some (.int .i64 size)) (first | assumption | (with_reducible exact HAL.out _ _ (by assumption)) | (with_reducible exact HALD.out _ _ (by assumption)) | (with_reducible exact HST.out _ _ _ _ (by assumption) zA.ge) | fail) (first
      | (go_at_call 70; with_reducible refine (HRT2.out _ ?h).mono ?_; (case h => (first | assumption | exact bUp2 (by assumption) _ | exact (bUp2 (by assumption) _).drew | fail)); rintro e w' ⟨g1, rfl, hg1, hb1, hs1'⟩; have hc1' := HALL.out _ hs1'; (first | (have zA := Mt.next (Mt.new (by assumption) none 0 _) hb1) | (have zA := Mt.next (Mt.drew (Mt.new (by assumption) none 0 _)) hb1) | skip); (first | (have z0 := zA.mb.c0; have z1 := zA.mb.c1; have z2 := zA.mb.f0; have z3 := zA.mb.f1) | skip))
      | (go_at_call 69; with_reducible refine (HC12.out _ _ ?h ?r).mono ?_; (case h => (first | assumption | exact bUp2 (by assumption) _ | fail)); (case r => (first | assumption | (with_reducible exact HTA.out _ _ _ _ _ _ (by assumption)) | fail)); rintro e w' ⟨g2, rfl, hg2, hb2, hs2'⟩; have hc2' := HALL.out _ hs2'; (first | (have zA := Mt.next (Mt.new (by assumption) none 0 _) hb2) | (have zA := Mt.next zA hb2) | skip); (first | (have z0 := zA.mb.c0; have z1 := zA.mb.c1; have z2 := zA.mb.f0; have z3 := zA.mb.f1) | skip))
      | (go_at_call 69; with_reducible refine (HC22.out _ _ ?h ?r).mono ?_; (case h => (first | assumption | exact bUp2 (by assumption) _ | fail)); (case r => (first | assumption | (with_reducible exact HTA.out _ _ _ _ _ _ (by assumption)) | fail)); rintro e w' ⟨g3, rfl, hg3, hb3, hs3'⟩; have hc3' := HALL.out _ hs3'; (first | (have zA := Mt.next (Mt.new (by assumption) none 0 _) hb3) | (have zA := Mt.next zA hb3) | skip); (first | (have z0 := zA.mb.c0; have z1 := zA.mb.c1; have z2 := zA.mb.f0; have z3 := zA.mb.f1) | skip))
      | (go_at_call 67; with_reducible refine (HWI2.out _ _ ?h ?r).mono ?_; (case h => (first | assumption | exact bUp2 (by assumption) _ | fail)); (case r => (first | assumption | (with_reducible exact HTA.out _ _ _ _ _ _ (by assumption)) | fail)); rintro e w' ⟨q, s, e2, rfl, hu, hb4, hs4'⟩; have hc4' := HALL.out _ hs4'; (first | (have zA := Mt.next (Mt.new (by assumption) none 0 _) hb4) | (have zA := Mt.next zA hb4) | skip); (first | (have z0 := zA.mb.c0; have z1 := zA.mb.c1; have z2 := zA.mb.f0; have z3 := zA.mb.f1) | skip)) | fail)
    all_goals
      go_wp2_with fail
      go_meet
      case rel => exact ⟨_, q, s, e2, rfl, rfl, by first | exact Mt.put zA q s | exact Mt.new (by assumption) q s _ | fail, by first | exact Mb.upd zA.mb hu.out _ _ | exact hu.out.alloc _ | fail⟩
  case rest =>
    obtain ⟨X, q, s, e2, rfl, rfl, HT, HU⟩ := hcut
    have HRX := Lib.hid (HR2.out.next HT.out.bel)
    have HBX : Hid (Below W.heap.size W wc) := HB2.out.trans (HT.out.bel.mono HB2.out.size)
    obtain ⟨n, HN, hcnt⟩ := HCN.out y w2 HY.out
    have HCT2 : Hid (∀ W', Below wc.heap.size wc W' → Calls Try.prog 53 #[.pointer y, .int .i64 fr] W' fun e w' => e = .returned (.int .i64 n) ∧ W' = w') := fun W' h => hcnt W' (HT.out.bel.trans (h.mono HT.out.bel.size))
    have d0 := HRX.out.c0; have d1 := HRX.out.c1; have d2 := HRX.out.f0; have d3 := HRX.out.f1
    have k0 := HT.out.mb.c0; have k1 := HT.out.mb.c1
    clear hcnt hs hs2 hcl hc0
    rcases HU.out with ⟨h1, _⟩ | ⟨_, rfl, rfl, rfl, h4⟩ | ⟨_, rfl, rfl, h4⟩
    · exact absurd rfl h1
    · have HL := Lib.hid h4
      clear h4
      obtain ⟨u0, u1⟩ : _ ∧ _ := ⟨(HRX.out.put none 0).c0, (HRX.out.put none 0).c1⟩
      go_wp2_with fail
      refine bodyPost_ret (v := .tuple #[.agg #[.pointer none, .int .i64 0], .int .i64 0, .int .i64 5]) (by simp [results, Try.results39, go_sem, u0, u1]) rfl ?_
      have HBF := below_put HBX.out (B := W.heap.size + 1) (by omega) (.pointer none) (.int .i64 0)
      exact ⟨none, 0, 0, 5, rfl, .inr (.inl ⟨rfl, rfl, rfl, rfl, HL.out⟩), .inr ⟨by decide, rfl⟩, by first | exact HBX.out | exact HBF⟩
    · have HI := Lib.hid h4
      clear h4
      have hne : W.heap.size + 1 ≠ X := by have h1 := HT.out.ge; have h2 := HR2.out.lt; omega
      have HNE := Lib.hid hne
      have HRD := Lib.hid HRX.out.drew
      have hp' := HRX.out.put q s
      have v0 := hp'.drew.c0; have v1 := hp'.drew.c1; have v2 := hp'.c0; have v3 := hp'.c1
      have HST3 : Hid (∀ u v, ((wc.setCell ⟨W.heap.size + 1, 0, none⟩ u).setCell ⟨W.heap.size + 1, 1, none⟩ v).drew.cell? ⟨X, 0, none⟩ = some (.pointer q) ∧ ((wc.setCell ⟨W.heap.size + 1, 0, none⟩ u).setCell ⟨W.heap.size + 1, 1, none⟩ v).drew.cell? ⟨X, 1, none⟩ = some (.int .i64 s)) := fun u v => ⟨(HT.out.mb.other HNE.out u v).drew.c0, (HT.out.mb.other HNE.out u v).drew.c1⟩
      have HST2 : Hid (∀ W' u v, Below wc.heap.size wc W' → ((W'.setCell ⟨W.heap.size + 1, 0, none⟩ u).setCell ⟨W.heap.size + 1, 1, none⟩ v).cell? ⟨X, 0, none⟩ = some (.pointer q) ∧ ((W'.setCell ⟨W.heap.size + 1, 0, none⟩ u).setCell ⟨W.heap.size + 1, 1, none⟩ v).cell? ⟨X, 1, none⟩ = some (.int .i64 s)) := fun W' u v h => ⟨((HT.out.mb.next h).other HNE.out u v).c0, ((HT.out.mb.next h).other HNE.out u v).c1⟩
      have HBF := Lib.hid (below_put HBX.out (B := W.heap.size + 1) (by omega) (.pointer q) (.int .i64 s)).drew
      have HUF := Lib.hid ((HRX.out.upd HU.out (.pointer q) (.int .i64 s)).below (Below.refl _ _).drew)
      have hs : Below wc.heap.size wc wc := Below.refl _ _
      have hs2 := hs.drew
      have hcl : wc.cell? ⟨X, 0, none⟩ = some (.pointer q) ∧ wc.cell? ⟨X, 1, none⟩ = some (.int .i64 s) := ⟨HT.out.mb.c0, HT.out.mb.c1⟩
      have hcl2 : wc.drew.cell? ⟨X, 0, none⟩ = some (.pointer q) ∧ wc.drew.cell? ⟨X, 1, none⟩ = some (.int .i64 s) := hcl
      have e0 := HRD.out.c0; have e1 := HRD.out.c1; have e2 := HRD.out.f0; have e3 := HRD.out.f1
      clear hne hp'
      go_wp2_with fail
      go_region_held3 (fun W' : World => W'.cell? ⟨X, 0, none⟩ = some (.pointer q) ∧ W'.cell? ⟨X, 1, none⟩ = some (.int .i64 s)) (first | assumption | (with_reducible exact HST2.out _ _ _ (by assumption)) | (with_reducible exact HST3.out _ _) | fail) (first
        | (go_at_call 53; with_reducible refine (HCT2.out _ ?h).mono ?_; (case h => assumption); rintro e w' ⟨rfl, rfl⟩) | fail)
      all_goals
        go_wp2_with fail
        refine bodyPost_ret (v := .tuple #[.agg #[.pointer q, .int .i64 s], .int .i64 n, .int .i64 0]) (by simp [results, Try.results39, go_sem, v0, v1]) rfl ?_
        exact ⟨q, s, n, 0, rfl, HUF, .inl ⟨rfl, HN.out⟩, HBF.out⟩
/-- Swap, of a usable map -/
theorem Swap_any {f : Int → Int} {size lo hi fr tt : Int} {W : World} {p : Option Addr} (h : IsM f size W p) :
    Calls Try.prog 39 #[.agg #[.pointer p, .int .i64 size], .int .i64 lo, .int .i64 hi, .int .i64 fr, .int .i64 tt] W fun e w' => ∃ q s n e2, e = .returned (.tuple #[.agg #[.pointer q, .int .i64 s], .int .i64 n, .int .i64 e2]) ∧ Hid (Upd f (swr f lo hi fr.toNat tt.toNat) size (errOf size lo hi [fr, tt]) q s e2 w') ∧ Hid ((e2 = 0 ∧ 0 ≤ fr ∧ ∃ L, Gs.Can f lo L hi ∧ n = cnt fr L) ∨ (e2 ≠ 0 ∧ n = 0)) ∧ Below W.heap.size W w' := by
  by_cases her : errOf size lo hi [fr, tt] = 0
  · obtain ⟨r1, r2, r3, r4⟩ := errOf_zero her
    have r5 := (r4 fr (by simp)).1
    have r6 := (r4 tt (by simp)).1
    obtain ⟨a, rfl⟩ : ∃ a : Nat, fr = a := ⟨fr.toNat, by omega⟩
    obtain ⟨b, rfl⟩ : ∃ b : Nat, tt = b := ⟨tt.toNat, by omega⟩
    refine (Swap_ok h her).mono ?_
    rintro e w' ⟨q, s, n, e2, rfl, hu, hn, hB⟩
    refine ⟨q, s, n, e2, rfl, ?_, ?_, hB⟩
    · rw [her]; exact hu
    · rcases hn.out with ⟨h1, h2⟩ | h1
      · exact .inl ⟨h1, r5, h2⟩
      · exact .inr h1
  · refine (Swap_err h her).mono ?_
    rintro e w' ⟨rfl, hB⟩
    exact ⟨none, 0, 0, _, rfl, .inl ⟨her, rfl, rfl, rfl⟩, .inr ⟨her, rfl⟩, hB⟩
end Go.Proofs.Ytahgfggcpmnnaaa
