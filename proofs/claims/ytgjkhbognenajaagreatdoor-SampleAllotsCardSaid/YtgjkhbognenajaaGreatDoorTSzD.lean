/- Contracts and lemmas (several texts merged into one). -/
import Derived.Test.YtgjkhbognenajaaGreatDoorTSz3
import Derived.Test.YtgjkhbognenajaaGreatDoorTSz6
import Derived.Test.YtgjkhbognenajaaGreatDoorTSzB
import Derived.OpenShut
import Derived.Deep.Slices
namespace Go.Proofs.YtgjkhbognenajaaGreatDoor
open Go Go.RowKit Gu

theorem n60 {x : Nat} (h : x ≤ 2 ^ 60) : nd 65536 x ≤ 4 := pow_nd16 (a := 61) (Nat.lt_of_le_of_lt h (by decide)) (by decide)
/-- the sum of the first terms, where the loop ends -/
theorem accS_end {b g n i : Nat} {c : Int} (h1 : i ≤ n + 1) (h2 : (i : Int) ≤ max 0 (c + 1)) (h : ¬ ((i : Int) ≤ c ∧ (i : Int) ≤ n)) : hsum b g n 0 i = accS b g n c := by
  unfold accS
  by_cases q : (i : Int) ≤ c
  · rw [show i = n + 1 by omega, ← hsum_full (m := (c + 1).toNat) (by omega)]
  · rw [show i = (c + 1).toNat by omega]
/-- what the loop of the document's Accept keeps -/
def RAccRel (b g n i : Nat) (w0 : World) (rv : Value) (wr : World) : Prop := R wr rv (hsum b g n 0 i) ∧ Below w0.heap.size w0 wr
end Go.Proofs.YtgjkhbognenajaaGreatDoor
namespace Go.Proofs.YtgjkhbognenajaaGreatDoor
open Go Go.RowKit Gu

/-- share and remainder of one size, as the document's numbers give them -/
theorem share_big {n t y : Nat} (hn : n ≤ 70368744177664) (ht : t ≤ 70368744177664) (h0 : 0 < t) (hy : y ≤ 1099511627776) (hnt : n ≤ t) : nd 65536 n ≤ 4 ∧ nd 65536 y ≤ 4 ∧ nd 65536 t ≤ 4 ∧ nd 65536 (n * y) ≤ 400000 ∧ intN (n * y / t) = n * y / t ∧ intN (n * y % t) = n * y % t ∧ n * y / t ≤ y ∧ n * y % t < t := by
  have h1 := n60 (x := n) (by omega)
  have h2 := n60 (x := y) (by omega)
  have h3 := n60 (x := t) (by omega)
  have h4 : n * y / t ≤ y := quo_le hnt h0
  have h5 : n * y % t < t := Nat.mod_lt _ h0
  refine ⟨h1, h2, h3, ?_, if_pos (by omega), if_pos (by omega), h4, h5⟩
  have hb : n * y ≤ 70368744177664 * 1099511627776 := Nat.mul_le_mul hn hy
  refine Nat.le_trans ((nd_le (B := 65536) (k := 8) (by decide)).2 ?_) (by decide)
  exact Nat.lt_of_le_of_lt hb (by decide)
theorem rnum_any (x : Nat) (w : World) (hx : x ≤ 9223372036854775807) :
    Calls Tryz.prog 17 #[.int .i64 x] w fun e w' => ∃ r, e = .returned r ∧ R w' r x ∧ Below w.heap.size w w' := by
  have HO := Lib.hid (Of_any x w hx)
  clear hx
  go_enter Tryz.func17, Tryz.ntmps17
  go_wp2_with fail
  refine HO.out.mono ?_
  rintro e w1 ⟨r, rfl, hr, hb⟩
  obtain ⟨ro, rc, rfl, -⟩ := hr.shape
  have HR := Lib.hid hr; have HB := Lib.hid hb
  clear hr hb
  go_wp2_with fail
  go_ret
  exact ⟨_, rfl, HR.out, HB.out⟩
/-- the remainders; -1 where a stratum has got its draw -/
def restF (n t : Nat) (x τ : Nat → Nat) (k : Nat) (i : Nat) : Int := if τ i < k then -1 else (remF n t x i : Int)
def fnI (f : Nat → Int) (m : Nat) : List Int := (List.range m).map f
def encI (l : List Int) : List Value := l.map (Value.int .i64)
theorem fnI_len (f : Nat → Int) (m : Nat) : (fnI f m).length = m := by simp [fnI]
theorem fnI_succ (f : Nat → Int) (m : Nat) : encI (fnI f m) ++ [.int .i64 (f m)] = encI (fnI f (m + 1)) := by
  unfold fnI encI; rw [List.range_succ]; simp
theorem encI_at (f : Nat → Int) {m j : Nat} (h : j < m) : (encI (fnI f m))[j]? = some (.int .i64 (f j)) := by
  unfold encI fnI; rw [List.getElem?_map, List.getElem?_map, List.getElem?_range h]; rfl
theorem encI_set (f : Nat → Int) (m j : Nat) (v : Int) : (encI (fnI f m)).set j (.int .i64 v) = encI (fnI (fun i => if i = j then v else f i) m) := by
  apply List.ext_getElem?
  intro i
  by_cases hi : i < m
  · rw [encI_at _ hi, List.getElem?_set]
    by_cases e : j = i
    · subst e
      rw [if_pos rfl, if_pos (by unfold encI fnI; simpa using hi), if_pos rfl]
    · rw [if_neg e, encI_at _ hi, if_neg (fun h => e h.symm)]
  · rw [List.getElem?_eq_none (by unfold encI fnI; simp; omega), List.getElem?_eq_none (by unfold encI fnI; simp; omega)]
theorem fnI_congr {f h : Nat → Int} {m : Nat} (e : ∀ x, x < m → f x = h x) : fnI f m = fnI h m := by
  unfold fnI
  exact List.map_congr_left fun x hx => e x (List.mem_range.1 hx)
theorem restF_step {n t : Nat} {x s τ : Nat → Nat} (h1 : ∀ i, s (τ i) = i) (h2 : ∀ i, τ (s i) = i) (j i : Nat) : (if i = s j then (-1 : Int) else restF n t x τ j i) = restF n t x τ (j + 1) i := by
  unfold restF
  by_cases e : i = s j
  · rw [if_pos e, e, h2, if_pos (Nat.lt_succ_self j)]
  · have : τ i ≠ j := fun h => e (by rw [← h, h1])
    rw [if_neg e]
    by_cases c : τ i < j
    · rw [if_pos c, if_pos (by omega)]
    · rw [if_neg c, if_neg (by omega)]
theorem b_tr {w a b : World} (h1 : Below w.heap.size w a) (h2 : Below a.heap.size a b) : Below w.heap.size w b := h1.trans (h2.mono h1.size)
theorem row_sl {W : World} {base : Nat} {e : TypeId} {size : Nat} {v : Value} {k : Nat} {xs : List Value} (h : W.ownsRow base e size v k xs) : ∃ a c, v = .slice a k c := by
  rcases h.2 with ⟨rfl, h0⟩ | ⟨g, cap, cur, rfl, _⟩
  · exact ⟨none, 0, by rw [h0]⟩
  · exact ⟨_, _, rfl⟩
theorem row_so {W : World} {base : Nat} {e : TypeId} {size : Nat} {v : Value} {k : Nat} {xs : List Value} (hk : 0 < k) (h : W.ownsRow base e size v k xs) : ∃ g cap, v = .slice (some ⟨g, 0, none⟩) k cap ∧ base ≤ g ∧ g < W.heap.size := by
  have hl := h.lt
  rcases h.2 with ⟨-, h0⟩ | ⟨g, cap, cur, rfl, hb, _⟩
  · omega
  · exact ⟨g, cap, rfl, hb, (hl g rfl).2⟩
/-- the two rows of the document's Allot: the draws, and the remainders behind them -/
structure RAl (W0 : World) (m : Nat) (fo : Nat → Nat) (rv : Value) (i : Nat) (fr : Nat → Int) (w : World) : Prop where
  out : w.ownsRow W0.heap.size 3 1 (.slice (some ⟨W0.heap.size, 0, none⟩) m m) m (encN (fnL fo m))
  rst : w.ownsRow (W0.heap.size + 1) 3 1 rv i (encI (fnI fr i))
  blw : Below W0.heap.size W0 w
section
variable {W0 : World} {m i : Nat} {fo : Nat → Nat} {rv : Value} {fr : Nat → Int} {w : World}
theorem RAl.next (h : RAl W0 m fo rv i fr w) {w' : World} (hb : Below w.heap.size w w') : RAl W0 m fo rv i fr w' :=
  ⟨ownsRow_below h.out hb, ownsRow_below h.rst hb, h.blw.trans (hb.mono h.blw.size)⟩
theorem RAl.ne (h : RAl W0 m fo rv i fr w) : some W0.heap.size ≠ rv.ownBlock := fun e => by
  have := (h.rst.lt _ e.symm).1
  omega
theorem RAl.ne' {g c : Nat} (h : RAl W0 m fo (.slice (some ⟨g, 0, none⟩) i c) i fr w) : (Value.slice (some ⟨W0.heap.size, 0, none⟩) m m).ownBlock ≠ some g := fun e => by
  have h1 := (h.rst.lt g rfl).1
  have e : some W0.heap.size = some g := e
  have e2 : W0.heap.size = g := Option.some.inj e
  omega
theorem RAl.lt (h : RAl W0 m fo rv i fr w) : W0.heap.size < w.heap.size := (h.out.lt _ rfl).2
theorem RAl.co (h : RAl W0 m fo rv i fr w) {j : Nat} (hj : j < m) : w.cell? ⟨W0.heap.size, j, none⟩ = some (.int .i64 (fo j : Int)) := by
  rw [h.out.cellAt j (by omega)]; unfold encN; rw [List.getElem?_map, fnL_at fo hj]; rfl
theorem RAl.so (h : RAl W0 m fo rv i fr w) (j v : Nat) : RAl W0 m (upd1 fo j v) rv i fr (w.setCell ⟨W0.heap.size, j, none⟩ (.int .i64 (v : Int))) :=
  ⟨by rw [← fnL_set, ← encN_put]; exact (h.out.stored j _).1, h.rst.kept (grownBy_setCell w _ j _) (.inr (fun e => h.ne e.symm)), h.blw.setCell (Nat.le_refl _) _⟩
theorem RAl.sr {g c : Nat} (h : RAl W0 m fo (.slice (some ⟨g, 0, none⟩) i c) i fr w) (j : Nat) (v : Int) : RAl W0 m fo (.slice (some ⟨g, 0, none⟩) i c) i (fun x => if x = j then v else fr x) (w.setCell ⟨g, j, none⟩ (.int .i64 v)) :=
  ⟨h.out.kept (grownBy_setCell w g j _) (.inr h.ne'), by rw [← encI_set]; exact (h.rst.stored j _).1, h.blw.setCell (by have := (h.rst.lt g rfl).1; show W0.heap.size ≤ g; omega) _⟩
theorem RAl.cr {g c : Nat} (h : RAl W0 m fo (.slice (some ⟨g, 0, none⟩) i c) i fr w) {j : Nat} (hj : j < i) : w.cell? ⟨g, j, none⟩ = some (.int .i64 (fr j)) := by
  rw [h.rst.cellAt j (by omega)]; exact encI_at fr hj
theorem RAl.congr (h : RAl W0 m fo rv i fr w) {fo' : Nat → Nat} {fr' : Nat → Int} (e1 : ∀ x, x < m → fo x = fo' x) (e2 : ∀ x, x < i → fr x = fr' x) : RAl W0 m fo' rv i fr' w :=
  ⟨by rw [← fnL_congr e1]; exact h.out, by rw [← fnI_congr e2]; exact h.rst, h.blw⟩
end
end Go.Proofs.YtgjkhbognenajaaGreatDoor
namespace Go.Proofs.YtgjkhbognenajaaGreatDoor
open Go Go.RowKit Gu

set_option maxRecDepth 100000 in
set_option maxHeartbeats 2000000 in
theorem RAllot_walk {n t m : Nat} {l : List Int} {ao : Option Addr} {c : Nat} {W : World} {s τ : Nat → Nat} (hv : IsIs W (.slice ao m c) l) (hm : m = l.length) (hP : AllotP n l) (ht : t = sumF (szF l) m) (h0 : 0 < t)
    (p1 : ∀ i, s (τ i) = i) (p2 : ∀ i, τ (s i) = i) (p3 : ∀ i, i < m → s i < m) (p4 : ∀ i, i < m → τ i < m) (p5 : SortedF (RestR (remF n t (szF l))) 0 m s) :
    Calls Tryz.prog 8 #[.int .i64 n, .slice ao m c] W fun e w' => ∃ a, e = .returned (.slice a m m) ∧ Hid (w'.ownsRow W.heap.size 3 1 (.slice a m m) m (encN (fnL (allotF n t (szF l) τ (n - sumF (quoF n t (szF l)) m)) m))) ∧ Hid (Below W.heap.size W w') := by
  have HTO := Lib.hid (Total_any (n := n) hv)
  obtain ⟨i0, hi0, hz0, hz1, hz2⟩ := info_parts Tryz.infoInt
  have hm64 : m ≤ 64 := by rw [hm]; exact hP.1.1
  have hmk := made_int m (by omega)
  obtain ⟨w1, HW1⟩ : ∃ w, w = W.alloc (.cells (madeCells #[.int .i64 0] m) 3) := ⟨_, rfl⟩
  have HW1' := Lib.hid HW1
  have hnt : n ≤ t := by have := hP.2.2; rw [ht, hm]; omega
  have htb : t ≤ 70368744177664 := by
    have h1 := sumF_le (f := szF l) (h := fun _ => 1099511627776) m fun i hi => szF_le hP.1 i (by rw [← hm]; exact hi)
    rw [sumF_const, ← ht] at h1
    omega
  have hsl := shares_le (n := n) ht h0
  have hll := left_lt (n := n) ht h0
  obtain ⟨u, hu⟩ : ∃ u, u = n - sumF (quoF n t (szF l)) m := ⟨_, rfl⟩
  rw [← hu] at hll ⊢
  have HU : Hid (u + sumF (quoF n t (szF l)) m = n) := by show _ = _; omega
  have HA1 : Hid (RAl W m (cutF (quoF n t (szF l)) 0) (.slice none 0 0) 0 (restF n t (szF l) τ 0) w1) := by
    refine ⟨?_, World.ownsRow_nil _ _ _ _, ?_⟩
    · rw [HW1, show fnL (cutF (quoF n t (szF l)) 0) m = fnL (fun _ => 0) m from fnL_congr fun x _ => by simp [cutF]]
      exact row_of_heap (Nat.le_refl _) (heap_alloc_new W _) (made_zero _ _) (by simp [fnL, encN]) (by unfold maxLen; omega)
    · rw [HW1]; exact (Below.refl _ W).alloc (Nat.le_refl _) _
  have hz : ((t : Int) == 0) = false := beq_eq_false_iff_ne.2 (by omega)
  have hz1' : ¬ (t : Int) = 0 := by omega
  have HSM : Hid (∀ i, i < m → i < l.length ∧ (szF l i : Int) = l[i]?.getD 0 ∧ szF l i ≤ 1099511627776) := fun i hi => by
    have h1 : i < l.length := by rw [← hm]; exact hi
    exact ⟨h1, by rw [szF_at h1 (hP.1.2 i h1), List.getElem?_eq_getElem h1, Option.getD_some], szF_le hP.1 i h1⟩
  have HS1 : Hid (W.heap.size < w1.heap.size) := by rw [HW1, World.size_alloc]; show _ < _; omega
  have HNU : Hid (∀ (x : Nat) W', x ≤ 70368744177664 → Calls Tryz.prog 17 #[.int .i64 x] W' fun e w' => ∃ r, e = .returned r ∧ R w' r x ∧ Below W'.heap.size W' w') := fun x W' h => rnum_any x W' (by omega)
  have HV := Lib.hid hv; have HM := Lib.hid hm; have HP := Lib.hid hP; have HT := Lib.hid ht
  have HP1 := Lib.hid p1; have HP2 := Lib.hid p2; have HP3 := Lib.hid p3; have HP4 := Lib.hid p4; have HP5 := Lib.hid p5
  clear hv hm hP ht HW1 p1 p2 p3 p4 p5 hsl hu
  go_enter Tryz.func8, Tryz.ntmps8
  go_wp2_with fail
  refine HTO.out.mono ?_
  rintro _ w' ⟨⟨tt, b, rfl, -, htt⟩, rfl⟩
  obtain rfl : tt = (t : Int) := by rw [htt HP.out.1, HT.out, HM.out]
  clear htt HTO
  go_upto_region 3 with fail
  rw [← HW1'.out]
  go_upto_region 8 with fail
  go_loopw [8, 9, 10, 11, 12, 13, 14, 15, 16] (fun s8 s9 s10 _ _ _ _ _ _ wr => ∃ (i lf : Nat) (so : Option Addr) (sc : Nat), i ≤ m ∧ s8 = .slice so i sc ∧ s10 = .int .i64 i ∧ s9 = .int .i64 lf ∧ Hid (lf + sumF (quoF n t (szF l)) i = n) ∧ Hid (RAl W m (cutF (quoF n t (szF l)) i) (.slice so i sc) i (restF n t (szF l) τ 0) wr)) (fun _ _ s10 _ _ _ _ _ _ _ => m - (intOf s10).toNat)
  case atStart => exact ⟨0, n, none, 0, Nat.zero_le _, rfl, rfl, rfl, rfl, HA1⟩
  case round =>
    obtain ⟨i, lf, so, sc, him, rfl, rfl, rfl, HL, HA⟩ := hrel
    by_cases q : i < m
    · have q1 : (i : Int) < m := by omega
      have hw : IntKind.i64.wrap ((i : Int) + 1) = ((i + 1 : Nat) : Int) := by rw [IntWalk.i64_in _ (by omega)]; omega
      obtain ⟨hil, hse, hsb⟩ := HSM.out i q
      obtain ⟨B, o, e1, d0⟩ := (HV.out.below HA.out.blw).at' hil
      have hB : B < wr.heap.size := World.block_lt_of_cell? _ _ d0
      obtain ⟨y, hy⟩ : ∃ y, y = szF l i := ⟨_, rfl⟩
      rw [show l[i] = (y : Int) by rw [hy, hse, List.getElem?_eq_getElem hil, Option.getD_some]] at d0
      rw [← hy] at hsb
      have hsh := share_big (n := n) (t := t) (y := y) (by omega) htb h0 hsb hnt
      obtain ⟨sh, hshq⟩ : ∃ k, k = n * y / t := ⟨_, rfl⟩
      obtain ⟨re, hreq⟩ : ∃ k, k = n * y % t := ⟨_, rfl⟩
      have HSQ : Hid (sh = quoF n t (szF l) i) := by rw [hshq, hy]; rfl
      have HRQ : Hid (re = remF n t (szF l) i) := by rw [hreq, hy]; rfl
      rw [← hshq, ← hreq] at hsh
      obtain ⟨b1, b2, b3, b4, b5, b6, b7, b8⟩ := hsh
      have HN1 : Hid (∀ W', Calls Tryz.prog 17 #[.int .i64 n] W' fun e w' => ∃ r, e = .returned r ∧ R w' r n ∧ Below W'.heap.size W' w') := fun W' => HNU.out n W' (by omega)
      have HN2 : Hid (∀ W', Calls Tryz.prog 17 #[.int .i64 y] W' fun e w' => ∃ r, e = .returned r ∧ R w' r y ∧ Below W'.heap.size W' w') := fun W' => HNU.out y W' (by omega)
      have HN3 : Hid (∀ W', Calls Tryz.prog 17 #[.int .i64 t] W' fun e w' => ∃ r, e = .returned r ∧ R w' r t ∧ Below W'.heap.size W' w') := fun W' => HNU.out t W' htb
      have HMU : Hid (∀ u v W', R W' u n → R W' v y → Calls Tryz.prog 16 #[u, v] W' fun e w' => ∃ r, e = .returned r ∧ R w' r (n * y) ∧ Below W'.heap.size W' w') := fun u v W' h1 h2 => RMul_any u v n y W' h1 h2 (by omega) (by omega)
      have HDM : Hid (∀ u v W', R W' u (n * y) → R W' v t → Calls Tryz.prog 15 #[u, v] W' fun e w' => ∃ q r, e = .returned (.tuple #[q, r]) ∧ R w' q sh ∧ R w' r re ∧ Below W'.heap.size W' w') := fun u v W' h1 h2 => by
        rw [hshq, hreq]; exact RDivMod_any u v (n * y) t W' h1 h2 h0 b4 (by omega)
      have HI1 : Hid (∀ v W', R W' v sh → Calls Tryz.prog 18 #[v] W' fun e w' => e = .returned (.tuple #[.int .i64 sh, .bool (intB sh)]) ∧ W' = w') := fun v W' h1 => by
        have := RInt_any v sh W' h1 (Nat.le_trans (n60 (by omega)) (by decide))
        rw [b5] at this; exact this
      have HI2 : Hid (∀ v W', R W' v re → Calls Tryz.prog 18 #[v] W' fun e w' => e = .returned (.tuple #[.int .i64 re, .bool (intB re)]) ∧ W' = w') := fun v W' h1 => by
        have := RInt_any v re W' h1 (Nat.le_trans (n60 (by omega)) (by decide))
        rw [b6] at this; exact this
      subst e1
      clear hy hse hshq hreq b1 b2 b3 b4 b5 b6
      generalize n * y = P at *
      go_upto_region 10 with fail
      go_cut [11, 12] from 38 to 51 (fun s11 s12 wz => ∃ q r, s11 = q ∧ s12 = r ∧ Hid (R wz q sh) ∧ Hid (R wz r re) ∧ Hid (Below wr.heap.size wr wz))
      case first =>
        go_region_with (first
          | (go_at_call 17; (with_reducible refine (HN1.out _).mono ?_); rintro e wA ⟨u1, rfl, hu1, hbA⟩; obtain ⟨uo1, uc1, rfl, -⟩ := hu1.shape; have d0A := (hbA.cell (p := ⟨B, o + i, none⟩) hB).trans d0)
          | (go_at_call 17; (with_reducible refine (HN2.out _).mono ?_); rintro e wB ⟨v1, rfl, hv1, hbB⟩; obtain ⟨vo1, vc1, rfl, -⟩ := hv1.shape; have huB := hu1.below hbB)
          | (go_at_call 16; (with_reducible refine (HMU.out _ _ _ huB hv1).mono ?_); rintro e wC ⟨p1, rfl, hp1, hbC⟩; obtain ⟨po1, pc1, rfl, -⟩ := hp1.shape)
          | (go_at_call 17; (with_reducible refine (HN3.out _).mono ?_); rintro e wD ⟨z1, rfl, hz1, hbD⟩; obtain ⟨zo1, zc1, rfl, -⟩ := hz1.shape; have hpD := hp1.below hbD)
          | (go_at_call 15; (with_reducible refine (HDM.out _ _ _ hpD hz1).mono ?_); rintro e wE ⟨q1', r1', rfl, hq1, hr1, hbE⟩; obtain ⟨qo1, qc1, rfl, -⟩ := hq1.shape; obtain ⟨ro1, rc1, rfl, -⟩ := hr1.shape)
          | fail)
        all_goals go_wp2_with fail
        all_goals go_meet
        all_goals exact ⟨_, _, rfl, rfl, hq1, hr1, b_tr (b_tr (b_tr (b_tr (b_tr ((Below.refl _ wr).drew) hbA) hbB) hbC) hbD) hbE⟩
      case rest =>
        obtain ⟨qv, rv, rfl, rfl, HQ, HRR, HB2⟩ := hcut
        obtain ⟨qo, qc, rfl, -⟩ := HQ.out.shape
        obtain ⟨ro, rc, rfl, -⟩ := HRR.out.shape
        have HA2 := Lib.hid (HA.out.next HB2.out)
        obtain ⟨w2, hw2⟩ : ∃ x, x = wc := ⟨_, rfl⟩
        subst hw2
        obtain ⟨z, hz⟩ : ∃ z : Value, z = .int .i64 (cutF (quoF n t (szF l)) i i : Int) := ⟨_, rfl⟩
        have k1 : w2.cell? ⟨W.heap.size, i, none⟩ = some z := by rw [hz]; exact HA2.out.co q
        have k2 : w2.frozen? ⟨W.heap.size, i, none⟩ = false := HA2.out.out.frozenAt i
        have HA3 : Hid (RAl W m (cutF (quoF n t (szF l)) (i + 1)) (.slice so i sc) i (restF n t (szF l) τ 0) (w2.setCell ⟨W.heap.size, i, none⟩ (.int .i64 (sh : Int)))) :=
          (HA2.out.so i sh).congr (fun z _ => by rw [HSQ.out]; exact cutF_step _ _ _) (fun _ _ => rfl)
        clear hz HA HN1 HN2 HN3 HMU HDM d0 hB HNU
        go_wp2_with fail
        refine (HI1.out _ _ HQ.out).mono ?_
        rintro e w' ⟨rfl, rfl⟩
        go_wp2_with fail
        refine (HI2.out _ _ HRR.out).mono ?_
        rintro e w' ⟨rfl, rfl⟩
        go_upto_region 14 with fail
        clear HA2 k1 k2 HI1 HI2 HQ HRR HB2
        generalize World.setCell _ _ _ = w3 at HA3 ⊢
        have hlt := HA3.out.lt
        have hb3 : Below w3.heap.size w3 (w3.alloc (.cells #[.int .i64 (re : Int)] 3)) := alloc1_below _ _
        go_upto_region 15 with (at_builtin; refine wpList_append_own _ rfl _ _ 22 rfl (W.heap.size + 1) 3 i0 (.int .i64 0) 1 8 Tryz.underlying22 hi0 hz0 hz1 hz2 rfl (by decide) (.slice so i sc) i (encI (fnI (restF n t (szF l) τ 0) i)) rfl (HA3.out.rst.alloc _) ⟨w3.heap.size, 0, none⟩ 1 1 [.int .i64 (re : Int)] rfl rfl (cell_one_new _ _ _) (by simp [Value.oneCell']) (by unfold maxLen; omega) (by omega) (by simp; omega) ?_; intro v' w8 hown hgrow _; obtain ⟨so2, sc2, rfl⟩ := row_sl hown)
        have HA4 : Hid (RAl W m (cutF (quoF n t (szF l)) (i + 1)) (.slice so2 (i + 1) sc2) (i + 1) (restF n t (szF l) τ 0) w8) := by
          refine ⟨(HA3.out.out.alloc _).kept hgrow (.inr HA3.out.ne), ?_, ((HA3.out.next hb3).blw).grown hgrow (HA3.out.next hb3).blw.size fun j hj => by have := (HA3.out.rst.lt j hj).1; omega⟩
          rw [← fnI_succ, show restF n t (szF l) τ 0 i = (re : Int) by unfold restF; rw [if_neg (Nat.not_lt_zero _), HRQ.out]]
          exact hown
        have k1 : w8.cell? ⟨W.heap.size, i, none⟩ = some (.int .i64 (sh : Int)) := by
          have := HA4.out.co q
          rw [show cutF (quoF n t (szF l)) (i + 1) i = sh by unfold cutF; rw [if_pos (Nat.lt_succ_self i), HSQ.out]] at this
          exact this
        obtain ⟨l2, hl2⟩ : ∃ l2, l2 = lf - sh := ⟨_, rfl⟩
        have HL2 : Hid (l2 + sumF (quoF n t (szF l)) (i + 1) = n) := by
          have h1 := HL.out
          have h2 := HU.out
          have h3 := sumF_mono (quoF n t (szF l)) (show i + 1 ≤ m from q)
          have h4 : sumF (quoF n t (szF l)) (i + 1) = sumF (quoF n t (szF l)) i + sh := by rw [HSQ.out]; rfl
          show _ = _
          omega
        have hle : sh ≤ lf := by
          have h1 := HL.out
          have h2 := HU.out
          have h3 := sumF_mono (quoF n t (szF l)) (show i + 1 ≤ m from q)
          have h4 : sumF (quoF n t (szF l)) (i + 1) = sumF (quoF n t (szF l)) i + sh := by rw [HSQ.out]; rfl
          omega
        have hlf : lf ≤ n := by have := HL.out; omega
        have hwl : IntKind.i64.wrap ((lf : Int) - (sh : Int)) = (l2 : Int) := by rw [IntWalk.i64_in _ (by omega)]; omega
        clear hown hgrow HA3 hl2 hb3 hlt
        go_wp2_with fail
        go_roundw
        case rel => exact ⟨i + 1, l2, so2, sc2, q, rfl, by go_num, rfl, HL2, HA4⟩
        case measure => simp [intOf]; omega
    · obtain rfl : i = m := by omega
      have q1 : ¬ (i : Int) < i := by omega
      have hlu : lf = u := by have h1 := HL.out; have h2 := HU.out; omega
      subst hlu
      obtain ⟨g, cap, hso, hg1, hg2⟩ := row_so (by omega) HA.out.rst
      injection hso with hso1 hso2 hso3
      subst hso1; subst hso3
      clear hso2
      have HA1' : Hid (RAl W i (allotF n t (szF l) τ 0) (.slice (some ⟨g, 0, none⟩) i sc) i (restF n t (szF l) τ 0) wr) := HA.out.congr (fun z hz => by unfold cutF allotF; rw [if_pos hz, if_neg (Nat.not_lt_zero _), Nat.add_zero]) (fun _ _ => rfl)
      clear HA HL HA1 HNU
      go_wp2_with fail
      go_loopw [9, 17, 18] (fun s9 _ _ wr => ∃ k : Nat, k ≤ lf ∧ s9 = .int .i64 ((lf - k : Nat) : Int) ∧ Hid (RAl W i (allotF n t (szF l) τ k) (.slice (some ⟨g, 0, none⟩) i sc) i (restF n t (szF l) τ k) wr)) (fun s9 _ _ _ => (intOf s9).toNat)
      case atStart => exact ⟨0, Nat.zero_le _, rfl, HA1'⟩
      case round =>
        obtain ⟨k, hk, rfl, HA⟩ := hrel
        by_cases q : k < lf
        · have q2 : ((lf - k : Nat) : Int) > 0 := by omega
          obtain ⟨d, hd⟩ : ∃ d, d = lf - k := ⟨_, rfl⟩
          rw [← hd] at q2 ⊢
          have hwd : IntKind.i64.wrap ((d : Int) - 1) = ((lf - (k + 1) : Nat) : Int) := by rw [IntWalk.i64_in _ (by omega)]; omega
          obtain ⟨d', hd'⟩ : ∃ d', d' = lf - (k + 1) := ⟨_, rfl⟩
          rw [← hd'] at hwd
          have hdd : d' < d := by omega
          have HD' := Lib.hid hd'
          clear hd hd'
          go_upto_region 19 with fail
          go_loopw [17, 18] (fun s17 s18 wr2 => ∃ (j : Nat) (b : Int), j ≤ i ∧ s18 = .int .i64 j ∧ s17 = .int .i64 b ∧ Hid (BestK τ k j b) ∧ Hid (RAl W i (allotF n t (szF l) τ k) (.slice (some ⟨g, 0, none⟩) i sc) i (restF n t (szF l) τ k) wr2)) (fun _ s18 _ => i - (intOf s18).toNat)
          case atStart => exact ⟨0, -1, Nat.zero_le _, rfl, rfl, BestK.start τ k, HA⟩
          case round =>
            obtain ⟨j, b, hji, rfl, rfl, HBK, HA2⟩ := hrel
            have HA3 : Hid (∀ nq, RAl W i (allotF n t (szF l) τ k) (.slice (some ⟨g, 0, none⟩) i sc) i (restF n t (szF l) τ k) (World.drewN wr nq)) := fun nq => HA2.out.next (below_drewM (Below.refl _ _) nq)
            by_cases qj : j < i
            · have qj1 : (j : Int) < i := by omega
              have hwj : IntKind.i64.wrap ((j : Int) + 1) = ((j + 1 : Nat) : Int) := by rw [IntWalk.i64_in _ (by omega)]; omega
              have cj := HA2.out.cr qj
              by_cases c0 : τ j < k
              · rw [show restF n t (szF l) τ k j = -1 from if_pos c0] at cj
                have cjd : wr.drew.cell? ⟨g, j, none⟩ = some (.int .i64 (-1)) := cj
                have HB' := Lib.hid (HBK.out.skip c0)
                have d1 : decide ((-1 : Int) ≥ 0) = false := rfl
                clear c0 HBK
                go_wp2_with fail
                go_quiet (fail)
                rename_i nq
                have HA4 := Lib.hid (HA3.out nq)
                clear HA3
                generalize World.drewN wr nq = w4 at HA4 ⊢
                go_wp2_with fail
                go_roundw
                case rel => exact ⟨j + 1, b, by omega, by go_num, rfl, HB', HA4⟩
                case measure => simp [intOf]; omega
              · obtain ⟨r, hr⟩ : ∃ r, r = remF n t (szF l) j := ⟨_, rfl⟩
                rw [show restF n t (szF l) τ k j = (r : Int) by rw [hr]; exact if_neg c0] at cj
                have cjd : wr.drew.cell? ⟨g, j, none⟩ = some (.int .i64 (r : Int)) := cj
                have d1 : decide ((r : Int) ≥ 0) = true := decide_eq_true (by omega)
                have d1' : decide ((0 : Int) ≤ (r : Int)) = true := decide_eq_true (by omega)
                have HR := Lib.hid hr
                clear hr
                rcases HBK.out with ⟨rfl, hb2⟩ | ⟨a, rfl, ha1, ha2, ha3⟩
                · have HB' : Hid (BestK τ k (j + 1) (j : Int)) := HBK.out.take (by omega) (.inl rfl)
                  have d2 : decide ((-1 : Int) < 0) = true := rfl
                  clear hb2 HBK c0
                  go_wp2_with fail
                  go_quiet (fail)
                  rename_i nq
                  have HA4 := Lib.hid (HA3.out nq)
                  clear HA3
                  generalize World.drewN wr nq = w4 at HA4 ⊢
                  go_wp2_with fail
                  go_roundw
                  case rel => exact ⟨j + 1, (j : Int), by omega, by go_num, rfl, HB', HA4⟩
                  case measure => simp [intOf]; omega
                · have hai : a < i := by omega
                  have ca := HA2.out.cr hai
                  obtain ⟨ra, hra⟩ : ∃ r, r = remF n t (szF l) a := ⟨_, rfl⟩
                  rw [show restF n t (szF l) τ k a = (ra : Int) by rw [hra]; exact if_neg (by omega)] at ca
                  have cad : wr.drew.cell? ⟨g, a, none⟩ = some (.int .i64 (ra : Int)) := ca
                  have d2 : decide ((a : Int) < 0) = false := decide_eq_false (by omega)
                  have hai2 : (a : Int) < i := by omega
                  have hT := tau_lt (RestR.ord (remF n t (szF l))) HP1.out HP4.out HP5.out qj hai (by omega)
                  have hT2 : RestR (remF n t (szF l)) j a ↔ ra < r := by unfold RestR; rw [← HR.out, ← hra]; omega
                  rw [hT2] at hT
                  by_cases e : ra < r
                  · have HB' : Hid (BestK τ k (j + 1) (j : Int)) := HBK.out.take (by omega) (.inr fun a' ha' => by have : a = a' := by omega
                                                                                                                   subst this; exact Nat.le_of_lt (hT.1 e))
                    have d3 : decide ((r : Int) > (ra : Int)) = true := decide_eq_true (by omega)
                    have d3' : decide ((ra : Int) < (r : Int)) = true := decide_eq_true (by omega)
                    have d4 : decide (ra < r) = true := decide_eq_true e
                    clear hT hT2 hra ha1 ha2 ha3 HBK c0
                    go_wp2_with fail
                    go_quiet (fail)
                    rename_i nq
                    have HA4 := Lib.hid (HA3.out nq)
                    clear HA3
                    generalize World.drewN wr nq = w4 at HA4 ⊢
                    go_wp2_with fail
                    go_roundw
                    case rel => exact ⟨j + 1, (j : Int), by omega, by go_num, rfl, HB', HA4⟩
                    case measure => simp [intOf]; omega
                  · have HB' : Hid (BestK τ k (j + 1) (a : Int)) := HBK.out.keep (by have := mt hT.2 e; omega)
                    have d3 : decide ((r : Int) > (ra : Int)) = false := decide_eq_false (by omega)
                    have d3' : decide ((ra : Int) < (r : Int)) = false := decide_eq_false (by omega)
                    have d4 : decide (ra < r) = false := decide_eq_false e
                    clear hT hT2 hra ha1 ha2 ha3 HBK c0
                    go_wp2_with fail
                    go_quiet (fail)
                    rename_i nq
                    have HA4 := Lib.hid (HA3.out nq)
                    clear HA3
                    generalize World.drewN wr nq = w4 at HA4 ⊢
                    go_wp2_with fail
                    go_roundw
                    case rel => exact ⟨j + 1, (a : Int), by omega, by go_num, rfl, HB', HA4⟩
                    case measure => simp [intOf]; omega
            · obtain rfl : j = i := by omega
              have qj1 : ¬ (j : Int) < j := by omega
              have hkj : k < j := by omega
              have hbs := HBK.out.done HP1.out HP2.out HP3.out hkj
              obtain ⟨x, hx⟩ : ∃ x, x = s k := ⟨_, rfl⟩
              rw [← hx] at hbs
              have hxj : x < j := by rw [hx]; exact HP3.out k hkj
              have hxj2 : (x : Int) < j := by omega
              subst hbs
              have c0 := HA2.out.co hxj
              have f0 := HA2.out.out.frozenAt x
              obtain ⟨v, hv⟩ : ∃ v, v = allotF n t (szF l) τ k x := ⟨_, rfl⟩
              rw [← hv] at c0
              have hv2 : v = quoF n t (szF l) x := by rw [hv]; unfold allotF; rw [hx, HP2.out, if_neg (Nat.lt_irrefl k), Nat.add_zero]
              have hvb : v ≤ 1099511627776 := by rw [hv2]; exact Nat.le_trans (quo_le hnt h0) (HSM.out x hxj).2.2
              obtain ⟨v', hv'⟩ : ∃ z, z = v + 1 := ⟨_, rfl⟩
              have hwv : IntKind.i64.wrap ((v : Int) + 1) = (v' : Int) := by rw [IntWalk.i64_in _ (by omega)]; omega
              have HA4 : Hid (RAl W j (allotF n t (szF l) τ (k + 1)) (.slice (some ⟨g, 0, none⟩) j sc) j (restF n t (szF l) τ k) (wr.setCell ⟨W.heap.size, x, none⟩ (.int .i64 (v' : Int)))) :=
                (HA2.out.so x v').congr (fun z _ => by rw [hv', hv2, hx]; exact allotF_step HP1.out HP2.out k z) (fun _ _ => rfl)
              have HX := Lib.hid hx
              clear hx hv hv2 hv' HBK HA3
              go_upto_region 24 with fail
              clear c0 f0 HA2
              generalize World.setCell _ _ _ = w5 at HA4 ⊢
              have c1 := HA4.out.cr hxj
              have f1 := HA4.out.rst.frozenAt x
              obtain ⟨zz, hzz⟩ : ∃ z : Value, z = .int .i64 (restF n t (szF l) τ k x) := ⟨_, rfl⟩
              rw [← hzz] at c1
              have HA5 : Hid (RAl W j (allotF n t (szF l) τ (k + 1)) (.slice (some ⟨g, 0, none⟩) j sc) j (restF n t (szF l) τ (k + 1)) (w5.setCell ⟨g, x, none⟩ (.int .i64 (-1)))) :=
                (HA4.out.sr x (-1)).congr (fun _ _ => rfl) (fun z _ => by rw [HX.out]; exact restF_step HP1.out HP2.out k z)
              clear hzz
              go_wp2_with fail
              go_roundw
              case rel => exact ⟨k + 1, by omega, by rw [HD'.out], HA5⟩
              case measure => simp [intOf]; omega
        · obtain rfl : k = lf := by omega
          have q2 : ¬ ((k - k : Nat) : Int) > 0 := by omega
          rw [show k - k = 0 by omega] at q2 ⊢
          go_wp2_with fail
          go_ret
          exact ⟨some ⟨W.heap.size, 0, none⟩, rfl, HA.out.out, HA.out.blw⟩
end Go.Proofs.YtgjkhbognenajaaGreatDoor
namespace Go.Proofs.YtgjkhbognenajaaGreatDoor
open Go Go.RowKit Gu

set_option maxRecDepth 100000 in
set_option maxHeartbeats 1000000 in
theorem RAllot_any {n m : Nat} {l : List Int} {ao : Option Addr} {c : Nat} {W : World} {L : List Nat} (hv : IsIs W (.slice ao m c) l) (hm : m = l.length) (hP : AllotP n l) (hk : AlK n (sumF (szF l) m) m (szF l) L) :
    Calls Tryz.prog 8 #[.int .i64 n, .slice ao m c] W fun e w' => ∃ a, e = .returned (.slice a m m) ∧ Hid (w'.ownsRow W.heap.size 3 1 (.slice a m m) m (encN L)) ∧ Hid (Below W.heap.size W w') := by
  obtain ⟨s, τ, p1, p2, p3, p4, p5, rfl⟩ := hk
  rcases Nat.eq_zero_or_pos (sumF (szF l) m) with h0 | h0
  · have hn0 : n = 0 := by have := hP.2.2; rw [← hm] at this; omega
    subst hn0
    have HTO := Lib.hid (Total_any (n := (0 : Nat)) hv)
    have hm64 : m ≤ 64 := by rw [hm]; exact hP.1.1
    have hmk := made_int m (by omega)
    have HB : Hid (Below W.heap.size W (W.alloc (.cells (madeCells #[.int .i64 0] m) 3))) := (Below.refl _ W).alloc (Nat.le_refl _) _
    have HR : Hid ((W.alloc (.cells (madeCells #[.int .i64 0] m) 3)).ownsRow W.heap.size 3 1 (.slice (some ⟨W.heap.size, 0, none⟩) m m) m (encN (fnL (allotF 0 (sumF (szF l) m) (szF l) τ (0 - sumF (quoF 0 (sumF (szF l) m) (szF l)) m)) m))) := by
      show World.ownsRow _ _ _ _ _ _ _
      rw [show fnL (allotF 0 (sumF (szF l) m) (szF l) τ (0 - sumF (quoF 0 (sumF (szF l) m) (szF l)) m)) m = fnL (fun _ => 0) m from fnL_congr fun x _ => by simp [allotF, quoF]]
      exact row_of_heap (Nat.le_refl _) (heap_alloc_new W _) (made_zero _ _) (by simp [fnL, encN]) (by unfold maxLen; omega)
    have HZ : Hid (∀ t : Int, (GoodS l → t = (sumF (szF l) l.length : Int)) → t = 0) := fun t h => by rw [h hP.1, ← hm, h0]; rfl
    clear hv hP h0 p1 p2 p3 p4 p5 hm
    go_enter Tryz.func8, Tryz.ntmps8
    go_wp2_with fail
    refine HTO.out.mono ?_
    rintro _ w' ⟨⟨tt, b, rfl, -, htt⟩, rfl⟩
    obtain rfl : tt = 0 := HZ.out tt htt
    clear htt HTO
    go_wp2_with fail
    go_ret
    exact ⟨_, rfl, HR, HB⟩
  · exact RAllot_walk hv hm hP rfl h0 p1 p2 p3 p4 p5
theorem encI_one (l : List Int) : ∀ u ∈ encI l, u.oneCell' = true := by
  intro u hu
  obtain ⟨x, _, rfl⟩ := List.mem_map.1 hu
  rfl
theorem IsIs.of_row {W : World} {base : Nat} {v : Value} {l : List Int} (h : W.ownsRow base 3 1 v l.length (encI l)) : IsIs W v l := by
  have hcs := fun g hg => h.cells (g := g) hg
  have hlt := h.lt
  rcases h.2 with ⟨rfl, h0⟩ | ⟨g, cap, cur, rfl, _⟩
  · exact ⟨none, 0, by rw [h0], fun hp => by omega⟩
  · refine ⟨some ⟨g, 0, none⟩, cap, rfl, fun hp => ⟨g, 0, rfl, (hlt g rfl).2, fun j hj => ?_⟩⟩
    have e0 : (encI l)[j]? = some (.int .i64 l[j]) := by simp [encI, hj]
    have c0 := hcs g rfl _ _ e0
    rw [show (⟨g, 0, none⟩ : Addr).add j = ⟨g, 0 + j, none⟩ from Addr.add_lit ..] at c0
    exact c0
theorem IsIs.news {W : World} {B o n c : Nat} {l : List Int} (h : IsIs W (.slice (some ⟨B, o, none⟩) n c) l) : ∀ j u, (encI l)[j]? = some u → W.cell? ((⟨B, o, none⟩ : Addr).add j) = some u := by
  intro j u hj
  have hlt : j < l.length := by
    have := (List.getElem?_eq_some_iff.1 hj).1
    simpa [encI] using this
  obtain ⟨B', o', e, c0⟩ := h.at' (j := j) hlt
  injection e with e
  injection e with e1 e2
  subst e1; subst e2
  have e0 : (encI l)[j]? = some (.int .i64 l[j]) := by simp [encI, hlt]
  rw [e0] at hj
  rw [show (⟨B, o, none⟩ : Addr).add j = ⟨B, o + j, none⟩ from Addr.add_lit ..]
  cases hj
  exact c0
/-- an append of a list of ints to a row of the law's own -/
theorem wpList_append_ints {w : World} {ops : Array Oper} {rest : List Oper} {o : Oper} {a : Go.Act} {Q : Exit → Go.Act → World → Prop} (hgd : o.guard = none) (s x : Operand)
    (ho : o.op = .call { callee := .builtin .append, args := #[s, x], argTypes := #[22, 22] }) {base : Nat} {v cv : Value} {n m : Nat} {l k : List Int} (hmk : m = k.length)
    (hs : a.eval s = v) (hown : w.ownsRow base 3 1 v n (encI l)) (hx : a.eval x = cv) (hk : IsIs w cv k) (hkv : cv = .slice none 0 0 ∨ ∃ a m c, cv = .slice (some a) m c) (hm : n + m ≤ 1000000) (hb : base ≤ w.heap.size)
    (h : ∀ a2 c2 w5, w5.ownsRow base 3 1 (.slice a2 (n + m) c2) (n + m) (encI (l ++ k)) → w.grownBy w5 v.ownBlock → wpList Tryz.prog ops Q rest (a.put o.dst (.slice a2 (n + m) c2)) w5) : wpList Tryz.prog ops Q (o :: rest) a w := by
  refine wpList_plain hgd fun K hK => ?_
  obtain ⟨i0, hi0, hz0, hz1, hz2⟩ := info_parts Tryz.infoInt
  rcases hkv with rfl | ⟨a0, m0, c0, rfl⟩
  · have hk0 : m = 0 := by
      obtain ⟨_, _, hv, _⟩ := hk
      simp only [Value.slice.injEq] at hv
      exact hmk.trans hv.2.1.symm
    have hk1 : k = [] := List.eq_nil_of_length_eq_zero (hmk.symm.trans hk0)
    subst hk1; subst hk0
    have hr := run_append_owned_none (P := Tryz.prog) w base 22 o.type 3 i0 1 Tryz.underlying22 hi0 v n _ hown
    unfold Oper.wp execOp
    simp only [ho, resolve, invoke, builtin, Sem.run_bind, Sem.run_pure, Result.andThen_ok, List.map_toArray, List.map_cons, List.map_nil, hs, hx, hr]
    obtain ⟨a2, c2, rfl⟩ := row_sl hown
    exact hK _ _ (h a2 c2 w (by rw [Nat.add_zero, List.append_nil]; exact hown) ⟨rfl, rfl, rfl, Nat.le_refl _, fun _ _ _ => rfl⟩)
  · have hm0 : m0 = m := by
      obtain ⟨_, _, hv, _⟩ := hk
      simp only [Value.slice.injEq] at hv
      exact hv.2.1.trans hmk.symm
    subst hm0
    have hnw : ∀ j u, (encI k)[j]? = some u → w.cell? (a0.add j) = some u := by
      by_cases hz : k = []
      · subst hz
        intro j u hj
        simp [encI] at hj
      · obtain ⟨B, o', e, _⟩ := hk.at' (j := 0) (List.length_pos_iff.2 hz)
        injection e with e
        subst e
        exact hk.news
    refine wp_append_own w s x _ ho base _ i0 _ 1 8 Tryz.underlying22 hi0 hz0 hz1 hz2 rfl (by decide) v n _ hs hown a0 m0 c0 (encI k) hx (by rw [encI, List.length_map, hmk, Nat.mul_one]) hnw (encI_one k) (Nat.le_trans hm (by decide)) (Nat.le_trans (Nat.mul_le_mul_right 8 hm) (by decide)) hb ?_
    intro v' w5 hown' hgrow _
    have e2 : encI l ++ encI k = encI (l ++ k) := by simp [encI]
    rw [e2] at hown'
    obtain ⟨a2, c2, rfl⟩ := row_sl hown'
    exact hK _ _ (h _ _ _ hown' hgrow)
set_option maxRecDepth 100000 in
set_option maxHeartbeats 2000000 in
theorem sampleAllots_law {n : Int} {v : Value} {l : List Int} {W : World} (hn : -9223372036854775808 ≤ n ∧ n ≤ 9223372036854775807) (hv : IsIs W v l) (hvs : v = .slice none 0 0 ∨ ∃ a m c, v = .slice (some a) m c) (he : Env W) :
    Calls Tryz.prog 3 #[.int .i64 n, v] W fun e w' => e = .returned (.bool true) ∧ Below W.heap.size W w' := by
  have HAW : Hid (∀ W', Below W.heap.size W W' → Calls Tryz.prog 4 #[] W' fun e w' => e = .returned (.bool true) ∧ Hid (Below W'.heap.size W' w')) := fun W' h => sawake_any W' (he.below h)
  have HV2 := Lib.hid hvs
  have HI := Lib.hid hv
  obtain ⟨ao, c, rfl, -⟩ := hv
  obtain ⟨m, hm⟩ : ∃ m, m = l.length := ⟨_, rfl⟩
  rw [← hm] at HI HV2
  rw [← hm]
  have HM := Lib.hid hm
  clear hm he hvs
  by_cases hbig : (m : Int) > 100
  · go_enter Tryz.func3, Tryz.ntmps3
    go_wp2_with fail
    refine (HAW.out _ (Below.refl _ _)).mono ?_
    rintro e w' ⟨rfl, hb⟩
    go_wp2_with fail
    go_ret
    exact ⟨rfl, hb.out⟩
  · have hm100 : m ≤ 100 := by omega
    go_enter Tryz.func3, Tryz.ntmps3
    go_wp2_with (at_builtin; refine wpList_append_ints rfl _ _ rfl (base := W.heap.size) (v := .slice (some ⟨W.heap.size, 0, none⟩) 0 0) (cv := .slice ao m c) (n := 0) (m := m) (l := []) (k := l) ?c1 rfl ?c2 rfl ?c3 ?c4 ?c5 ?c6 ?_)
    case c1 => exact HM.out
    case c2 => exact World.ownsRow_lit W #[] 0 (Nat.le_refl _) (by decide) (by simp)
    case c3 => exact HI.out.below (alloc1_below _ _)
    case c4 => simpa using HV2.out
    case c5 => omega
    intro a2 c2 w5 hown hg
    have hb5 : Below W.heap.size W w5 := (alloc1_below W _).grown hg (by simp) (fun k hk => by simp [Value.ownBlock] at hk; omega)
    have HB5 := Lib.hid hb5
    skip
    have HIN : Hid (IsIs w5 (.slice a2 m c2) l) := IsIs.of_row (by rw [← HM.out]; exact hown)
    have HSZ : Hid (IsIs w5 (.slice ao m c) l) := HI.out.below hb5
    have HALL := Lib.hid (Allot_any (n := n) HIN.out)
    clear hg hb5 hown
    go_wp2_with fail
    refine HALL.out.mono ?_
    rintro _ w6 ⟨hr, HB6⟩
    have HIN6 := Lib.hid (HIN.out.below HB6.out)
    have HSZ6 := Lib.hid (HSZ.out.below HB6.out)
    have HTO := Lib.hid (Total_any (n := n) HSZ6.out)
    have HB6' := Lib.hid (b_tr HB5.out HB6.out)
    clear HALL HIN HSZ HB5 HI
    rcases hr with ⟨hP, a, L, rfl, hk, hr⟩ | ⟨hno, rfl⟩
    · have HP := Lib.hid hP
      obtain ⟨nn, rfl⟩ : ∃ k : Nat, n = (k : Int) := ⟨n.toNat, by have := hP.2.1; omega⟩
      rw [← HM.out] at hk hr ⊢
      have hk' : AlK nn (sumF (szF l) m) m (szF l) L := hk
      have HLL : Hid (L.length = m) := by obtain ⟨_, _, _, _, _, _, _, e⟩ := hk; rw [e]; exact fnL_len _ _
      have HRA : Hid (∀ W', IsIs W' (.slice ao m c) l → Calls Tryz.prog 8 #[.int .i64 nn, .slice ao m c] W' fun e w' => ∃ a, e = .returned (.slice a m m) ∧ Hid (w'.ownsRow W'.heap.size 3 1 (.slice a m m) m (encN L)) ∧ Hid (Below W'.heap.size W' w')) := fun W' h => RAllot_any h HM.out hP hk'
      have HZL : Hid (IsZs w6 (.slice a m m) L) := IsZs.of_row hr HLL.out.symm
      clear hP hk hk' hr
      go_wp2_with fail
      refine HTO.out.mono ?_
      rintro _ w' ⟨⟨t, b, rfl, hb, -⟩, rfl⟩
      obtain rfl : b = true := hb.2 HP.out
      clear hb HTO
      go_wp2_with fail
      refine (HRA.out _ HSZ6.out).mono ?_
      rintro _ w7 ⟨a7, rfl, hr7, HB7⟩
      have HS1 := Lib.hid (Same_yes (HZL.out.below HB7.out) (IsZs.of_row hr7.out HLL.out.symm) (by rw [HLL.out]; omega))
      clear hr7 HRA
      go_wp2_with fail
      refine HS1.out.mono ?_
      rintro _ w8 ⟨rfl, HB8⟩
      have HB68 := Lib.hid (b_tr HB7.out HB8.out)
      have HZ1 : Hid (IsZs w8 (.slice a2 m c2) (fnL (szF l) l.length)) := (by have := (HIN6.out.below HB68.out).zs HP.out.1; exact this)
      have HZ2 : Hid (IsZs w8 (.slice ao m c) (fnL (szF l) l.length)) := (by have := (HSZ6.out.below HB68.out).zs HP.out.1; exact this)
      have HS2 := Lib.hid (Same_yes HZ1.out HZ2.out (by rw [fnL_len, ← HM.out]; omega))
      have HB8' := Lib.hid (b_tr HB6'.out HB68.out)
      clear HS1 HZ1 HZ2
      go_wp2_with fail
      refine HS2.out.mono ?_
      rintro _ w9 ⟨rfl, HB9⟩
      have HB9' := Lib.hid (b_tr HB8'.out HB9.out)
      have HA9 := Lib.hid (HAW.out _ HB9'.out)
      clear HS2
      go_wp2_with fail
      refine HA9.out.mono ?_
      rintro e w' ⟨rfl, hb⟩
      go_wp2_with fail
      go_ret
      exact ⟨rfl, b_tr HB9'.out hb.out⟩
    · have HNO := Lib.hid hno
      clear hno
      go_wp2_with fail
      refine HTO.out.mono ?_
      rintro _ w' ⟨⟨t, b, rfl, hb, -⟩, rfl⟩
      obtain rfl : b = false := by
        cases b with
        | false => rfl
        | true => exact absurd (hb.1 rfl) HNO.out
      have HA9 := Lib.hid (HAW.out _ HB6'.out)
      clear hb HTO
      go_wp2_with fail
      refine HA9.out.mono ?_
      rintro e w' ⟨rfl, hb⟩
      go_wp2_with fail
      go_ret
      exact ⟨rfl, b_tr HB6'.out hb.out⟩
end Go.Proofs.YtgjkhbognenajaaGreatDoor
namespace Go.Proofs.YtgjkhbognenajaaGreatDoor
open Go Go.RowKit Gu

theorem sumF_elem (f : Nat → Nat) {i m : Nat} (h : i < m) : f i ≤ sumF f m :=
  Nat.le_trans (Nat.le_add_left _ _) (sumF_mono f (show i + 1 ≤ m from h))
end Go.Proofs.YtgjkhbognenajaaGreatDoor
namespace Go.Proofs.YtgjkhbognenajaaGreatDoor
open Go Go.ChangeShapes Go.WideShapes Go.ChangeAt Go.RowKit Go.Deep Gu

theorem addz' (b o k : Nat) : (⟨b, o, none⟩ : Addr).add k = ⟨b, o + k, none⟩ := by
  unfold Addr.add
  split <;> simp_all
theorem one_int' : Tryz.prog.cellsOf 3 = 1 := by kernel_rfl
theorem ints_of {H : Type} {enc : TypeId × Value → H} {W : World} {v : Value} {d : DataW H} {p : List MemPlace} (h : DataW.Trod enc Tryz.prog W 0 (fun _ => true) true 22 v d p) (hv : ∃ a n c, v = .slice a n c) : ∃ l, IsIs W v l := by
  obtain ⟨a0, len0, cap0, rfl⟩ := hv
  obtain ⟨fuel, hf⟩ := h
  rcases open_slice Tryz.underlying22 hf with ⟨hcs, _⟩ | ⟨a, len, cap, m, n, D, Pl, hcs, _, hl, _, hm, _, hi⟩
  · simp [Value.cells] at hcs
    obtain ⟨rfl, rfl, rfl⟩ := hcs
    exact ⟨[], none, 0, rfl, fun h => absurd h (by simp)⟩
  · simp [Value.cells] at hcs
    obtain ⟨rfl, rfl, rfl⟩ := hcs
    simp only [if_true] at hm
    have hex : ∀ i, i < len0 → ∃ x : Int, W.cell? (a.add i) = some (.int .i64 x) := fun i hlt => by
      obtain ⟨cs', hc, ht⟩ := hi i (by omega)
      rw [one_int', Nat.mul_one] at hc
      obtain ⟨_, hln, hat⟩ := World.cells?_some hc
      obtain ⟨x, e, _⟩ := DataW.trod_int Tryz.underlying3 ht
      refine ⟨x, ?_⟩
      have h0 := hat 0 (by decide)
      rw [e] at h0
      have ha : (a.add i).add 0 = a.add i := by
        obtain ⟨b, o, s⟩ := a
        unfold Addr.add
        split <;> simp_all
      rw [ha] at h0
      exact h0
    obtain ⟨g, hg⟩ : ∃ g : Nat → Int, ∀ i, i < len0 → W.cell? (a.add i) = some (.int .i64 (g i)) :=
      ⟨fun i => if h : i < len0 then (hex i h).choose else 0, fun i h => by simp only [dif_pos h]; exact (hex i h).choose_spec⟩
    refine ⟨(List.range len0).map g, some a, cap0, by simp, fun hp => ?_⟩
    have hp : 0 < len0 := by simpa using hp
    obtain ⟨b, o, s⟩ := a
    have h00 := hg 0 hp
    obtain rfl : s = none := by
      cases s with
      | none => rfl
      | some _ =>
        exfalso
        unfold World.cell? Addr.add at h00
        simp only [if_true] at h00
        split at h00 <;> simp at h00
    obtain ⟨ob, ho, _⟩ := cells_of_cell h00
    rw [addz'] at ho
    refine ⟨b, o, rfl, (Array.getElem?_eq_some_iff.1 ho).1, fun j hj => ?_⟩
    have hj2 : j < len0 := by simpa using hj
    have := hg j hj2
    rw [addz'] at this
    rw [this]
    simp
end Go.Proofs.YtgjkhbognenajaaGreatDoor
