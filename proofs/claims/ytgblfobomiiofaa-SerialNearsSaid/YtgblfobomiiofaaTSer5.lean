/- Contracts and lemmas (several texts merged into one). -/
import Derived.Test.YtgblfobomiiofaaTSer4
import Derived.Deep.RegionWith
import Derived.RangeFuncNested
import Derived.RangeFuncBound
import Derived.RangeFuncLeaves
import Derived.Shelf.Abstract
import Derived.WalkKit
import Derived.OwnWalkIn
import Derived.TacticsInMore
import Derived.RegionIn
import Derived.Stop.RegionWithIn
import Derived.BigRegionIn
import Derived.Sort.CutIn
import Derived.Shelf.RegionOpen
import Derived.LoopNIn
import Derived.LoopIn
namespace Go.Proofs.Ytgblfobomiiofaa
open Go Go.RowKit Gw Go.Maps

theorem store_place {W : World} {Y : Nat} {a b c : Int} {y0 y1 y2 : Value} (z0 : W.cell? ⟨Y, 0, none⟩ = some y0) (z1 : W.cell? ⟨Y, 1, none⟩ = some y1) (z2 : W.cell? ⟨Y, 2, none⟩ = some y2)
    (f0 : W.frozen? ⟨Y, 0, none⟩ = false) (f1 : W.frozen? ⟨Y, 1, none⟩ = false) (f2 : W.frozen? ⟨Y, 2, none⟩ = false) :
    (Instr.storeAt 88 (.pointer (some ⟨Y, 0, none⟩)) (.agg #[.int .i64 a, .int .i64 b, .int .i64 c])).run Try.prog W = .ok () (((W.setCell ⟨Y, 0, none⟩ (.int .i64 a)).setCell ⟨Y, 1, none⟩ (.int .i64 b)).setCell ⟨Y, 2, none⟩ (.int .i64 c)) := by
  simp [Instr.storeAt, go_sem, z0, z1, z2, f0, f1, f2]
/-- the series in memory, with its automaton -/
structure SerA (R mb : Nat) (al : ByteArray) (n : Nat) (ck : Bool) (f : Nat → Nat → Option Nat) (w : World) : Prop where
  se : Ser R al n ck w
  c3 : w.cell? ⟨R, 3, none⟩ = some (.map (some mb))
  mp : MapF KA mb (fun a => f a.1 a.2) w
theorem SerA.below {R mb n : Nat} {al : ByteArray} {ck : Bool} {f : Nat → Nat → Option Nat} {w w' : World} (h : SerA R mb al n ck f w) (hb : Below w.heap.size w w') : SerA R mb al n ck f w' :=
  ⟨h.se.below hb, (hb.cell (p := ⟨R, 3, none⟩) h.se.lt).trans h.c3, h.mp.below hb⟩
set_option maxHeartbeats 2000000 in
theorem start_any {R n : Nat} {al : ByteArray} {ck : Bool} {w : World} (h : Ser R al n ck w) :
    Calls Try.prog 57 #[.pointer (some ⟨R, 0, none⟩)] w fun e w' => e = .returned (plcV (0, 0, al.size)) ∧ Hid (Below w.heap.size w w') := by
  have c0 := h.c0
  have hR := h.lt
  clear h
  obtain ⟨A, hA⟩ : ∃ A, A = al.size := ⟨_, rfl⟩
  have hls : ∀ (t ty : TypeId), Try.prog.underlying t = some .string → ∀ W, (Builtin.len_ #[t] ty #[.string al]).run Try.prog W = .ok (.int .i64 (A : Int)) W := fun t ty ht W => by rw [run_len_string _ _ _ _ ht, hA]; rfl
  rw [← hA]
  unfold plcV
  clear hA
  go_enter Try.func57, Try.ntmps57
  go_wp2_with fail
  refine bodyPost_ret (v := .agg #[.int .i64 0, .int .i64 0, .int .i64 (A : Int)]) (by simp [results, Try.results57, go_sem]) rfl ?_
  exact ⟨rfl, below_al _ _⟩
set_option maxRecDepth 100000 in
set_option maxHeartbeats 2000000 in
theorem step_any {R mb n : Nat} {al : ByteArray} {ck : Bool} {f : Nat → Nat → Option Nat} {w : World} (h : SerA R mb al n ck f w) (h1 : 2 ≤ al.size) (h2 : al.size ≤ 36) {i s p v : Nat} (hi : i ≤ 1000) (hs : s < 200) (hp : p ≤ 1000) (hv : v < 40) :
    Calls Try.prog 71 #[.pointer (some ⟨R, 0, none⟩), plcV (i, s, p), .int .i64 (v : Int)] w fun e w' => e = .returned (.tuple #[plcV (i + 1, (f s v).getD 0, ncN al.size p v), .bool (f s v).isSome]) ∧ Hid (Below w.heap.size w w') := by
  have H := Lib.hid h
  have c3 := h.c3
  have hR := h.se.lt
  have hw : IntKind.i64.wrap ((i : Int) + 1) = ((i + 1 : Nat) : Int) := by rw [IntWalk.i64_in _ (by omega)]; omega
  obtain ⟨i1, hi1⟩ : ∃ i1, i1 = i + 1 := ⟨_, rfl⟩
  obtain ⟨fe, hfe⟩ : ∃ fe, fe = f s v := ⟨_, rfl⟩
  rw [← hi1] at hw ⊢
  rw [← hfe]
  have HFE := Lib.hid hfe
  clear h hi1 hfe
  unfold plcV
  go_enter Try.func71, Try.ntmps71
  go_upto_region 1 with fail
  obtain ⟨w1, hw1⟩ : ∃ w1, w1 = w.alloc (.cells #[.int .i64 (i : Int), .int .i64 (s : Int), .int .i64 (p : Int)] 88) := ⟨_, rfl⟩
  obtain ⟨w2, hw2⟩ : ∃ w2, w2 = w1.alloc (.cells #[.int .i64 0, .int .i64 0, .int .i64 0] 88) := ⟨_, rfl⟩
  have hb1 : Below w.heap.size w w1 := by rw [hw1]; exact below_al _ _
  have hb2 : Below w1.heap.size w1 w2 := by rw [hw2]; exact below_al _ _
  have s1 : w1.heap.size = w.heap.size + 1 := by rw [hw1]; exact World.size_alloc _ _
  have p0 : w1.cell? ⟨w.heap.size, 0, none⟩ = some (.int .i64 (i : Int)) := by rw [hw1]; exact World.cell?_alloc_at _ _ _ _ rfl
  have p1 : w1.cell? ⟨w.heap.size, 1, none⟩ = some (.int .i64 (s : Int)) := by rw [hw1]; exact World.cell?_alloc_at _ _ _ _ rfl
  have p2 : w1.cell? ⟨w.heap.size, 2, none⟩ = some (.int .i64 (p : Int)) := by rw [hw1]; exact World.cell?_alloc_at _ _ _ _ rfl
  rw [← hw1, ← hw2]
  have hB2 := Lib.hid (hb1.trans (hb2.mono (by omega)))
  have H2 := Lib.hid ((H.out.below hb1).below hb2)
  obtain ⟨X, hX⟩ : ∃ X, X = w.heap.size := ⟨_, rfl⟩
  rw [← hX] at p0 p1 p2 s1 hR ⊢
  have q0 := (hb2.cell (p := ⟨X, 0, none⟩) (by show X < _; omega)).trans p0
  have q1 := (hb2.cell (p := ⟨X, 1, none⟩) (by show X < _; omega)).trans p1
  have q2 := (hb2.cell (p := ⟨X, 2, none⟩) (by show X < _; omega)).trans p2
  have z0 : w2.cell? ⟨X + 1, 0, none⟩ = some (.int .i64 0) := by rw [hw2, ← s1]; exact World.cell?_alloc_at _ _ _ _ rfl
  have z1 : w2.cell? ⟨X + 1, 1, none⟩ = some (.int .i64 0) := by rw [hw2, ← s1]; exact World.cell?_alloc_at _ _ _ _ rfl
  have z2 : w2.cell? ⟨X + 1, 2, none⟩ = some (.int .i64 0) := by rw [hw2, ← s1]; exact World.cell?_alloc_at _ _ _ _ rfl
  have hh : w2.heap[X + 1]? = some (.cells #[.int .i64 0, .int .i64 0, .int .i64 0] 88 (0, 0)) := by rw [hw2, ← s1]; exact World.alloc_heap_new _ _
  have HFZ : Hid (∀ j, w2.frozen? ⟨X + 1, j, none⟩ = false) := fun j => by unfold World.frozen?; dsimp only; rw [hh]; simp
  have c3' := H2.out.c3
  have hlk : ∀ q, (Instr.lookup 76 (.map (some mb)) (.agg #[.int .i64 (s : Int), .int .i64 (v : Int)]) true).run Try.prog (w2.drewN q) = .ok (.tuple #[.int .i64 ((fe.getD 0 : Nat) : Int), .bool fe.isSome]) (w2.drewN q) := fun q => by
    rw [HFE.out]
    exact (H2.out.mp.below (below_dr w2 q)).get2 (a := (s, v)) Try.underlying76 ⟨hs, hv⟩
  have HNC := Lib.hid (fun (W : World) (hS : Ser R al n ck W) => nextCheck_any hS h1 h2 hp (show v ≤ 1000 by omega))
  have HX := Lib.hid hX
  clear hh hw1 hw2 hb1 hb2 s1 p0 p1 p2 hX c3 H
  obtain ⟨Y, hY⟩ : ∃ Y, Y = X + 1 := ⟨_, rfl⟩
  rw [← hY] at z0 z1 z2 HFZ ⊢
  have HY := Lib.hid hY
  clear hY
  go_upto_region 1 with fail
  go_quiet (fail)
  rename_i nq
  go_upto_region 2 with fail
  have H3 := Lib.hid (H2.out.below (below_dr w2 nq))
  have hB3 := Lib.hid (hB2.out.trans ((below_dr w2 nq).mono hB2.out.size))
  have q0' : (World.drewN w2 nq).cell? ⟨X, 0, none⟩ = some (.int .i64 (i : Int)) := q0
  have q2' : (World.drewN w2 nq).cell? ⟨X, 2, none⟩ = some (.int .i64 (p : Int)) := q2
  have z0' : (World.drewN w2 nq).cell? ⟨Y, 0, none⟩ = some (.int .i64 0) := z0
  have z1' : (World.drewN w2 nq).cell? ⟨Y, 1, none⟩ = some (.int .i64 0) := z1
  have z2' : (World.drewN w2 nq).cell? ⟨Y, 2, none⟩ = some (.int .i64 0) := z2
  have HFZ2 : Hid (∀ j, (World.drewN w2 nq).frozen? ⟨Y, j, none⟩ = false) := HFZ.out
  clear HFZ q0 q1 q2 z0 z1 z2 hlk H2 hB2 c3'
  generalize World.drewN w2 nq = w3 at *
  have q0d : w3.drew.cell? ⟨X, 0, none⟩ = some (.int .i64 (i : Int)) := q0'
  have q2d : w3.drew.cell? ⟨X, 2, none⟩ = some (.int .i64 (p : Int)) := q2'
  have z0d : w3.drew.cell? ⟨Y, 0, none⟩ = some (.int .i64 0) := z0'
  have z1d : w3.drew.cell? ⟨Y, 1, none⟩ = some (.int .i64 0) := z1'
  have g0 : w3.frozen? ⟨Y, 0, none⟩ = false := HFZ2.out 0
  have g1 : w3.frozen? ⟨Y, 1, none⟩ = false := HFZ2.out 1
  have g2 : w3.frozen? ⟨Y, 2, none⟩ = false := HFZ2.out 2
  have f0 : w3.drew.frozen? ⟨Y, 0, none⟩ = false := HFZ2.out 0
  have f1 : w3.drew.frozen? ⟨Y, 1, none⟩ = false := HFZ2.out 1
  have f2 : w3.drew.frozen? ⟨Y, 2, none⟩ = false := HFZ2.out 2
  have z2d : w3.drew.cell? ⟨Y, 2, none⟩ = some (.int .i64 0) := z2'
  have HN3 := Lib.hid (HNC.out w3.drew (H3.out.se.below (below_dr w3 1)))
  obtain ⟨t, ht⟩ : ∃ t, t = ncN al.size p v := ⟨_, rfl⟩
  rw [← ht] at HN3
  have HT := Lib.hid ht
  clear ht HNC H3
  obtain ⟨s2, hs2⟩ : ∃ s2, s2 = fe.getD 0 := ⟨_, rfl⟩
  obtain ⟨bb, hbb⟩ : ∃ bb, bb = fe.isSome := ⟨_, rfl⟩
  rw [← hs2, ← hbb]
  have HS2 := Lib.hid (And.intro hs2 hbb)
  clear hs2 hbb
  have hst : ∀ a b c : Int, (Instr.storeAt 88 (.pointer (some ⟨Y, 0, none⟩)) (.agg #[.int .i64 a, .int .i64 b, .int .i64 c])).run Try.prog w3.drew = .ok () (((w3.drew.setCell ⟨Y, 0, none⟩ (.int .i64 a)).setCell ⟨Y, 1, none⟩ (.int .i64 b)).setCell ⟨Y, 2, none⟩ (.int .i64 c)) := fun a b c => store_place z0d z1d z2d f0 f1 f2
  go_region_with (first
    | (go_at_call 85; (with_reducible refine HN3.out.mono ?_); rintro e w' ⟨rfl, rfl⟩)
    | fail)
  all_goals go_wp2_with fail
  all_goals go_frame
  all_goals refine bodyPost_ret (v := .tuple #[.agg #[.int .i64 (i1 : Int), .int .i64 (s2 : Int), .int .i64 (t : Int)], .bool bb]) (by simp [results, Try.results71, go_sem, z0', z1', z2']) rfl ?_
  all_goals
    have hYw : w.heap.size ≤ Y := by rw [HY.out, HX.out]; omega
    refine ⟨by rw [HS2.out.1, HS2.out.2, HT.out], ((hB3.out.drew.setCell ?_ _).setCell ?_ _).setCell ?_ _⟩
  all_goals exact hYw
end Go.Proofs.Ytgblfobomiiofaa
namespace Go.Proofs.Ytgblfobomiiofaa
open Go Go.RowKit Gw Go.Maps

/-- a box with a place -/
structure P3 (X a b c : Nat) (w : World) : Prop where
  c0 : w.cell? ⟨X, 0, none⟩ = some (.int .i64 (a : Int))
  c1 : w.cell? ⟨X, 1, none⟩ = some (.int .i64 (b : Int))
  c2 : w.cell? ⟨X, 2, none⟩ = some (.int .i64 (c : Int))
  fz : ∀ j, w.frozen? ⟨X, j, none⟩ = false
section
variable {X a b c : Nat} {w w' : World}
theorem P3.lt (h : P3 X a b c w) : X < w.heap.size := World.block_lt_of_cell? _ _ h.c0
theorem P3.below (h : P3 X a b c w) (hb : Below w.heap.size w w') : P3 X a b c w' :=
  ⟨(hb.cell (p := ⟨X, 0, none⟩) h.lt).trans h.c0, (hb.cell (p := ⟨X, 1, none⟩) h.lt).trans h.c1, (hb.cell (p := ⟨X, 2, none⟩) h.lt).trans h.c2, fun j => (hb.frozen (p := ⟨X, j, none⟩) h.lt).trans (h.fz j)⟩
theorem P3.new (w : World) (a b c : Nat) : P3 w.heap.size a b c (w.alloc (.cells #[.int .i64 (a : Int), .int .i64 (b : Int), .int .i64 (c : Int)] 88)) :=
  ⟨World.cell?_alloc_at _ _ _ _ rfl, World.cell?_alloc_at _ _ _ _ rfl, World.cell?_alloc_at _ _ _ _ rfl, fun j => by unfold World.frozen?; dsimp only; rw [World.alloc_heap_new]; simp⟩
theorem P3.set (h : P3 X a b c w) (a' b' c' : Nat) : P3 X a' b' c' (((w.setCell ⟨X, 0, none⟩ (.int .i64 (a' : Int))).setCell ⟨X, 1, none⟩ (.int .i64 (b' : Int))).setCell ⟨X, 2, none⟩ (.int .i64 (c' : Int))) := by
  refine ⟨?_, ?_, ?_, fun j => by rw [World.frozen?_setCell, World.frozen?_setCell, World.frozen?_setCell]; exact h.fz j⟩
  · rw [World.cell?_setCell_other _ _ _ _ (by intro e; injection e with _ e; omega), World.cell?_setCell_other _ _ _ _ (by intro e; injection e with _ e; omega)]
    exact World.cell?_setCell_same _ _ _ h.c0
  · rw [World.cell?_setCell_other _ _ _ _ (by intro e; injection e with _ e; omega)]
    refine World.cell?_setCell_same _ _ _ (?_ : _ = some (.int .i64 (b : Int)))
    rw [World.cell?_setCell_other _ _ _ _ (by intro e; injection e with _ e; omega)]
    exact h.c1
  · refine World.cell?_setCell_same _ _ _ (?_ : _ = some (.int .i64 (c : Int)))
    rw [World.cell?_setCell_other _ _ _ _ (by intro e; injection e with _ e; omega), World.cell?_setCell_other _ _ _ _ (by intro e; injection e with _ e; omega)]
    exact h.c2
end
/-- running through a word, from a state -/
theorem run_none {f : Nat → Nat → Option Nat} {s v : Nat} {u : List Nat} (h : f s v = none) : run f s (v :: u) = none := by unfold run; rw [h]; rfl
theorem run_some {f : Nat → Nat → Option Nat} {s v j : Nat} {u : List Nat} (h : f s v = some j) : run f s (v :: u) = run f j u := by
  show (f s v).bind _ = _
  rw [h]; rfl
set_option maxRecDepth 100000 in
set_option maxHeartbeats 2000000 in
theorem allows_any {R mb n : Nat} {al : ByteArray} {ck : Bool} {f : Nat → Nat → Option Nat} {w : World} {bv : Value} {u : List Nat} (h : SerA R mb al n ck f w) (h1 : 2 ≤ al.size) (h2 : al.size ≤ 36) (hf : ∀ i v j, f i v = some j → j < 200)
    (hv : IsIs w bv (asI u)) (hu : ∀ x ∈ u, x < al.size) (hl : u.length ≤ 500) :
    Calls Try.prog 53 #[.pointer (some ⟨R, 0, none⟩), bv] w (fun e w' => e = .returned (.bool (run f 0 u).isSome) ∧ Hid (Below w.heap.size w w')) := by
  have HI := Lib.hid hv; have HU := Lib.hid hu; have HF := Lib.hid hf; have HS := Lib.hid h
  have HST := Lib.hid (start_any h.se)
  have HSTEP := Lib.hid (fun (W : World) (hW : SerA R mb al n ck f W) (i s p v : Nat) (hi : i ≤ 1000) (hs : s < 200) (hp : p ≤ 1000) (hv : v < 40) => step_any hW h1 h2 hi hs hp hv)
  obtain ⟨ao, c, rfl, -⟩ := hv
  obtain ⟨m, hm⟩ : ∃ m, m = u.length := ⟨_, rfl⟩
  rw [asI_len, ← hm] at HI ⊢
  rw [← hm] at hl
  obtain ⟨A, hA⟩ : ∃ A, A = al.size := ⟨_, rfl⟩
  rw [← hA] at h1 h2
  have HM := Lib.hid hm
  have HA := Lib.hid hA
  obtain ⟨bb, hbb⟩ : ∃ bb, bb = (run f 0 u).isSome := ⟨_, rfl⟩
  rw [← hbb]
  have HBB := Lib.hid hbb
  clear hm hA hu hf h hbb
  unfold plcV at HST
  go_enter Try.func53, Try.ntmps53
  go_wp2_with (first
    | (go_at_call 57; (with_reducible refine HST.out.mono ?_); rintro e w1 ⟨rfl, HB1⟩)
    | fail)
  obtain ⟨X, hX⟩ : ∃ X, X = w1.heap.size := ⟨_, rfl⟩
  rw [← HA.out]
  rw [← hX]
  obtain ⟨w2, hw2⟩ : ∃ w2, w2 = w1.alloc (.cells #[.int .i64 0, .int .i64 0, .int .i64 (A : Int)] 88) := ⟨_, rfl⟩
  have HP2 : Hid (P3 X 0 0 A w2) := by rw [hX, hw2]; exact P3.new w1 0 0 A
  have hB2 : Below w1.heap.size w1 w2 := by rw [hw2]; exact below_al _ _
  have HI2 : Hid (P3 X 0 0 A w2 ∧ SerA R mb al n ck f w2 ∧ Below w.heap.size w w2 ∧ (run f 0 (u.drop 0)).isSome = bb) := ⟨HP2.out, (HS.out.below HB1.out).below hB2, HB1.out.trans (hB2.mono HB1.out.size), by rw [HBB.out]; rfl⟩
  have HXw : Hid (w.heap.size ≤ X) := by rw [hX]; exact HB1.out.size
  rw [← hw2]
  clear hw2 hB2 hX HP2 HST HB1
  go_loopw [14] (fun s14 wr => ∃ i s p : Nat, i ≤ m ∧ s14 = .int .i64 i ∧ s < 200 ∧ p ≤ A ∧ Hid (P3 X i s p wr ∧ SerA R mb al n ck f wr ∧ Below w.heap.size w wr ∧ (run f s (u.drop i)).isSome = bb)) (fun s14 _ => m - (intOf s14).toNat)
  case atStart => exact ⟨0, 0, A, Nat.zero_le _, rfl, by omega, Nat.le_refl _, HI2⟩
  case round =>
    obtain ⟨i, s, p, hi, rfl, hs, hp, HL⟩ := hrel
    clear HI2
    by_cases q : i < m
    · have q1 : (i : Int) < m := by omega
      have hw : IntKind.i64.wrap ((i : Int) + 1) = ((i + 1 : Nat) : Int) := by rw [IntWalk.i64_in _ (by omega)]; omega
      have hiu : i < u.length := by rw [← HM.out]; exact q
      obtain ⟨B, o, rfl, d0⟩ := HI.out.at' (j := i) (by rw [asI_len]; exact hiu)
      rw [asI_at hiu] at d0
      obtain ⟨x, hx⟩ : ∃ x, x = u[i] := ⟨_, rfl⟩
      rw [← hx] at d0
      have hxA : x < A := by rw [hx, HA.out]; exact HU.out _ (List.getElem_mem _)
      have hB : B < w.heap.size := World.block_lt_of_cell? _ _ d0
      obtain ⟨k1, k2, k3, k4⟩ := HL.out
      have d1 : wr.cell? ⟨B, o + i, none⟩ = some (.int .i64 (x : Int)) := (k3.cell (p := ⟨B, o + i, none⟩) hB).trans d0
      have HCL := Lib.hid (HSTEP.out wr k2 i s p x (by omega) hs (by omega) (by omega))
      rw [List.drop_eq_getElem_cons hiu, ← hx] at k4
      have HK4 := Lib.hid k4
      have HK3 := Lib.hid k3
      have HK2 := Lib.hid k2
      have HP1 := Lib.hid k1
      have e0 := k1.c0
      have e1 := k1.c1
      have e2 := k1.c2
      have hXl := k1.lt
      obtain ⟨p2, hp2⟩ : ∃ p2, p2 = ncN al.size p x := ⟨_, rfl⟩
      have hp2A : p2 ≤ A := by rw [hp2, HA.out]; exact ncN_le
      rw [← hp2] at HCL
      obtain ⟨i2, hi2⟩ : ∃ i2, i2 = i + 1 := ⟨_, rfl⟩
      rw [← hi2] at HCL hw
      have HI3 := Lib.hid hi2
      clear k1 k2 k3 k4 d0 hx HL hp2 hi2
      unfold plcV at HCL
      cases hfs : f s x with
      | none =>
        rw [hfs] at HCL
        have hb0 : bb = false := by
          have h3 := HK4.out
          rw [run_none hfs] at h3
          exact h3.symm
        subst hb0
        have HCL2 : Hid (Calls Try.prog 71 #[.pointer (some ⟨R, 0, none⟩), .agg #[.int .i64 (i : Int), .int .i64 (s : Int), .int .i64 (p : Int)], .int .i64 (x : Int)] wr fun e w' => e = .returned (.tuple #[.agg #[.int .i64 (i2 : Int), .int .i64 0, .int .i64 (p2 : Int)], .bool false]) ∧ Hid (Below wr.heap.size wr w')) := HCL.out
        clear HCL hfs
        go_wp2_with (first
          | (go_at_call 71; (with_reducible refine HCL2.out.mono ?_); rintro e w4 ⟨rfl, HB4⟩)
          | fail)
        go_ret
        exact ⟨rfl, (HK3.out.trans (HB4.out.mono HK3.out.size)).trans ((below_al _ _).mono (Nat.le_trans HK3.out.size HB4.out.size))⟩
      | some j =>
        rw [hfs] at HCL
        have hj := HF.out _ _ _ hfs
        have HB5 : Hid ((run f j (u.drop (i + 1))).isSome = bb) := by rw [← run_some hfs]; exact HK4.out
        have HCL2 : Hid (Calls Try.prog 71 #[.pointer (some ⟨R, 0, none⟩), .agg #[.int .i64 (i : Int), .int .i64 (s : Int), .int .i64 (p : Int)], .int .i64 (x : Int)] wr fun e w' => e = .returned (.tuple #[.agg #[.int .i64 (i2 : Int), .int .i64 (j : Int), .int .i64 (p2 : Int)], .bool true]) ∧ Hid (Below wr.heap.size wr w')) := HCL.out
        clear HCL hfs
        go_upto_region 8 with (first
          | (go_at_call 71; (with_reducible refine HCL2.out.mono ?_); rintro e w4 ⟨rfl, HB4⟩)
          | fail)
        have HB6 : Hid (Below w.heap.size w (w4.alloc (.cells #[.int .i64 (i2 : Int), .int .i64 (j : Int), .int .i64 (p2 : Int)] 88))) := (HK3.out.trans (HB4.out.mono HK3.out.size)).trans ((below_al _ _).mono (Nat.le_trans HK3.out.size HB4.out.size))
        have HP6 := Lib.hid ((HP1.out.below HB4.out).below (below_al w4 (.cells #[.int .i64 (i2 : Int), .int .i64 (j : Int), .int .i64 (p2 : Int)] 88)))
        have HQ6 := Lib.hid (P3.new w4 i2 j p2)
        obtain ⟨Y, hY⟩ : ∃ Y, Y = w4.heap.size := ⟨_, rfl⟩
        have hXY : X < Y := by rw [hY]; exact Nat.lt_of_lt_of_le hXl HB4.out.size
        rw [← hY] at HQ6 ⊢
        clear hY HCL2 e0 e1 e2 hXl d1
        generalize w4.alloc (.cells #[.int .i64 (i2 : Int), .int .i64 (j : Int), .int .i64 (p2 : Int)] 88) = w6 at *
        have a0 := HP6.out.c0
        have a1 := HP6.out.c1
        have a2 := HP6.out.c2
        have f0 := HP6.out.fz 0
        have f1 := HP6.out.fz 1
        have f2 := HP6.out.fz 2
        have b0 := HQ6.out.c0
        have b1 := HQ6.out.c1
        have b2 := HQ6.out.c2
        have HW7 : Hid (P3 X i2 j p2 (((w6.setCell ⟨X, 0, none⟩ (.int .i64 (i2 : Int))).setCell ⟨X, 1, none⟩ (.int .i64 (j : Int))).setCell ⟨X, 2, none⟩ (.int .i64 (p2 : Int))) ∧ Below w.heap.size w (((w6.setCell ⟨X, 0, none⟩ (.int .i64 (i2 : Int))).setCell ⟨X, 1, none⟩ (.int .i64 (j : Int))).setCell ⟨X, 2, none⟩ (.int .i64 (p2 : Int)))) :=
          ⟨HP6.out.set i2 j p2, ((HB6.out.setCell HXw.out _).setCell HXw.out _).setCell HXw.out _⟩
        go_upto_region 9 with fail
        clear a0 a1 a2 f0 f1 f2 b0 b1 b2
        generalize World.setCell (World.setCell (World.setCell w6 _ _) _ _) _ _ = w7 at HW7 ⊢
        go_wp2_with fail
        go_roundw
        case rel => exact ⟨i + 1, j, p2, q, by rw [HI3.out], hj, hp2A, by rw [← HI3.out]; exact HW7.out.1, HS.out.below HW7.out.2, HW7.out.2, HB5.out⟩
        case measure => have := HI3.out; simp [intOf]; omega
    · obtain rfl : i = m := by omega
      have q1 : ¬ (i : Int) < i := by omega
      obtain ⟨k1, k2, k3, k4⟩ := HL.out
      have hb0 : bb = true := by
        rw [HM.out, List.drop_length] at k4
        exact k4.symm
      have HK3 := Lib.hid k3
      subst hb0
      clear k1 k2 k3 k4 HL
      go_wp2_with fail
      go_ret
      exact ⟨rfl, HK3⟩
end Go.Proofs.Ytgblfobomiiofaa
namespace Go.Proofs.Ytgblfobomiiofaa
open Go Go.RowKit Gw Go.Maps

theorem slice_hi2 {g o m c n : Nat} (h0 : 0 < c) (h2 : n ≤ c) (W : World) : (Instr.slice 67 (.slice (some ⟨g, o, none⟩) m c) none (some (.int .i64 (n : Int))) none).run Try.prog W = .ok (.slice (some ⟨g, o, none⟩) n c) W := by
  rw [run_slice_h _ _ _ _ _ (by rw [show Try.prog.elem 67 = 3 by kernel_rfl]; exact Try.underlying67) _ _ (by omega) (by omega)]
  rw [show Try.prog.elem 67 = 3 by kernel_rfl, Try.sizeOf3]
  simp only [Result.andThen, sliced, Int.toNat_natCast]
  rw [if_neg (by omega)]
  simp
  exact Addr.add_lit ..
/-- a shorter list in the same place -/
theorem IsIs.take {W : World} {ao : Option Addr} {m c : Nat} {l : List Int} (h : IsIs W (.slice ao m c) l) {n : Nat} (hn : n ≤ l.length) : IsIs W (.slice ao n c) (l.take n) := by
  obtain ⟨ao', c', hv, hc⟩ := h
  injection hv with h1 h2 h3
  subst h1; subst h3
  refine ⟨ao, c, by rw [List.length_take, Nat.min_eq_left hn], fun hp => ?_⟩
  rw [List.length_take] at hp
  obtain ⟨B, o, e, hB, hcs⟩ := hc (by omega)
  exact ⟨B, o, e, hB, fun j hj => by
    rw [List.length_take] at hj
    rw [hcs j (by omega), List.getElem_take]⟩
theorem asI_take (u : List Nat) (n : Nat) : (asI u).take n = asI (u.take n) := by unfold asI; rw [List.map_take]
/-- whether the check character fits -/
def endsB (A n : Nat) (ck : Bool) (u : List Nat) : Bool := !ck || decide (u.getD n 0 = lcN A (chk (ncN A) A (u.take n)))
set_option maxRecDepth 100000 in
set_option maxHeartbeats 2000000 in
theorem endsWell_any {R n : Nat} {al : ByteArray} {ck : Bool} {w : World} {ao : Option Addr} {m c : Nat} {u : List Nat} (h : Ser R al n ck w) (h1 : 2 ≤ al.size) (h2 : al.size ≤ 36) (hn : n ≤ 16)
    (hv : IsIs w (.slice ao m c) (asI u)) (hm : m = szN n ck) (hmu : m = u.length) (hmc : m ≤ c) (hu : ∀ x ∈ u, x < al.size) :
    Calls Try.prog 54 #[.pointer (some ⟨R, 0, none⟩), .slice ao m c] w (fun e w' => e = .returned (.bool (endsB al.size n ck u)) ∧ Hid (Below w.heap.size w w')) := by
  have c1 := h.c1
  have c2 := h.c2
  cases ck with
  | false =>
    have hb : endsB al.size n false u = true := rfl
    rw [hb]
    clear h hm hmu hv hb
    go_enter Try.func54, Try.ntmps54
    go_upto_region 1 with fail
    go_quiet (fail)
    rename_i nq
    go_wp2_with fail
    go_ret
    exact ⟨rfl, below_dr _ _⟩
  | true =>
    have hnu : n < u.length := by rw [← hmu, hm]; unfold szN; simp
    obtain ⟨B, o, rfl, d0⟩ := hv.at' (j := n) (by rw [asI_len]; exact hnu)
    rw [asI_at hnu] at d0
    obtain ⟨x, hx⟩ : ∃ x, x = u[n] := ⟨_, rfl⟩
    rw [← hx] at d0
    have HCO : Hid (∀ q, Calls Try.prog 67 #[.pointer (some ⟨R, 0, none⟩), .slice (some ⟨B, o, none⟩) n c] (w.drewN q) fun e w' => e = .returned (.int .i64 (lcN al.size (chk (ncN al.size) al.size (u.take n)))) ∧ ∃ k, w' = w.drewN k) := fun q => (checkOf_any (w := w.drewN q) (v := .slice (some ⟨B, o, none⟩) n c) (u := u.take n) (h.below (below_dr w q)) h1 h2 (by rw [← asI_take]; exact (hv.below (below_dr w q)).take (by rw [asI_len]; omega)) (fun y hy => hu y (List.mem_of_mem_take hy)) (by rw [List.length_take]; omega)).mono fun e w' ⟨h1, h2⟩ => ⟨h1, q, h2.symm⟩
    obtain ⟨t, ht⟩ : ∃ t, t = lcN al.size (chk (ncN al.size) al.size (u.take n)) := ⟨_, rfl⟩
    rw [← ht] at HCO
    have hb : endsB al.size n true u = decide ((x : Int) = (t : Int)) := by
      unfold endsB
      rw [← ht, hx]
      have e1 : u.getD n 0 = u[n] := by simp [hnu]
      rw [e1]
      simp only [Bool.not_true, Bool.false_or]
      exact decide_eq_decide.2 ⟨fun h => by omega, fun h => by omega⟩
    rw [hb]
    have hnm : (n : Int) < m := by rw [hm]; unfold szN; simp; omega
    have hsl := fun W => slice_hi2 (g := B) (o := o) (m := m) (c := c) (n := n) (by omega) (by omega) W
    clear h hm hmu hv hb hx ht
    go_enter Try.func54, Try.ntmps54
    go_upto_region 1 with fail
    go_quiet ((go_at_call 67; exact HCO.out _))
    rename_i nq
    go_wp2_with fail
    go_ret
    exact ⟨rfl, below_dr _ _⟩
end Go.Proofs.Ytgblfobomiiofaa
namespace Go.Proofs.Ytgblfobomiiofaa
open Go Go.RowKit

/-- the iterator's contract: N rounds; at round k it yields a value of which E k holds at that time; the body keeps Kp -/
def SeqE (F : Fence) (n : Nat) (P : Program) (g : Nat) (lb : Array Value) (enc : Nat → Value → Array Value) (E : Nat → Value → World → Prop) (Kp : World → World → Prop) (N : Nat) (w : World) : Prop :=
  ∀ (l : Nat) (J Jx : Nat → World → Prop) (W : World), Below w.heap.size w W → AbidesFrom W.heap.size J → AbidesFrom W.heap.size Jx →
    (∀ k v W1, k < N → J k W1 → E k v W1 → YieldAt F (n - 1) P l (enc k v) W1 fun e W' => (e = .returned (.bool true) ∧ J (k + 1) W' ∧ Kp W1 W') ∨ (e = .returned (.bool false) ∧ Jx k W')) →
    J 0 W → CallsIn F n P g (#[.func (.yield l) #[] #[]] ++ lb) W fun e W' => (∃ v, e = .returned v) ∧ (J N W' ∨ ∃ k, k < N ∧ Jx k W')
/-- how a round's body may end -/
def endE (B : Nat) (Kp : World → World → Prop) (I : Nat → World → Prop) (Ix : Code → Nat → World → Prop) (k : Nat) (W : World) : Exit → Act → World → Prop
  | .normal, _, W' => KeepsFrom B W W' ∧ Kp W W' ∧ I (k + 1) W'
  | .ret, _, W' => KeepsFrom B W W' ∧ Ix .ret k W'
  | .exit i, _, W' => KeepsFrom B W W' ∧ Ix (.exit i) k W'
  | .goto _, _, _ => False
  | .panic _, _, _ => False
  | .outgrown, _, _ => False

section
variable {F : Fence} {n : Nat} {P : Program}
/-- behind a round: the record is written, and what is kept is kept -/
theorem round_done {w : World} {r : Loop} {W W3 : World} (hl : W.heap[w.heap.size + 1]? = some (.loop { r with state := .busy, pending := none })) (hk : W.heap[w.heap.size]? = some (.deferred (some []))) (h3 : KeepsFrom w.heap.size W W3) (jump : Option Code) :
    W3.heap[w.heap.size + 1]? = some (.loop { r with state := .busy, pending := none }) ∧ (Instr.endRound (w.heap.size + 1) jump).run P W3 = .ok (.bool jump.isNone) (W3.putObj (w.heap.size + 1) (.loop { r with state := if jump.isNone then .ready else .done, pending := jump })) ∧
    (W3.putObj (w.heap.size + 1) (.loop { r with state := if jump.isNone then .ready else .done, pending := jump })).heap[w.heap.size + 1]? = some (.loop { r with state := if jump.isNone then .ready else .done, pending := jump }) ∧
    (W3.putObj (w.heap.size + 1) (.loop { r with state := if jump.isNone then .ready else .done, pending := jump })).heap[w.heap.size]? = some (.deferred (some [])) := by
  have a1 := h3.same _ _ (Nat.le_succ _) hl rfl
  have a2 := h3.same _ _ (Nat.le_refl _) hk rfl
  refine ⟨a1, run_endRound (r := { r with state := .busy, pending := none }) jump a1, World.putObj_heap_same (Array.getElem?_eq_some_iff.1 a1).1, ?_⟩
  rw [World.putObj_heap_other (by omega)]
  exact a2
theorem range_e {g : Operand} {ps : Array Tmp} {assign body : Code} {Q : Exit → Act → World → Prop} {a : Act} {w : World} (hro : F.round = none) (h1 : 1 ≤ n) {gf : Nat} {lb : Array Value} (hg : a.eval g = .func (.func gf) #[] lb) (hF : F.fn gf) (eg : ∀ args w, (callFunc gf args).run P w = .ok (.enter gf args) w)
    {enc : Nat → Value → Array Value} {E : Nat → Value → World → Prop} {Kp : World → World → Prop} {N : Nat} (hseq : SeqE F (n - 1) P gf lb enc E Kp N w) (hKt : ∀ {A B C : World}, Kp A B → Kp B C → Kp A C)
    (hKb : ∀ (W : World) (l : Nat) (o o' : Obj), w.heap.size ≤ l → W.heap[l]? = some o → o.isCells = false → o.isWalk = false → Kp W (W.putObj l o')) (hps : ∀ k v, (enc k v).size = ps.size)
    (I : Nat → World → Prop) (Ix : Code → Nat → World → Prop) (hI : OwnFrom w.heap.size I) (hIx : ∀ c, OwnFrom w.heap.size (Ix c)) (h0 : I 0 w) (Ax : Nat → Value → Act → World → Prop) (hAx : ∀ k v a', OwnFrom w.heap.size (fun (_ : Unit) W => Ax k v a' W))
    (hassign : ∀ (l k : Nat) (v : Value) (W : World) (K : Act → World → Prop), k < N → I k W → E k v W → (∀ a' W', KeepsFrom w.heap.size W W' → Kp W W' → I k W' → Ax k v a' W' → K a' W') →
      assign.wpIn (F.inRound l) (n - 1 - 1) P (Exit.then K (fun _ _ _ => False)) { tmps := (ps.zip (enc k v)).foldl (fun t (p, v) => t.setIfInBounds p v) a.tmps, defers := [] } W)
    (hbody : ∀ (l k : Nat) (v : Value) (a' : Act) (W : World), k < N → I k W → Ax k v a' W → body.wpIn (F.inRound l) (n - 1 - 1) P (endE w.heap.size Kp I Ix k W) a' W)
    (hdone : ∀ (d : Nat) (W : World), w.heap.size ≤ d → I N W → W.heap[d]? = some (.deferred (some [])) → Q .normal { a with defers := { target := .collected d, args := #[] } :: a.defers } W)
    (hstop : ∀ (d : Nat) (c : Code) (k : Nat) (W : World), w.heap.size ≤ d → k < N → Ix c k W → W.heap[d]? = some (.deferred (some [])) → c.wpIn F n P Q { a with defers := { target := .collected d, args := #[] } :: a.defers } W) :
    (Code.rangeFunc g ps assign body).wpIn F n P Q a w := by
  refine wpIn_rangeFunc fun fn hfn => ?_
  rw [hro]
  obtain ⟨r, hr⟩ : ∃ r : Loop, r = { state := .ready, pending := none, fn, tmps := a.tmps, params := ps, assign, body, defers := w.heap.size } := ⟨_, rfl⟩
  obtain ⟨w1, hw1⟩ : ∃ w1, w1 = (w.alloc (.deferred (some []))).alloc (.loop r) := ⟨_, rfl⟩
  have hs1 : w1.heap.size = w.heap.size + 2 := by rw [hw1]; simp
  have hl1 : w1.heap[w.heap.size + 1]? = some (.loop r) := by
    have := World.alloc_heap_new (w.alloc (.deferred (some []))) (.loop r)
    rwa [World.size_alloc, ← hw1] at this
  have hk1 : w1.heap[w.heap.size]? = some (.deferred (some [])) := by
    rw [hw1]; exact (Below.heap_alloc _ _ _ (by simp)).trans (World.alloc_heap_new w _)
  have hrow : ∀ {A B : World} {row : Option Nat}, (∀ j, row = some j → w1.heap.size ≤ j ∧ ∃ o : Obj, A.heap[j]? = some o ∧ o.isWalk = true) → (∀ j, row = some j → w.heap.size ≤ j ∧ ∃ o : Obj, A.heap[j]? = some o ∧ o.isCells = false) := fun h j e => by
    obtain ⟨h2, o, ho, hw⟩ := h j e
    exact ⟨by omega, o, ho, Obj.not_cells_of_walk hw⟩
  refine ⟨w.heap.size + 1, [{ target := .collected w.heap.size, args := #[] }], w1, { target := .fn (.func gf) lb, args := #[.func (.yield (w.heap.size + 1)) #[] #[]] }, w1, gf, #[.func (.yield (w.heap.size + 1)) #[] #[]] ++ lb, w1, ?_, ?_, ?_, ?_, fun _ => h1, ?_⟩
  · rw [hw1, hr]; exact run_enterLoop_outer _ _ _ _ _
  · simp only [resolve, hg]
    simp [go_sem]
  · intro f' hf'
    simp [Target.leads] at hf'
    subst hf'; exact hF
  · simp [invoke, go_sem, eg]
  refine (hseq (w.heap.size + 1) (fun k W => I k W ∧ W.heap[w.heap.size + 1]? = some (.loop r) ∧ W.heap[w.heap.size]? = some (.deferred (some [])))
    (fun k W => ∃ c, Ix c k W ∧ W.heap[w.heap.size + 1]? = some (.loop { r with state := .done, pending := some c }) ∧ W.heap[w.heap.size]? = some (.deferred (some []))) w1
    (by rw [hw1]; exact ((Below.refl _ w).alloc (Nat.le_refl _) _).alloc (by simp) _) ?_ ?_ ?_ ⟨by rw [hw1]; exact hI.alloc _ (hI.alloc _ h0), hl1, hk1⟩).mono ?_
  · intro k A B row hs hg' hj
    exact ⟨hI k A B row hs.1 hg' (hrow (B := B) hj), (grownBy_keeps hg' (fun j e => (hj j e).2) hs.2.1 rfl).trans hs.2.1, (grownBy_keeps hg' (fun j e => (hj j e).2) hs.2.2 rfl).trans hs.2.2⟩
  · rintro k A B row ⟨c, hc, hs⟩ hg' hj
    exact ⟨c, hIx c k A B row hc hg' (hrow (B := B) hj), (grownBy_keeps hg' (fun j e => (hj j e).2) hs.1 rfl).trans hs.1, (grownBy_keeps hg' (fun j e => (hj j e).2) hs.2 rfl).trans hs.2⟩
  · rintro k v W hkN ⟨hi, hl, hk⟩ hE
    have hy := run_yield (P := P) (args := enc k v) hl (by rw [hr]; exact hps k v)
    rw [hr] at hy
    refine ⟨fn, _, assign, body, hy, roundIn_of_wpIn hfn (hassign _ k v W _ hkN hi hE ?_)⟩
    intro a' Wa hkf hkp hia hax
    have hla := hkf.same _ _ (Nat.le_succ _) hl rfl
    have hka := hkf.same _ _ (Nat.le_refl _) hk rfl
    have hlt := (Array.getElem?_eq_some_iff.1 hla).1
    refine ⟨_, run_beginRound hla (by rw [hr]), ?_⟩
    have hl2 : (Wa.putObj (w.heap.size + 1) (.loop { r with state := .busy })).heap[w.heap.size + 1]? = some (.loop { r with state := .busy, pending := none }) := by
      rw [World.putObj_heap_same hlt, hr]
    have hk2 : (Wa.putObj (w.heap.size + 1) (.loop { r with state := .busy })).heap[w.heap.size]? = some (.deferred (some [])) := (World.putObj_heap_other (by omega)).trans hka
    have hp2 := hKt hkp (hKb Wa (w.heap.size + 1) _ (.loop { r with state := .busy }) (Nat.le_succ _) hla rfl rfl)
    refine wpIn_mono (hbody _ k v a' _ hkN (hI.putObj _ hia (Nat.le_succ _) hla rfl) ((hAx k v a').putObj (s := ()) _ hax (Nat.le_succ _) hla rfl)) ?_
    rintro e a3 W3 hp
    cases e with
    | normal =>
      obtain ⟨h3, hp3, hi3⟩ := hp
      obtain ⟨b1, b2, b3, b4⟩ := round_done (P := P) hl2 hk2 h3 none
      refine ⟨_, _, b2, .inl ⟨rfl, ⟨hI.putObj _ hi3 (Nat.le_succ _) b1 rfl, ?_, b4⟩, hKt (hKt hp2 hp3) (hKb _ _ _ _ (Nat.le_succ _) b1 rfl rfl)⟩⟩
      rw [b3, hr]; rfl
    | ret =>
      obtain ⟨h3, hi3⟩ := hp
      obtain ⟨b1, b2, b3, b4⟩ := round_done (P := P) hl2 hk2 h3 (some .ret)
      exact ⟨_, _, b2, .inr ⟨rfl, .ret, (hIx _).putObj _ hi3 (Nat.le_succ _) b1 rfl, b3, b4⟩⟩
    | exit i =>
      obtain ⟨h3, hi3⟩ := hp
      obtain ⟨b1, b2, b3, b4⟩ := round_done (P := P) hl2 hk2 h3 (some (.exit i))
      exact ⟨_, _, b2, .inr ⟨rfl, .exit i, (hIx _).putObj _ hi3 (Nat.le_succ _) b1 rfl, b3, b4⟩⟩
    | goto t => exact hp.elim
    | panic ch => exact hp.elim
    | outgrown => exact hp.elim
  · rintro e W2 ⟨⟨v, rfl⟩, (⟨hi, hl, hk⟩ | ⟨k, hkN, c, hi, hl, hk⟩)⟩
    · refine ⟨none, _, by have := run_endLoop (P := P) hl (by rw [hr]; simp); rw [hr] at this; exact this, ?_⟩
      exact hdone _ _ (Nat.le_refl _) (hI.putObj _ hi (Nat.le_succ _) hl rfl) ((World.putObj_heap_other (by omega)).trans hk)
    · refine ⟨some c, _, run_endLoop (P := P) hl (by simp), ?_⟩
      exact hstop _ c k _ (Nat.le_refl _) hkN ((hIx c).putObj _ hi (Nat.le_succ _) hl rfl) ((World.putObj_heap_other (by omega)).trans hk)
end
end Go.Proofs.Ytgblfobomiiofaa
namespace Go.Proofs.Ytgblfobomiiofaa
open Go Go.RowKit Go.Shelf Gw Go.Maps

attribute [local go_sem] Oper.semAt_some

/-- a place -/
abbrev Pl := Nat × Nat × Nat
/-- what is yielded for a value, if it is -/
def stepG (f : Nat → Nat → Option Nat) (A : Nat) (q : Pl) (sg : Option Nat) (v : Nat) : Option (Nat × Pl) :=
  if sg = none ∨ sg = some v then (f q.2.1 v).map fun j => (v, (q.1 + 1, j, ncN A q.2.2 v)) else none
/-- what is yielded for the values below k -/
def stepL (f : Nat → Nat → Option Nat) (A : Nat) (q : Pl) (sg : Option Nat) (k : Nat) : List (Nat × Pl) := (List.range k).filterMap (stepG f A q sg)
theorem stepL_succ (f : Nat → Nat → Option Nat) (A : Nat) (q : Pl) (sg : Option Nat) (k : Nat) : stepL f A q sg (k + 1) = stepL f A q sg k ++ (stepG f A q sg k).toList := by
  unfold stepL
  rw [List.range_succ, List.filterMap_append]
  simp only [List.filterMap_cons, List.filterMap_nil]
  cases stepG f A q sg k <;> rfl
theorem stepL_pre (f : Nat → Nat → Option Nat) (A : Nat) (q : Pl) (sg : Option Nat) {k m : Nat} (h : k ≤ m) : stepL f A q sg k <+: stepL f A q sg m := by
  induction m with
  | zero => rw [Nat.le_zero.1 h]; exact List.prefix_refl _
  | succ m ih =>
    by_cases e : k = m + 1
    · rw [e]; exact List.prefix_refl _
    · rw [stepL_succ]
      exact (ih (by omega)).trans (List.prefix_append _ _)
theorem stepL_at (f : Nat → Nat → Option Nat) (A : Nat) (q : Pl) (sg : Option Nat) {k m : Nat} (h : k < m) {y : Nat × Pl} (e : stepG f A q sg k = some y) : (stepL f A q sg m)[(stepL f A q sg k).length]? = some y := by
  obtain ⟨t, ht⟩ := stepL_pre f A q sg (show k + 1 ≤ m from h)
  rw [← ht, stepL_succ, e]
  simp
/-- what is handed to a round -/
def encS (xs : List (Nat × Pl)) (k : Nat) (_ : Value) : Array Value := match xs[k]? with
  | some y => #[.int .i64 (y.1 : Int), plcV y.2]
  | none => #[undef, undef]
/-- what the iterator reads -/
structure StI (R mb : Nat) (al : ByteArray) (n : Nat) (ck : Bool) (f : Nat → Nat → Option Nat) (B : Nat) (q : Pl) (sg : Option Nat) (W : World) : Prop where
  se : SerA R mb al n ck f W
  b0 : W.cell? ⟨B, 0, none⟩ = some (.pointer (some ⟨R, 0, none⟩))
  pl : P3 (B + 1) q.1 q.2.1 q.2.2 W
  b2 : W.cell? ⟨B + 1 + 1, 0, none⟩ = some (.int .i64 (sgn sg))
theorem StI.below {R mb : Nat} {al : ByteArray} {n : Nat} {ck : Bool} {f : Nat → Nat → Option Nat} {B : Nat} {q : Pl} {sg : Option Nat} {W W' : World} (h : StI R mb al n ck f B q sg W) (hb : Below W.heap.size W W') : StI R mb al n ck f B q sg W' :=
  ⟨h.se.below hb, (hb.cell (p := ⟨B, 0, none⟩) (World.block_lt_of_cell? _ _ h.b0)).trans h.b0, h.pl.below hb, (hb.cell (p := ⟨B + 1 + 1, 0, none⟩) (World.block_lt_of_cell? _ _ h.b2)).trans h.b2⟩
/-- the value that steps answers -/
def stepsV (B : Nat) : Value := .func (.func 86) #[] #[.pointer (some ⟨B, 0, none⟩), .pointer (some ⟨B + 1 + 1, 0, none⟩), .pointer (some ⟨B + 1, 0, none⟩)]
set_option maxHeartbeats 1000000 in
theorem steps_any {R mb : Nat} {al : ByteArray} {n : Nat} {ck : Bool} {f : Nat → Nat → Option Nat} {W : World} (h : SerA R mb al n ck f W) (q : Pl) (sg : Option Nat) :
    Calls Try.prog 68 #[.pointer (some ⟨R, 0, none⟩), plcV q, .int .i64 (sgn sg)] W fun e w' => e = .returned (stepsV W.heap.size) ∧ Hid (StI R mb al n ck f W.heap.size q sg w') ∧ Hid (Below W.heap.size W w') := by
  have H := Lib.hid h
  clear h
  unfold plcV
  obtain ⟨z, hz⟩ : ∃ z, z = sgn sg := ⟨_, rfl⟩
  rw [← hz]
  have HZ := Lib.hid hz
  clear hz
  go_enter Try.func68, Try.ntmps68
  go_wp2_with fail
  go_ret
  refine ⟨rfl, ?_, ?_⟩
  · obtain ⟨w1, h1⟩ : ∃ w1, w1 = W.alloc (.cells #[.pointer (some ⟨R, 0, none⟩)] 68) := ⟨_, rfl⟩
    obtain ⟨w2, h2⟩ : ∃ w2, w2 = w1.alloc (.cells #[.int .i64 (q.1 : Int), .int .i64 (q.2.1 : Int), .int .i64 (q.2.2 : Int)] 88) := ⟨_, rfl⟩
    have s1 : w1.heap.size = W.heap.size + 1 := by rw [h1]; exact World.size_alloc _ _
    have s2 : w2.heap.size = W.heap.size + 1 + 1 := by rw [h2, World.size_alloc, s1]
    have b1 : Below W.heap.size W w1 := by rw [h1]; exact below_al _ _
    have b2 : Below w1.heap.size w1 w2 := by rw [h2]; exact below_al _ _
    have b3 := below_al w2 (.cells #[.int .i64 z] 3)
    have c0 : w1.cell? ⟨W.heap.size, 0, none⟩ = some (.pointer (some ⟨R, 0, none⟩)) := by rw [h1]; exact World.cell?_alloc_at _ _ _ _ rfl
    have p2 : P3 (W.heap.size + 1) q.1 q.2.1 q.2.2 w2 := by rw [h2, ← s1]; exact P3.new w1 _ _ _
    rw [← h1, ← h2]
    refine ⟨((H.out.below b1).below b2).below b3, (b3.cell (p := ⟨W.heap.size, 0, none⟩) (by rw [s2]; show W.heap.size < _; omega)).trans ((b2.cell (p := ⟨W.heap.size, 0, none⟩) (by rw [s1]; show W.heap.size < _; omega)).trans c0), p2.below b3, ?_⟩
    rw [← HZ.out, ← s2]
    exact World.cell?_alloc_at _ _ _ _ rfl
  · exact ((below_al W _).trans ((below_al _ _).mono (by rw [World.size_alloc]; omega))).trans ((below_al _ _).mono (by rw [World.size_alloc, World.size_alloc]; omega))
end Go.Proofs.Ytgblfobomiiofaa
namespace Go.Proofs.Ytgblfobomiiofaa
open Go Go.RowKit Go.Shelf Gw Go.Maps

attribute [local go_sem] Oper.semAt_some

set_option maxRecDepth 100000 in
set_option maxHeartbeats 4000000 in
theorem steps_seq {R mb : Nat} {al : ByteArray} {n : Nat} {ck : Bool} {f : Nat → Nat → Option Nat} {B : Nat} {q : Pl} {sg : Option Nat} {w : World} (hA1 : 2 ≤ al.size) (hA2 : al.size ≤ 36) (hq1 : q.1 ≤ 1000) (hq2 : q.2.1 < 200) (hq3 : q.2.2 ≤ 1000)
    (hS : StI R mb al n ck f B q sg w) {Kp : World → World → Prop} (hK : ∀ X Y, Kp X Y → StI R mb al n ck f B q sg X → StI R mb al n ck f B q sg Y) (m : Nat) :
    SeqE Fence.wide m Try.prog 86 #[.pointer (some ⟨B, 0, none⟩), .pointer (some ⟨B + 1 + 1, 0, none⟩), .pointer (some ⟨B + 1, 0, none⟩)] (encS (stepL f al.size q sg al.size)) (fun _ _ _ => True) Kp (stepL f al.size q sg al.size).length w := by
  intro l J Jx W hW hJ hJx hY h0
  have HJ : Hid (∀ k W W', J k W → W.grownBy W' none → J k W') := fun k W W' hs hg => hJ k W W' none hs hg (fun r e => by cases e)
  have HS := Lib.hid (hS.below hW)
  have HY := Lib.hid hY; have H0 := Lib.hid h0; have HK := Lib.hid hK
  have HSTEP := Lib.hid (fun (V : World) (hV : SerA R mb al n ck f V) (v : Nat) (hv : v < 40) => step_any hV hA1 hA2 hq1 hq2 hq3 hv)
  obtain ⟨A, hA⟩ : ∃ A, A = al.size := ⟨_, rfl⟩
  have hls : ∀ (t ty : TypeId), Try.prog.underlying t = some .string → ∀ W, (Builtin.len_ #[t] ty #[.string al]).run Try.prog W = .ok (.int .i64 (A : Int)) W := fun t ty ht W => by rw [run_len_string _ _ _ _ ht, hA]; rfl
  rw [← hA] at HSTEP HY hA1 hA2 ⊢
  have k0 := HS.out.b0
  have k1 := HS.out.se.se.c0
  obtain ⟨z, hz⟩ : ∃ z, z = sgn sg := ⟨_, rfl⟩
  have HZ := Lib.hid hz
  obtain ⟨i, s, p⟩ := q
  clear hY hJ hJx h0 hW hS hK hA hz
  refine callsIn_of_wp Try.func86 rfl trivial ?_ rfl
  simp only [Try.ntmps86, List.size_toArray, List.length_cons, List.length_nil, Nat.reduceAdd, Nat.reduceSub, Array.replicate_succ, Array.replicate_zero, List.push_toArray, List.append_toArray, List.nil_append, List.cons_append]
  gi_wp2_with fail
  gi_loopw [13] (fun s13 wr => ∃ k : Nat, k ≤ A ∧ s13 = .int .i64 (k : Int) ∧ Hid (StI R mb al n ck f B (i, s, p) sg wr) ∧ Hid (J (stepL f A (i, s, p) sg k).length wr)) (fun s13 _ => A - (intOf s13).toNat)
  case atStart => exact ⟨0, Nat.zero_le _, rfl, HS, H0⟩
  case round =>
    obtain ⟨k, hk, rfl, HS1, HJ1⟩ := hrel
    clear HS H0 k0 k1
    by_cases hlt : k < A
    · have q1 : (k : Int) < A := by omega
      have hw : IntKind.i64.wrap ((k : Int) + 1) = ((k + 1 : Nat) : Int) := by rw [IntWalk.i64_in _ (by omega)]; omega
      have b2 : wr.cell? ⟨B + 1 + 1, 0, none⟩ = some (.int .i64 z) := by rw [HZ.out]; exact HS1.out.b2
      have b0 := HS1.out.b0
      have p0 := HS1.out.pl.c0
      have p1 := HS1.out.pl.c1
      have p2 := HS1.out.pl.c2
      obtain ⟨dm, hdm⟩ : ∃ dm, dm = decide (sg = none ∨ sg = some k) := ⟨_, rfl⟩
      have HDM := Lib.hid hdm
      clear hdm
      gi_upto_region 3 with fail
      gi_cut [22] from 16 (fun s22 wz => s22 = .bool (!dm) ∧ wz = wr)
      case first =>
        have hd := HDM.out
        have hz2 := HZ.out
        clear HJ HSTEP HY HK HS1 HJ1 HDM HZ
        cases sg with
        | none =>
          have e1 : z = -1 := hz2
          have e2 : dm = true := by rw [hd]; simp
          subst e1 e2
          clear hz2 hd
          gi_wp2_with fail
          gi_meet
          case rel => exact ⟨rfl, rfl⟩
        | some v =>
          have e1 : z = (v : Int) := hz2
          have e2 : dm = decide (v = k) := by rw [hd]; simp
          have e3 : ((v : Int) != -1) = true := by rw [bne_iff_ne]; omega
          have e4 : ((v : Int) != (k : Int)) = !dm := by
            rw [e2]
            by_cases c : v = k
            · subst c; simp
            · simp [c]; omega
          subst e1
          clear hz2 hd e2
          gi_wp2_with fail
          gi_meet
          case rel => exact ⟨rfl, rfl⟩
      case rest =>
        obtain ⟨rfl, rfl⟩ := hcut
        cases dm with
        | false =>
          have hnone : stepG f A (i, s, p) sg k = none := by
            unfold stepG
            exact if_neg (of_decide_eq_false HDM.out.symm)
          have HJ2 : Hid (J (stepL f A (i, s, p) sg (k + 1)).length wc) := by rw [stepL_succ, hnone, Option.toList_none, List.append_nil]; exact HJ1.out
          clear HJ1 hnone
          gi_wp2_with fail
          go_roundw
          case rel => exact ⟨k + 1, hlt, by go_num, HS1, HJ2⟩
          case measure => simp [intOf]; omega
        | true =>
          have hmat := of_decide_eq_true HDM.out.symm
          have hgen : stepG f A (i, s, p) sg k = (f s k).map fun j => (k, (i + 1, j, ncN A p k)) := by
            unfold stepG
            exact if_pos hmat
          have HGEN := Lib.hid hgen
          have HCL := Lib.hid (HSTEP.out wc HS1.out.se k (by omega))
          obtain ⟨i2, hi2⟩ : ∃ i2, i2 = i + 1 := ⟨_, rfl⟩
          obtain ⟨p2', hp2⟩ : ∃ p2', p2' = ncN A p k := ⟨_, rfl⟩
          rw [← hi2, ← hp2] at HCL HGEN
          clear hmat hgen hi2 hp2
          unfold plcV at HCL
          cases hfs : f s k with
          | none =>
            rw [hfs] at HCL HGEN
            have HJ2 : Hid (J (stepL f A (i, s, p) sg (k + 1)).length wc) := by rw [stepL_succ, HGEN.out, Option.map_none, Option.toList_none, List.append_nil]; exact HJ1.out
            have HCL2 : Hid (∀ n, CallsIn Fence.wide n Try.prog 71 #[.pointer (some ⟨R, 0, none⟩), .agg #[.int .i64 (i : Int), .int .i64 (s : Int), .int .i64 (p : Int)], .int .i64 (k : Int)] wc fun e w' => e = .returned (.tuple #[.agg #[.int .i64 (i2 : Int), .int .i64 0, .int .i64 (p2' : Int)], .bool false]) ∧ Hid (Below wc.heap.size wc w')) := fun n => callsIn_wide.2 HCL.out
            clear HCL HJ1 hfs
            gi_upto_region 5 with (refine ⟨trivial, fun h => (by cases h), ?_⟩; (with_reducible refine (HCL2.out _).mono ?_); rintro e w4 ⟨rfl, HB4⟩)
            have HB5 : Hid (Below wc.heap.size wc (w4.alloc (.cells #[.int .i64 (i2 : Int), .int .i64 0, .int .i64 (p2' : Int)] 88))) := HB4.out.trans ((below_al _ _).mono HB4.out.size)
            generalize w4.alloc (.cells #[.int .i64 (i2 : Int), .int .i64 0, .int .i64 (p2' : Int)] 88) = w5 at HB5 ⊢
            have HS5 := Lib.hid (HS1.out.below HB5.out)
            have HJ5 : Hid (J (stepL f A (i, s, p) sg (k + 1)).length w5) := HJ.out _ _ _ HJ2.out ⟨HB5.out.os, HB5.out.tape, HB5.out.output, HB5.out.size, fun k hk _ => HB5.out.block k hk⟩
            clear HCL2 HJ2 HS1
            gi_wp2_with fail
            refine ⟨fun f h => (by cases h), ?_⟩
            gi_wp2_with fail
            go_roundw
            case rel => exact ⟨k + 1, hlt, by go_num, HS5, HJ5⟩
            case measure => simp [intOf]; omega
          | some j =>
            rw [hfs] at HCL HGEN
            have HCL2 : Hid (∀ n, CallsIn Fence.wide n Try.prog 71 #[.pointer (some ⟨R, 0, none⟩), .agg #[.int .i64 (i : Int), .int .i64 (s : Int), .int .i64 (p : Int)], .int .i64 (k : Int)] wc fun e w' => e = .returned (.tuple #[.agg #[.int .i64 (i2 : Int), .int .i64 (j : Int), .int .i64 (p2' : Int)], .bool true]) ∧ Hid (Below wc.heap.size wc w')) := fun n => callsIn_wide.2 HCL.out
            clear HCL hfs
            gi_upto_region 5 with (refine ⟨trivial, fun h => (by cases h), ?_⟩; (with_reducible refine (HCL2.out _).mono ?_); rintro e w4 ⟨rfl, HB4⟩)
            have HB5 : Hid (Below wc.heap.size wc (w4.alloc (.cells #[.int .i64 (i2 : Int), .int .i64 (j : Int), .int .i64 (p2' : Int)] 88))) := HB4.out.trans ((below_al _ _).mono HB4.out.size)
            have HP5 := Lib.hid (P3.new w4 i2 j p2')
            obtain ⟨Y, hY⟩ : ∃ Y, Y = w4.heap.size := ⟨_, rfl⟩
            rw [← hY] at HP5 ⊢
            generalize w4.alloc (.cells #[.int .i64 (i2 : Int), .int .i64 (j : Int), .int .i64 (p2' : Int)] 88) = w5 at HB5 HP5 ⊢
            have HS5 := Lib.hid (HS1.out.below HB5.out)
            have HJ5 : Hid (J (stepL f A (i, s, p) sg k).length w5) := HJ.out _ _ _ HJ1.out ⟨HB5.out.os, HB5.out.tape, HB5.out.output, HB5.out.size, fun k hk _ => HB5.out.block k hk⟩
            have e0 := HP5.out.c0
            have e1 := HP5.out.c1
            have e2 := HP5.out.c2
            have hat := stepL_at f A (i, s, p) sg hlt HGEN.out
            have hlen : (stepL f A (i, s, p) sg (k + 1)).length = (stepL f A (i, s, p) sg k).length + 1 := by rw [stepL_succ, HGEN.out]; simp
            have hkN : (stepL f A (i, s, p) sg k).length < (stepL f A (i, s, p) sg A).length := by
              have := (List.getElem?_eq_some_iff.1 hat).1
              exact this
            obtain ⟨fn, tmps, assign, body, hy, hR⟩ := HY.out (stepL f A (i, s, p) sg k).length undef w5 hkN HJ5.out trivial
            have hy2 : (Instr.yield l #[.int .i64 (k : Int), .agg #[.int .i64 (i2 : Int), .int .i64 (j : Int), .int .i64 (p2' : Int)]]).run Try.prog w5 = .ok (.round l fn tmps assign body) w5 := by
              unfold encS at hy
              rw [hat] at hy
              exact hy
            have HLEN := Lib.hid hlen
            have HKN := Lib.hid hkN
            clear hat hlen hkN hy HCL2 HS1 HJ1 HJ5 hY
            gi_wp2_with fail
            refine ⟨fun h => (by cases h), hR.mono ?_⟩
            rintro e W3 (⟨rfl, hJ3, hk3⟩ | ⟨rfl, hJx3⟩)
            · have HS6 := Lib.hid (HK.out _ _ hk3 HS5.out)
              have HJ6 : Hid (J (stepL f A (i, s, p) sg (k + 1)).length W3) := by rw [HLEN.out]; exact hJ3
              clear hJ3 hk3 hy2 hR e0 e1 e2 HS5
              gi_wp2_with fail
              go_roundw
              case rel => exact ⟨k + 1, hlt, by go_num, HS6, HJ6⟩
              case measure => simp [intOf]; omega
            · have HJX := Lib.hid hJx3
              clear hJx3 hy2 hR e0 e1 e2 HS5
              gi_wp2_with fail
              refine bodyPost_ret (results_none rfl _ _ _) rfl ?_
              exact ⟨⟨_, rfl⟩, .inr ⟨_, HKN.out, HJX.out⟩⟩
    · obtain rfl : k = A := by omega
      have q1 : ¬ (k : Int) < k := by omega
      gi_wp2_with fail
      go_end0
      exact ⟨⟨_, rfl⟩, .inl HJ1.out⟩
end Go.Proofs.Ytgblfobomiiofaa
