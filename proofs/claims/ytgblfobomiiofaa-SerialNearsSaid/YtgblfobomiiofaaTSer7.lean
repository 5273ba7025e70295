/- Contracts and lemmas (several texts merged into one). -/
import Derived.Test.YtgblfobomiiofaaTSer6
import Derived.Carry
import Derived.Laws.EntriesVeiled
import Derived.Laws.IdiomStrings
import Derived.Deep.RegionHeld3
namespace Go.Proofs.Ytgblfobomiiofaa
open Go Go.RowKit Go.Shelf Gw Go.Maps

/-- what counter lays ahead of its closure -/
structure Lays (R : Nat) (mv : Value) (z : Int) (W V : World) : Prop where
  bel : Below W.heap.size W V
  size : V.heap.size = W.heap.size + 1 + 1 + 1 + 1 + 1
  r : V.cell? ⟨W.heap.size, 0, none⟩ = some (.pointer (some ⟨R, 0, none⟩))
  m : V.cell? ⟨W.heap.size + 1, 0, none⟩ = some mv
  k : MapF KP (W.heap.size + 1 + 1) (fun _ => none) V
  kb : V.cell? ⟨W.heap.size + 1 + 1 + 1, 0, none⟩ = some (.map (some (W.heap.size + 1 + 1)))
  l : V.cell? ⟨W.heap.size + 1 + 1 + 1 + 1, 0, none⟩ = some (.int .i64 z)
  lf : V.frozen? ⟨W.heap.size + 1 + 1 + 1 + 1, 0, none⟩ = false
theorem Lays.new (R : Nat) (mv : Value) (W : World) (t1 t2 t3 t4 : TypeId) : Lays R mv (-1) W (((((W.alloc (.cells #[.pointer (some ⟨R, 0, none⟩)] t1)).alloc (.cells #[mv] t2)).alloc (.map #[] 0)).alloc (.cells #[.map (some (W.heap.size + 1 + 1))] t3)).alloc (.cells #[.int .i64 (-1)] t4)) := by
  obtain ⟨w1, h1⟩ : ∃ w1, w1 = W.alloc (.cells #[.pointer (some ⟨R, 0, none⟩)] t1) := ⟨_, rfl⟩
  obtain ⟨w2, h2⟩ : ∃ w2, w2 = w1.alloc (.cells #[mv] t2) := ⟨_, rfl⟩
  obtain ⟨w3, h3⟩ : ∃ w3, w3 = w2.alloc (.map #[] 0) := ⟨_, rfl⟩
  obtain ⟨w4, h4⟩ : ∃ w4, w4 = w3.alloc (.cells #[.map (some (W.heap.size + 1 + 1))] t3) := ⟨_, rfl⟩
  rw [← h1, ← h2, ← h3, ← h4]
  have s1 : w1.heap.size = W.heap.size + 1 := by rw [h1]; exact World.size_alloc _ _
  have s2 : w2.heap.size = W.heap.size + 1 + 1 := by rw [h2, World.size_alloc, s1]
  have s3 : w3.heap.size = W.heap.size + 1 + 1 + 1 := by rw [h3, World.size_alloc, s2]
  have s4 : w4.heap.size = W.heap.size + 1 + 1 + 1 + 1 := by rw [h4, World.size_alloc, s3]
  have b1 : Below W.heap.size W w1 := by rw [h1]; exact below_al _ _
  have b2 : Below w1.heap.size w1 w2 := by rw [h2]; exact below_al _ _
  have b3 : Below w2.heap.size w2 w3 := by rw [h3]; exact below_al _ _
  have b4 : Below w3.heap.size w3 w4 := by rw [h4]; exact below_al _ _
  have b5 := below_al w4 (.cells #[.int .i64 (-1)] t4)
  have c1 : w1.cell? ⟨W.heap.size, 0, none⟩ = some (.pointer (some ⟨R, 0, none⟩)) := by rw [h1]; exact World.cell?_alloc_at _ _ _ _ rfl
  have c2 : w2.cell? ⟨W.heap.size + 1, 0, none⟩ = some mv := by rw [h2]; exact World.cell?_alloc_at _ _ _ _ s1.symm
  have c3 : MapF KP (W.heap.size + 1 + 1) (fun _ => none) w3 := by rw [h3, ← s2]; exact MapF.new w2
  have c4 : w4.cell? ⟨W.heap.size + 1 + 1 + 1, 0, none⟩ = some (.map (some (W.heap.size + 1 + 1))) := by rw [h4]; exact World.cell?_alloc_at _ _ _ _ s3.symm
  have b25 := (b3.trans (b4.mono (by omega))).trans (b5.mono (by omega))
  have b15 := b2.trans (b25.mono (by omega))
  refine ⟨b1.trans (b15.mono (by omega)), by rw [World.size_alloc, s4], (b15.cell (p := ⟨W.heap.size, 0, none⟩) (by show W.heap.size < _; omega)).trans c1, (b25.cell (p := ⟨W.heap.size + 1, 0, none⟩) (by show W.heap.size + 1 < _; omega)).trans c2, (c3.below b4).below b5, (b5.cell (p := ⟨W.heap.size + 1 + 1 + 1, 0, none⟩) (by show W.heap.size + 1 + 1 + 1 < _; omega)).trans c4, World.cell?_alloc_at _ _ _ _ s4.symm, ?_⟩
  unfold World.frozen?
  dsimp only
  rw [← s4, World.alloc_heap_new]
  simp
theorem Lays.fin {R mb : Nat} {al : ByteArray} {n : Nat} {ck : Bool} {f : Nat → Nat → Option Nat} {mv : Value} {ml : List (Option Nat)} {last : Option Nat} {z : Int} {W V : World} (h : SerA R mb al n ck f W) (hm : IsIs W mv (asM ml)) (hv : ∀ j, mv.ownBlock = some j → j < W.heap.size) (hl : Lays R mv z W V) (hz : z = sgn last) {b : Nat} (hb : b = W.heap.size) (t : TypeId) :
    CtI R mb al n ck f (b + 1 + 1 + 1 + 1) b (b + 1 + 1 + 1) (b + 1) (b + 1 + 1 + 1 + 1 + 1) (b + 1 + 1) last mv ml (V.alloc (.cells #[cntV (b + 1 + 1 + 1 + 1) b (b + 1 + 1 + 1) (b + 1) (b + 1 + 1 + 1 + 1 + 1)] t)) ∧ Below W.heap.size W (V.alloc (.cells #[cntV (b + 1 + 1 + 1 + 1) b (b + 1 + 1 + 1) (b + 1) (b + 1 + 1 + 1 + 1 + 1)] t)) := by
  subst hb
  have hB := below_al V (.cells #[cntV (W.heap.size + 1 + 1 + 1 + 1) W.heap.size (W.heap.size + 1 + 1 + 1) (W.heap.size + 1) (W.heap.size + 1 + 1 + 1 + 1 + 1)] t)
  have hs := hl.size
  have hR := h.se.lt
  have hm2 := h.mp.lt
  have hbl := hl.bel.trans (hB.mono hl.bel.size)
  have cl := fun (k : Nat) (v : Value) (hk : k < V.heap.size) (e : V.cell? ⟨k, 0, none⟩ = some v) => (hB.cell (p := ⟨k, 0, none⟩) hk).trans e
  refine ⟨⟨h.below hbl, ?_, cl _ _ (by omega) hl.r, cl _ _ (by omega) hl.kb, cl _ _ (by omega) hl.m, ?_, hm.below hbl, ⟨_, hl.k.below hB, fun a _ j hj => by cases hj⟩, by omega, by omega, by omega, by omega, by omega, by omega, by omega, fun e => by have := hv _ e; omega⟩, hbl⟩
  · rw [← hz]; exact cl _ _ (by omega) hl.l
  · exact World.cell?_alloc_at _ _ _ _ hs.symm
set_option maxRecDepth 100000 in
set_option maxHeartbeats 2000000 in
theorem counter_no {R mb : Nat} {al : ByteArray} {n : Nat} {f : Nat → Nat → Option Nat} {mv : Value} {ml : List (Option Nat)} {W : World} (h : SerA R mb al n false f W) (hm : IsIs W mv (asM ml)) (hv : ∀ j, mv.ownBlock = some j → j < W.heap.size) :
    Calls Try.prog 66 #[.pointer (some ⟨R, 0, none⟩), mv] W fun e W' => ∃ b, b = W.heap.size ∧ e = .returned (cntV (b + 1 + 1 + 1 + 1) b (b + 1 + 1 + 1) (b + 1) (b + 1 + 1 + 1 + 1 + 1)) ∧ Hid (CtI R mb al n false f (b + 1 + 1 + 1 + 1) b (b + 1 + 1 + 1) (b + 1) (b + 1 + 1 + 1 + 1 + 1) (b + 1 + 1) none mv ml W') ∧ Hid (Below W.heap.size W W') := by
  have H := Lib.hid h
  have HM := Lib.hid hm
  have HV := Lib.hid hv
  have c2 := h.se.c2
  have hR := h.se.lt
  obtain ⟨ao, c, rfl, -⟩ := hm
  have hmk : ∀ w, (Instr.makeMap 120 none).run Try.prog w = .ok (.map (some w.heap.size)) (w.alloc (.map #[] 0)) := fun w => run_makeMap _ w
  clear h hv
  go_enter Try.func66, Try.ntmps66
  go_upto_region 3 with fail
  have HL := Lib.hid (Lays.new R (.slice ao (asM ml).length c) W 68 67 120 3)
  obtain ⟨b, hb⟩ : ∃ b, b = W.heap.size := ⟨_, rfl⟩
  have HBB := Lib.hid hb
  generalize World.alloc (World.alloc (World.alloc (World.alloc (World.alloc W _) _) _) _) _ = V at HL ⊢
  have r0 := HL.out.r
  have r2 := (HL.out.bel.cell (p := ⟨R, 2, none⟩) hR).trans c2
  rw [← hb] at r0 ⊢
  clear hb c2
  go_wp2_with fail
  have hsz := HL.out.size
  rw [← HBB.out] at hsz
  rw [hsz]
  have hf := HL.out.fin H.out HM.out HV.out (last := none) rfl HBB.out 78
  refine bodyPost_ret (v := cntV (b + 1 + 1 + 1 + 1) b (b + 1 + 1 + 1) (b + 1) (b + 1 + 1 + 1 + 1 + 1)) (by simp [results, Try.results66, go_sem, cntV]) rfl ?_
  exact ⟨b, HBB.out, rfl, hf.1, hf.2⟩
end Go.Proofs.Ytgblfobomiiofaa
namespace Go.Proofs.Ytgblfobomiiofaa
open Go Go.RowKit Go.Shelf Gw Go.Maps

theorem Lays.set {R : Nat} {mv : Value} {y : Int} {W V : World} (h : Lays R mv y W V) (z : Int) : Lays R mv z W (V.drew.setCell ⟨W.heap.size + 1 + 1 + 1 + 1, 0, none⟩ (.int .i64 z)) := by
  have hd := h.bel.drew
  have hs := h.size
  have ot := fun (k : Nat) (v : Value) (hk : k ≠ W.heap.size + 1 + 1 + 1 + 1) (e : V.cell? ⟨k, 0, none⟩ = some v) => (World.cell?_setCell_other V.drew ⟨W.heap.size + 1 + 1 + 1 + 1, 0, none⟩ ⟨k, 0, none⟩ (.int .i64 z) (by intro e; injection e with e; exact hk e.symm)).trans e
  refine ⟨hd.setCell (p := ⟨W.heap.size + 1 + 1 + 1 + 1, 0, none⟩) (by show W.heap.size ≤ W.heap.size + 1 + 1 + 1 + 1; omega) _, by rw [World.size_setCell]; exact hs, ot _ _ (by omega) h.r, ot _ _ (by omega) h.m, ?_, ot _ _ (by omega) h.kb, World.cell?_setCell_same _ _ _ h.l, by rw [World.frozen?_setCell]; exact h.lf⟩
  refine (show MapF KP (W.heap.size + 1 + 1) (fun _ => none) V.drew from h.k).of_block ?_
  exact Below.heap_setCell _ _ _ _ (by show W.heap.size + 1 + 1 ≠ W.heap.size + 1 + 1 + 1 + 1; omega)
set_option maxRecDepth 100000 in
set_option maxHeartbeats 2000000 in
theorem counter_yes {R mb : Nat} {al : ByteArray} {n : Nat} {f : Nat → Nat → Option Nat} {mv : Value} {ml : List (Option Nat)} {W : World} (h : SerA R mb al n true f W) (hnl : n < ml.length) (hm : IsIs W mv (asM ml)) (hv : ∀ j, mv.ownBlock = some j → j < W.heap.size) :
    Calls Try.prog 66 #[.pointer (some ⟨R, 0, none⟩), mv] W fun e W' => ∃ b, b = W.heap.size ∧ e = .returned (cntV (b + 1 + 1 + 1 + 1) b (b + 1 + 1 + 1) (b + 1) (b + 1 + 1 + 1 + 1 + 1)) ∧ Hid (CtI R mb al n true f (b + 1 + 1 + 1 + 1) b (b + 1 + 1 + 1) (b + 1) (b + 1 + 1 + 1 + 1 + 1) (b + 1 + 1) (ml[n]) mv ml W') ∧ Hid (Below W.heap.size W W') := by
  have H := Lib.hid h
  have HM := Lib.hid hm
  have HV := Lib.hid hv
  have c2 := h.se.c2
  have hR := h.se.lt
  obtain ⟨ao, c, rfl, -⟩ := hm
  obtain ⟨Bm, om, rfl, d0⟩ := HM.out.at' (j := n) (by rw [asM_len]; exact hnl)
  obtain ⟨z, hz⟩ : ∃ z, z = sgn ml[n] := ⟨_, rfl⟩
  have hz2 : (asM ml)[n]'(by rw [asM_len]; exact hnl) = z := by rw [hz]; simp [asM]
  rw [hz2] at d0
  have HZ := Lib.hid hz
  have hBm := World.block_lt_of_cell? _ _ d0
  have c1 := h.se.c1
  have hlm : (n : Int) < ((asM ml).length : Int) := by rw [asM_len]; omega
  clear hz hz2
  have hmk : ∀ w, (Instr.makeMap 120 none).run Try.prog w = .ok (.map (some w.heap.size)) (w.alloc (.map #[] 0)) := fun w => run_makeMap _ w
  clear h hv
  go_enter Try.func66, Try.ntmps66
  go_upto_region 3 with fail
  have HL := Lib.hid (Lays.new R (.slice (some ⟨Bm, om, none⟩) (asM ml).length c) W 68 67 120 3)
  obtain ⟨b, hb⟩ : ∃ b, b = W.heap.size := ⟨_, rfl⟩
  have HBB := Lib.hid hb
  generalize World.alloc (World.alloc (World.alloc (World.alloc (World.alloc W _) _) _) _) _ = V at HL ⊢
  have r0 := HL.out.r
  have r2 := (HL.out.bel.cell (p := ⟨R, 2, none⟩) hR).trans c2
  rw [← hb] at r0 ⊢
  clear hb c2
  have r1 := (HL.out.bel.cell (p := ⟨R, 1, none⟩) hR).trans c1
  have m0 := HL.out.m
  have l0 := HL.out.l
  have f0 := HL.out.lf
  have d1 := (HL.out.bel.cell (p := ⟨Bm, om + n, none⟩) hBm).trans d0
  have r0d : V.drew.cell? ⟨b, 0, none⟩ = some (.pointer (some ⟨R, 0, none⟩)) := r0
  rw [← HBB.out] at m0 l0 f0
  have r1d : V.drew.cell? ⟨R, 1, none⟩ = some (.int .i64 (n : Int)) := r1
  have m0d : V.drew.cell? ⟨b + 1, 0, none⟩ = some (.slice (some ⟨Bm, om, none⟩) (asM ml).length c) := m0
  have d1d : V.drew.cell? ⟨Bm, om + n, none⟩ = some (.int .i64 z) := d1
  have l0d : V.drew.cell? ⟨b + 1 + 1 + 1 + 1, 0, none⟩ = some (.int .i64 (-1)) := l0
  have f0d : V.drew.frozen? ⟨b + 1 + 1 + 1 + 1, 0, none⟩ = false := f0
  have HL2 : Hid (Lays R (.slice (some ⟨Bm, om, none⟩) (asM ml).length c) z W (V.drew.setCell ⟨b + 1 + 1 + 1 + 1, 0, none⟩ (.int .i64 z))) := by rw [HBB.out]; exact HL.out.set z
  clear c1 d0
  go_wp2_with fail
  go_region
  all_goals go_wp2_with fail
  all_goals
    have hsz := HL.out.size
    rw [← HBB.out] at hsz
    rw [hsz]
    have hf := HL2.out.fin H.out HM.out HV.out (last := ml[n]) HZ.out HBB.out 78
    refine bodyPost_ret (v := cntV (b + 1 + 1 + 1 + 1) b (b + 1 + 1 + 1) (b + 1) (b + 1 + 1 + 1 + 1 + 1)) (by simp [results, Try.results66, go_sem, cntV]) rfl ?_
    exact ⟨b, HBB.out, rfl, hf.1, hf.2⟩
end Go.Proofs.Ytgblfobomiiofaa
namespace Go.Proofs.Ytgblfobomiiofaa
open Go Go.RowKit Go.Shelf Gw Go.Maps

theorem cntK_le (f : Nat → Nat → Option Nat) (A n : Nat) (last : Option Nat) (ml : List (Option Nat)) (k s p : Nat) : min (cntK f A n last ml k s p) tooM ≤ tooM := Nat.min_le_right _ _
set_option maxRecDepth 100000 in
set_option maxHeartbeats 2000000 in
theorem total_any {R mb : Nat} {al : ByteArray} {n : Nat} {ck : Bool} {f : Nat → Nat → Option Nat} {bL bR bK bM bC km : Nat} {last : Option Nat} {mv : Value} {ml : List (Option Nat)} (h1 : 2 ≤ al.size) (h2 : al.size ≤ 36) (hn : n ≤ 16) (hml : n ≤ ml.length) (hf : ∀ i v j, f i v = some j → j < 200)
    {W : World} (h : CtI R mb al n ck f bL bR bK bM bC km last mv ml W) (h4 : W.cell? ⟨R, 4, none⟩ = some (cntV bL bR bK bM bC)) :
    Calls Try.prog 47 #[.pointer (some ⟨R, 0, none⟩)] W
      fun e W' => e = .returned (.int .i64 (min (cntK f al.size n last ml n 0 al.size) tooM : Nat)) ∧ Hid (CtI R mb al n ck f bL bR bK bM bC km last mv ml W') ∧ Hid (W.grownBy W' (some km)) := by
  have H := Lib.hid h
  have HST := Lib.hid (start_any (w := W.drew) (h.se.se.below (below_dr W 1)))
  have HCT := Lib.hid (fun (V : World) (hV : CtI R mb al n ck f bL bR bK bM bC km last mv ml V) => count_any h1 h2 hn hml hf n 0 (by omega) V 0 al.size (by omega) (Nat.le_refl _) hV)
  have hR := h.se.se.lt
  unfold plcV at HST HCT
  dsimp only at HST HCT
  unfold cntV at h4
  have h4d : W.drew.cell? ⟨R, 4, none⟩ = some (.func (.func 83) #[] #[.pointer (some ⟨bL, 0, none⟩), .pointer (some ⟨bR, 0, none⟩), .pointer (some ⟨bK, 0, none⟩), .pointer (some ⟨bM, 0, none⟩), .pointer (some ⟨bC, 0, none⟩)]) := h4
  obtain ⟨r, hr⟩ : ∃ r, r = min (cntK f al.size n last ml n 0 al.size) tooM := ⟨_, rfl⟩
  rw [← hr] at HCT ⊢
  have HC2 : Hid (∀ V, Below W.heap.size W V → Calls Try.prog 83 #[.agg #[.int .i64 0, .int .i64 0, .int .i64 (al.size : Int)], .pointer (some ⟨bL, 0, none⟩), .pointer (some ⟨bR, 0, none⟩), .pointer (some ⟨bK, 0, none⟩), .pointer (some ⟨bM, 0, none⟩), .pointer (some ⟨bC, 0, none⟩)] V
        fun e V' => e = .returned (.int .i64 (r : Int)) ∧ Hid (CtI R mb al n ck f bL bR bK bM bC km last mv ml V') ∧ Hid (V.grownBy V' (some km))) := fun V hV => HCT.out V (H.out.below hV)
  clear h hr HCT
  go_enter Try.func47, Try.ntmps47
  go_upto_region 1 with fail
  go_region_with (first
    | (go_at_call 57; (with_reducible refine HST.out.mono ?_); rintro e w1 ⟨rfl, HB1⟩; have h4e := (HB1.out.cell (p := ⟨R, 4, none⟩) (by show R < W.heap.size; exact hR)).trans h4d; have HB2 := Lib.hid (show Below W.heap.size W w1 from (below_dr W 1).trans HB1.out))
    | (go_at_call 83; (with_reducible refine (HC2.out _ HB2.out).mono ?_); rintro e w2 ⟨rfl, HC3, HG3⟩)
    | fail)
  all_goals go_wp2_with fail
  all_goals go_ret
  all_goals exact ⟨rfl, HC3, (grown_of HB2.out _).andThen HG3.out (fun j hj => by cases hj; exact Or.inr rfl)⟩
end Go.Proofs.Ytgblfobomiiofaa
namespace Go.Proofs.Ytgblfobomiiofaa
open Go Go.RowKit Go.Shelf Gw Go.Maps

theorem Try.infoU8S : (Try.prog.info? 5).map (fun i => (i.zero, i.size, i.bytes)) = some (some (.int .u8 0), 1, 1) := by kernel_rfl
def encU (l : List UInt8) : List Value := l.map fun b => .int .u8 (b.toNat : Int)
/-- the signs of values -/
def signs (al : ByteArray) (u : List Nat) : List UInt8 := u.map fun v => if h : v < al.size then al[v] else 0
theorem signs_take {al : ByteArray} {u : List Nat} {i : Nat} (h : i < u.length) (hv : u[i] < al.size) : signs al (u.take (i + 1)) = signs al (u.take i) ++ [al[u[i]]] := by
  unfold signs
  rw [List.take_succ_eq_append_getElem h, List.map_append]
  simp [hv]
set_option maxRecDepth 100000 in
theorem str_of_row {W : World} {base : Nat} {so : Option Addr} {k sc : Nat} {l : List UInt8} (h : W.ownsRow base 5 1 (.slice so k sc) k (encU l)) (hk : k = l.length) : (convert 97 9 (.slice so k sc)).run Try.prog W = .ok (.string ⟨l.toArray⟩) W := by
  have hcs := fun g hg => h.cells (g := g) hg
  rcases h.2 with ⟨e, h0⟩ | ⟨g, cap, cur, e, _⟩
  · injection e with e1 e2 e3
    subst e1 e3
    have hl : l = [] := List.eq_nil_of_length_eq_zero (by omega)
    subst hl h0
    rw [run_convert_bytes_string W _ _ 5 none 0 0 Try.underlying97 Try.underlying5 Try.underlying9]
    rfl
  · injection e with e1 e2 e3
    subst e1 e3
    rw [hk]
    refine run_convert_bytes_back W _ _ 5 ⟨g, 0, none⟩ _ l Try.underlying97 Try.underlying5 Try.underlying9 fun j hj => ?_
    exact hcs g rfl j _ (by simp [encU, hj])
set_option maxRecDepth 100000 in
set_option maxHeartbeats 2000000 in
theorem text_no {R n : Nat} {al : ByteArray} {w : World} {bv : Value} {u : List Nat} (h : Ser R al n false w) (hv : IsIs w bv (asI u)) (hu : ∀ x ∈ u, x < al.size) (hl : u.length ≤ 500) :
    Calls Try.prog 48 #[.pointer (some ⟨R, 0, none⟩), bv] w (fun e w' => e = .returned (.string (ByteArray.mk (signs al u).toArray)) ∧ Hid (Below w.heap.size w w')) := by
  obtain ⟨i0, hi0, hz0, hz1, hz2⟩ := info_parts Try.infoU8S
  have HI := Lib.hid hv; have HU := Lib.hid hu; have HS := Lib.hid h
  obtain ⟨ao, c, rfl, -⟩ := hv
  obtain ⟨m, hm⟩ : ∃ m, m = u.length := ⟨_, rfl⟩
  rw [asI_len, ← hm] at HI ⊢
  rw [← hm] at hl
  have HM := Lib.hid hm
  have hR := h.lt
  clear hm hu h
  go_enter Try.func48, Try.ntmps48
  go_wp2_with fail
  go_loopw [5, 10] (fun s5 s10 wr => ∃ (i : Nat) (so : Option Addr) (sc : Nat), i ≤ m ∧ s10 = .int .i64 i ∧ s5 = .slice so i sc ∧ Hid (wr.ownsRow w.heap.size 5 1 (.slice so i sc) i (encU (signs al (u.take i)))) ∧ Hid (Below w.heap.size w wr)) (fun _ s10 _ => m - (intOf s10).toNat)
  case atStart => exact ⟨0, none, 0, Nat.zero_le _, rfl, rfl, World.ownsRow_nil _ _ _ _, Below.refl _ _⟩
  case round =>
    obtain ⟨i, so, sc, hi, rfl, rfl, HO, HB⟩ := hrel
    by_cases q : i < m
    · have q1 : (i : Int) < m := by omega
      have hw : IntKind.i64.wrap ((i : Int) + 1) = ((i + 1 : Nat) : Int) := by rw [IntWalk.i64_in _ (by omega)]; omega
      have hiu : i < u.length := by rw [← HM.out]; exact q
      obtain ⟨B, o, rfl, d0⟩ := HI.out.at' (j := i) (by rw [asI_len]; exact hiu)
      rw [asI_at hiu] at d0
      have hst := signs_take (al := al) hiu (HU.out _ (List.getElem_mem _))
      obtain ⟨x, hx⟩ : ∃ x, x = u[i] := ⟨_, rfl⟩
      have hxA : x < al.size := by rw [hx]; exact HU.out _ (List.getElem_mem _)
      have hst2 : signs al (u.take (i + 1)) = signs al (u.take i) ++ [al[x]] := by rw [hst]; congr 2; simp [hx]
      rw [← hx] at d0
      have d1 := (HB.out.cell (p := ⟨B, o + i, none⟩) (World.block_lt_of_cell? _ _ d0)).trans d0
      have c0 := (HB.out.cell (p := ⟨R, 0, none⟩) hR).trans HS.out.c0
      have hix := fun W => index_str hxA W
      obtain ⟨y, hy⟩ : ∃ y, y = al[x] := ⟨_, rfl⟩
      rw [← hy] at hst2 hix
      have HST := Lib.hid hst2
      clear hst hst2 hx hy d0
      have hsz : w.heap.size ≤ wr.heap.size := HB.out.size
      have hsz2 : w.heap.size ≤ wr.heap.size + 1 := by omega
      have hne : ∀ so sc g, (Value.slice so i sc).ownBlock = some g → w.heap.size ≤ g → True := fun _ _ _ _ _ => trivial
      clear hne
      go_upto_region 6 with (at_builtin; refine wpList_append_own _ rfl _ _ 97 rfl w.heap.size 5 i0 (.int .u8 0) 1 1 Try.underlying97 hi0 hz0 hz1 hz2 rfl (by decide) (.slice so i sc) i (encU (signs al (u.take i))) rfl (HO.out.alloc _) ⟨wr.heap.size, 0, none⟩ 1 1 [.int .u8 (y.toNat : Int)] rfl rfl (cell_one_new _ _ _) (by simp [Value.oneCell']) (by unfold maxLen; omega) (by omega) (by simp; omega) ?_; intro v' w8 hown hgrow _; obtain ⟨so2, sc2, rfl⟩ := row_sl hown)
      have HO2 : Hid (w8.ownsRow w.heap.size 5 1 (.slice so2 (i + 1) sc2) (i + 1) (encU (signs al (u.take (i + 1))))) := by
        rw [HST.out]
        have : encU (signs al (u.take i) ++ [y]) = encU (signs al (u.take i)) ++ [.int .u8 (y.toNat : Int)] := by simp [encU]
        rw [this]
        exact hown
      have HB2 : Hid (Below w.heap.size w w8) := (HB.out.alloc hsz _).grown hgrow (Nat.le_trans hsz (by rw [World.size_alloc]; omega)) (fun j hj => (HO.out.lt j hj).1)
      clear hown hgrow
      go_wp2_with fail
      go_roundw
      case rel => exact ⟨i + 1, so2, sc2, q, by go_num, by rfl, HO2, HB2⟩
      case measure => simp [intOf]; omega
    · obtain rfl : i = m := by omega
      have q1 : ¬ (i : Int) < i := by omega
      have c2 := (HB.out.cell (p := ⟨R, 2, none⟩) hR).trans HS.out.c2
      have htk : u.take i = u := by rw [HM.out]; exact List.take_length
      have ho := HO.out
      rw [htk] at ho
      have hcv := str_of_row ho (by rw [HM.out]; simp [signs])
      clear ho htk
      go_wp2_with fail
      go_ret
      exact ⟨rfl, HB⟩
end Go.Proofs.Ytgblfobomiiofaa
namespace Go.Proofs.Ytgblfobomiiofaa
open Go Go.RowKit Go.Shelf Gw Go.Maps

/-- which ends a last sign lets through -/
def finL (A : Nat) (last : Option Nat) (p : Nat) : Bool := decide (last = none ∨ last = some (lcN A p))
/-- the words that go on from a place -/
def wordsAt (f : Nat → Nat → Option Nat) (A n : Nat) (last : Option Nat) (ml : List (Option Nat)) (i s p : Nat) : List (List Nat) := words f A (ncN A) (finL A last) ((ml.take n).drop i) s p
theorem sum_stepL (f : Nat → Nat → Option Nat) (A : Nat) (q : Pl) (sg : Option Nat) (g : Nat × Pl → Nat) : ∀ k, ((stepL f A q sg k).map g).sum = sumV (fun v => match stepG f A q sg v with | none => 0 | some y => g y) k
  | 0 => rfl
  | k + 1 => by
    rw [stepL_succ, List.map_append, List.sum_append, sum_stepL f A q sg g k]
    simp only [sumV]
    cases stepG f A q sg k <;> simp
theorem maskL_cons {n i : Nat} {ml : List (Option Nat)} (hml : n ≤ ml.length) (hi : i < n) : (ml.take n).drop i = ml.getD i none :: (ml.take n).drop (i + 1) := by
  have h1 : i < (ml.take n).length := by rw [List.length_take]; omega
  rw [List.drop_eq_getElem_cons h1]
  congr 1
  rw [List.getElem_take]
  simp [show i < ml.length by omega]
theorem sumV_congr {f g : Nat → Nat} : ∀ {k : Nat}, (∀ v, v < k → f v = g v) → sumV f k = sumV g k
  | 0, _ => rfl
  | k + 1, h => by simp only [sumV]; rw [sumV_congr (fun v hv => h v (by omega)), h k (by omega)]
/-- a step's part, by what is yielded -/
theorem stepW_len (f : Nat → Nat → Option Nat) (A n : Nat) (last : Option Nat) (ml : List (Option Nat)) (i s p : Nat) (m : Option Nat) (v : Nat) :
    stepW f A (ncN A) (finL A last) m ((ml.take n).drop (i + 1)) s p v = match stepG f A (i, s, p) m v with | none => [] | some y => wordsAt f A n last ml (i + 1) y.2.2.1 y.2.2.2 := by
  unfold stepW stepG fitsM
  have e : (m.isNone || m == some v) = decide (m = none ∨ m = some v) := by
    cases m with
    | none => simp
    | some x => by_cases c : x = v <;> simp [c]
  rw [e]
  by_cases c : m = none ∨ m = some v
  · rw [if_pos (decide_eq_true c), if_pos c]
    cases f s v <;> rfl
  · rw [if_neg (by simpa using c), if_neg c]
theorem cntK_words {f : Nat → Nat → Option Nat} {A n : Nat} {last : Option Nat} {ml : List (Option Nat)} (hml : n ≤ ml.length) : ∀ (k i s p : Nat), i + k = n → cntK f A n last ml k s p = (wordsAt f A n last ml i s p).length
  | 0, i, s, p, hi => by
    unfold cntK wordsAt
    rw [List.drop_eq_nil_of_le (by rw [List.length_take]; omega)]
    unfold words finL
    by_cases c : last = none ∨ last = some (lcN A p)
    · rw [if_pos c, if_pos (decide_eq_true c)]; rfl
    · rw [if_neg c, if_neg (by simpa using c)]; rfl
  | k + 1, i, s, p, hi => by
    conv => lhs; unfold cntK
    unfold wordsAt
    rw [maskL_cons hml (by omega)]
    have h3 := cnt_cons (δ := f) (A := A) (nc := ncN A) (fin := finL A last) (ml.getD i none) ((ml.take n).drop (i + 1)) s p
    unfold cnt at h3
    rw [h3, sum_stepL, show n - (k + 1) = i by omega]
    refine sumV_congr fun v _ => ?_
    rw [stepW_len f A n last ml i s p]
    cases stepG f A (i, s, p) (ml.getD i none) v with
    | none => rfl
    | some y => exact cntK_words hml k (i + 1) y.2.2.1 y.2.2.2 (by omega)
/-- the rounds ahead of one are those of the lesser values -/
theorem stepL_take {f : Nat → Nat → Option Nat} {A : Nat} {q : Pl} {sg : Option Nat} : ∀ {m j : Nat} {y : Nat × Pl}, (stepL f A q sg m)[j]? = some y → (stepL f A q sg m).take j = stepL f A q sg y.1 ∧ stepG f A q sg y.1 = some y ∧ y.1 < m
  | 0, j, y, h => by simp [stepL] at h
  | m + 1, j, y, h => by
    rw [stepL_succ] at h ⊢
    by_cases c : j < (stepL f A q sg m).length
    · rw [List.getElem?_append_left c] at h
      obtain ⟨h1, h2, h3⟩ := stepL_take h
      exact ⟨by rw [List.take_append_of_le_length (by omega)]; exact h1, h2, by omega⟩
    · rw [List.getElem?_append_right (by omega)] at h
      cases hg : stepG f A q sg m with
      | none => rw [hg] at h; simp at h
      | some z =>
        rw [hg] at h
        have hj : j = (stepL f A q sg m).length := by
          have := (List.getElem?_eq_some_iff.1 h).1
          simp at this
          omega
        subst hj
        simp at h
        subst h
        have hz : z.1 = m := by
          unfold stepG at hg
          split at hg
          · obtain ⟨j, _, rfl⟩ := Option.map_eq_some_iff.1 hg
            rfl
          · cases hg
        rw [hz]
        exact ⟨by simp, hg, by omega⟩
theorem sumK_at {f : Nat → Nat → Option Nat} {A : Nat} {q : Pl} {sg : Option Nat} {g : Nat × Pl → Nat} {m j : Nat} {y : Nat × Pl} (h : (stepL f A q sg m)[j]? = some y) : sumK g (stepL f A q sg m) j = sumV (fun v => match stepG f A q sg v with | none => 0 | some y => g y) y.1 := by
  unfold sumK
  rw [(stepL_take h).1, sum_stepL]
section
variable {f : Nat → Nat → Option Nat} {A n : Nat} {last : Option Nat} {ml : List (Option Nat)} {i s p : Nat}
/-- what a round's place leaves -/
def gW (f : Nat → Nat → Option Nat) (A n : Nat) (last : Option Nat) (ml : List (Option Nat)) (i : Nat) (y : Nat × Pl) : Nat := (wordsAt f A n last ml (i + 1) y.2.2.1 y.2.2.2).length
theorem stepW_gW (m : Option Nat) : (fun v => (stepW f A (ncN A) (finL A last) m ((ml.take n).drop (i + 1)) s p v).length) = fun v => match stepG f A (i, s, p) m v with | none => 0 | some y => gW f A n last ml i y := by
  funext v
  rw [stepW_len f A n last ml i s p]
  cases stepG f A (i, s, p) m v <;> rfl
theorem words_all (hml : n ≤ ml.length) (hi : i < n) : (wordsAt f A n last ml i s p).length = sumK (gW f A n last ml i) (stepL f A (i, s, p) (ml.getD i none) A) (stepL f A (i, s, p) (ml.getD i none) A).length := by
  rw [sumK_all, sum_stepL]
  unfold wordsAt
  rw [maskL_cons hml hi]
  have h3 := cnt_cons (δ := f) (A := A) (nc := ncN A) (fin := finL A last) (ml.getD i none) ((ml.take n).drop (i + 1)) s p
  unfold cnt at h3
  rw [h3, stepW_gW]
/-- the k-th word begins with the round at which less are left -/
theorem words_pick (hml : n ≤ ml.length) (hi : i < n) {j k : Nat} {y : Nat × Pl} (h : (stepL f A (i, s, p) (ml.getD i none) A)[j]? = some y)
    (h1 : sumK (gW f A n last ml i) (stepL f A (i, s, p) (ml.getD i none) A) j ≤ k) (h2 : k < sumK (gW f A n last ml i) (stepL f A (i, s, p) (ml.getD i none) A) j + gW f A n last ml i y) :
    (wordsAt f A n last ml i s p)[k]? = ((wordsAt f A n last ml (i + 1) y.2.2.1 y.2.2.2)[k - sumK (gW f A n last ml i) (stepL f A (i, s, p) (ml.getD i none) A) j]?).map (y.1 :: ·) := by
  obtain ⟨-, hg, hv⟩ := stepL_take h
  have hs := sumK_at (g := gW f A n last ml i) h
  have e : wordsAt f A n last ml i s p = words f A (ncN A) (finL A last) (ml.getD i none :: (ml.take n).drop (i + 1)) s p := by
    unfold wordsAt
    rw [maskL_cons hml hi]
  rw [e]
  have hsw : stepW f A (ncN A) (finL A last) (ml.getD i none) ((ml.take n).drop (i + 1)) s p y.1 = wordsAt f A n last ml (i + 1) y.2.2.1 y.2.2.2 := by
    rw [stepW_len f A n last ml i s p, hg]
  obtain ⟨d, hd⟩ : ∃ d, d = k - sumK (gW f A n last ml i) (stepL f A (i, s, p) (ml.getD i none) A) j := ⟨_, rfl⟩
  have hdl : d < (stepW f A (ncN A) (finL A last) (ml.getD i none) ((ml.take n).drop (i + 1)) s p y.1).length := by
    rw [hsw]; exact (show d < gW f A n last ml i y by omega)
  have h3 := pick_step (δ := f) (A := A) (nc := ncN A) (fin := finL A last) (ml.getD i none) ((ml.take n).drop (i + 1)) s p hv hdl
  rw [stepW_gW, ← hs] at h3
  rw [show sumK (gW f A n last ml i) (stepL f A (i, s, p) (ml.getD i none) A) j + d = k by omega] at h3
  rw [h3, ← hd]
  have hdl2 : d < (wordsAt f A n last ml (i + 1) y.2.2.1 y.2.2.2).length := by rw [← hsw]; exact hdl
  rw [List.getElem?_eq_getElem hdl2]
  have h4 : ∀ {a b : List (List Nat)} (e : a = b) (h : d < a.length) (h' : d < b.length), a[d] = b[d] := fun e _ _ => by subst e; rfl
  rw [h4 hsw hdl hdl2]
  rfl
/-- how many words are less -/
def gB (e : Nat) (g : Nat × Pl → Nat) (y : Nat × Pl) : Nat := if y.1 < e then g y else 0
theorem sumV_cut (F : Nat → Nat) (e : Nat) : ∀ k, sumV (fun v => if v < e then F v else 0) k = sumV F (min k e)
  | 0 => by simp [sumV]
  | k + 1 => by
    simp only [sumV]
    rw [sumV_cut F e k]
    by_cases c : k < e
    · rw [if_pos c, Nat.min_eq_left (by omega), Nat.min_eq_left (by omega)]; rfl
    · rw [if_neg c, Nat.min_eq_right (by omega), Nat.min_eq_right (by omega)]; rfl
theorem sumB_all {q : Pl} {sg : Option Nat} {g : Nat × Pl → Nat} {e : Nat} (he : e ≤ A) : sumK (gB e g) (stepL f A q sg A) (stepL f A q sg A).length = sumV (fun v => match stepG f A q sg v with | none => 0 | some y => g y) e := by
  rw [sumK_all, sum_stepL]
  have h3 : (fun v => match stepG f A q sg v with | none => 0 | some y => gB e g y) = fun v => if v < e then (match stepG f A q sg v with | none => 0 | some y => g y) else 0 := by
    funext v
    cases hg : stepG f A q sg v with
    | none => simp
    | some z =>
      have hz : z.1 = v := by
        unfold stepG at hg
        split at hg
        · obtain ⟨j, _, rfl⟩ := Option.map_eq_some_iff.1 hg
          rfl
        · cases hg
      unfold gB
      simp [hz]
  rw [h3, sumV_cut, Nat.min_eq_right he]
/-- one more byte: what lies below, and what is left -/
theorem bel_next (hml : n ≤ ml.length) (hi : i < n) {e : Nat} (he : e < A) (b : List Nat) :
    bel (wordsAt f A n last ml i s p) (e :: b) = sumK (gB e (gW f A n last ml i)) (stepL f A (i, s, p) (ml.getD i none) A) (stepL f A (i, s, p) (ml.getD i none) A).length + bel (match stepG f A (i, s, p) (ml.getD i none) e with | none => [] | some y => wordsAt f A n last ml (i + 1) y.2.2.1 y.2.2.2) b := by
  have e1 : wordsAt f A n last ml i s p = words f A (ncN A) (finL A last) (ml.getD i none :: (ml.take n).drop (i + 1)) s p := by
    unfold wordsAt
    rw [maskL_cons hml hi]
  rw [e1, bel_step _ _ _ _ he, stepW_gW, sumB_all (by omega), stepW_len f A n last ml i s p]
theorem bel_room (hml : n ≤ ml.length) (hi : i < n) {e : Nat} (he : e < A) :
    sumK (gB e (gW f A n last ml i)) (stepL f A (i, s, p) (ml.getD i none) A) (stepL f A (i, s, p) (ml.getD i none) A).length + (match stepG f A (i, s, p) (ml.getD i none) e with | none => [] | some y => wordsAt f A n last ml (i + 1) y.2.2.1 y.2.2.2).length ≤ (wordsAt f A n last ml i s p).length := by
  have e1 : wordsAt f A n last ml i s p = words f A (ncN A) (finL A last) (ml.getD i none :: (ml.take n).drop (i + 1)) s p := by
    unfold wordsAt
    rw [maskL_cons hml hi]
  have h3 := cnt_cons (δ := f) (A := A) (nc := ncN A) (fin := finL A last) (ml.getD i none) ((ml.take n).drop (i + 1)) s p
  unfold cnt at h3
  rw [e1, h3, stepW_gW, sumB_all (by omega), ← stepW_len f A n last ml i s p]
  have h4 := congrFun (stepW_gW (f := f) (A := A) (n := n) (last := last) (ml := ml) (i := i) (s := s) (p := p) (ml.getD i none)) e
  rw [h4]
  have h5 := sumV_mono (fun v => match stepG f A (i, s, p) (ml.getD i none) v with | none => 0 | some y => gW f A n last ml i y) (show e + 1 ≤ A by omega)
  simp only [sumV] at h5
  exact h5
theorem sumK_mono (g : Nat × Pl → Nat) (xs : List (Nat × Pl)) {a b : Nat} (h : a ≤ b) : sumK g xs a ≤ sumK g xs b := by
  unfold sumK
  have e : (xs.take a) = (xs.take b).take a := by rw [List.take_take, Nat.min_eq_left h]
  rw [e]
  conv => rhs; rw [← List.take_append_drop a (xs.take b), List.map_append, List.sum_append]
  omega
theorem words_len_n (hml : n ≤ ml.length) {u : List Nat} (h : u ∈ wordsAt f A n last ml i s p) (hi : i ≤ n) : u.length = n - i := by
  have h1 := (mem_words.1 h).1
  rw [fitsW_len h1, List.length_drop, List.length_take]
  omega
end
end Go.Proofs.Ytgblfobomiiofaa
namespace Go.Proofs.Ytgblfobomiiofaa
open Go Go.RowKit Go.Shelf Gw Go.Maps

/-- an append to a row of the call's own, as one step of a region that draws its order -/
theorem step_app {P : Program} {ops : Array Oper} {o : Oper} {a : Act} {w : World} {K : Act → World → Prop} {Q : Exit → Act → World → Prop} {E : Prop} (hg : o.guard = none) (s x : Operand) (t : TypeId)
    (ho : o.op = Op.call { callee := Callee.builtin Builtin.append, args := #[s, x], argTypes := #[t, t] })
    (base : Nat) (e : TypeId) (i : TypeInfo) (z : Value) (size bytes : Nat) (ht : P.underlying t = some (.slice e)) (hi : P.info? e = some i) (hz : i.zero = some z)
    (hsize : i.size = size) (hby : i.bytes = bytes) (hzs : z.cells.size = size) (hsz : 0 < size)
    (v : Value) (n : Nat) (xs : List Value) (hs : a.eval s = v) (hown : w.ownsRow base e size v n xs)
    (ad : Addr) (m c : Nat) (news : List Value) (hx : a.eval x = .slice (some ad) m c) (hl : news.length = m * size) (hnews : ∀ j u, news[j]? = some u → w.cell? (ad.add j) = some u) (h1 : ∀ u ∈ news, u.oneCell' = true)
    (h63 : n + m ≤ maxLen) (hbytes : (n + m) * bytes ≤ 140737488355328) (hbase : base ≤ w.heap.size)
    (hK : ∀ v' w', w'.ownsRow base e size v' (n + m) (xs ++ news) → w.grownBy w' v.ownBlock → (v' = .slice none 0 0 ↔ v = .slice none 0 0 ∧ m = 0) → K (a.put o.dst v') w') :
    if Region.wanted o (yielded ops a.tmps) = true then Oper.wp P o a w K Q else E := by
  have hw : Region.wanted o (yielded ops a.tmps) = true := by simp [Region.wanted, hg]
  rw [if_pos hw]
  exact wp_append_own w s x t ho base e i z size bytes ht hi hz hsize hby hzs hsz v n xs hs hown ad m c news hx hl hnews h1 h63 hbytes hbase hK
set_option maxRecDepth 100000 in
set_option maxHeartbeats 2000000 in
theorem text_yes {R n : Nat} {al : ByteArray} {w : World} {bv : Value} {u : List Nat} (h : Ser R al n true w) (h1 : 2 ≤ al.size) (h2 : al.size ≤ 36) (hv : IsIs w bv (asI u)) (hu : ∀ x ∈ u, x < al.size) (hl : u.length ≤ 500) :
    Calls Try.prog 48 #[.pointer (some ⟨R, 0, none⟩), bv] w (fun e w' => e = .returned (.string (ByteArray.mk (signs al u ++ signs al [lcN al.size (chk (ncN al.size) al.size u)]).toArray)) ∧ Hid (Below w.heap.size w w')) := by
  obtain ⟨i0, hi0, hz0, hz1, hz2⟩ := info_parts Try.infoU8S
  have HI := Lib.hid hv; have HU := Lib.hid hu; have HS := Lib.hid h
  obtain ⟨t, ht⟩ : ∃ t, t = lcN al.size (chk (ncN al.size) al.size u) := ⟨_, rfl⟩
  have htA : t < al.size := by rw [ht]; exact Nat.mod_lt _ (by omega)
  have HCO := Lib.hid (fun (W : World) (hW : Below w.heap.size w W) => checkOf_any (h.below hW) h1 h2 (hv.below hW) hu (Nat.le_trans hl (by decide)))
  rw [← ht] at HCO ⊢
  obtain ⟨y, hy⟩ : ∃ y, y = al[t] := ⟨_, rfl⟩
  have hsy : signs al [t] = [y] := by unfold signs; simp [htA, hy]
  rw [hsy]
  have hixt := fun W => index_str htA W
  rw [← hy] at hixt
  have HT := Lib.hid ht
  clear ht hy hsy
  obtain ⟨ao, c, rfl, -⟩ := hv
  obtain ⟨m, hm⟩ : ∃ m, m = u.length := ⟨_, rfl⟩
  rw [asI_len, ← hm] at HI HCO ⊢
  rw [← hm] at hl
  have HM := Lib.hid hm
  have hR := h.lt
  clear hm hu h
  go_enter Try.func48, Try.ntmps48
  go_wp2_with fail
  go_loopw [5, 10] (fun s5 s10 wr => ∃ (i : Nat) (so : Option Addr) (sc : Nat), i ≤ m ∧ s10 = .int .i64 i ∧ s5 = .slice so i sc ∧ Hid (wr.ownsRow w.heap.size 5 1 (.slice so i sc) i (encU (signs al (u.take i)))) ∧ Hid (Below w.heap.size w wr)) (fun _ s10 _ => m - (intOf s10).toNat)
  case atStart => exact ⟨0, none, 0, Nat.zero_le _, rfl, rfl, World.ownsRow_nil _ _ _ _, Below.refl _ _⟩
  case round =>
    obtain ⟨i, so, sc, hi, rfl, rfl, HO, HB⟩ := hrel
    by_cases q : i < m
    · have q1 : (i : Int) < m := by omega
      have hw : IntKind.i64.wrap ((i : Int) + 1) = ((i + 1 : Nat) : Int) := by rw [IntWalk.i64_in _ (by omega)]; omega
      have hiu : i < u.length := by rw [← HM.out]; exact q
      obtain ⟨B, o, rfl, d0⟩ := HI.out.at' (j := i) (by rw [asI_len]; exact hiu)
      rw [asI_at hiu] at d0
      have hst := signs_take (al := al) hiu (HU.out _ (List.getElem_mem _))
      obtain ⟨x, hx⟩ : ∃ x, x = u[i] := ⟨_, rfl⟩
      have hxA : x < al.size := by rw [hx]; exact HU.out _ (List.getElem_mem _)
      have hst2 : signs al (u.take (i + 1)) = signs al (u.take i) ++ [al[x]] := by rw [hst]; congr 2; simp [hx]
      rw [← hx] at d0
      have d1 := (HB.out.cell (p := ⟨B, o + i, none⟩) (World.block_lt_of_cell? _ _ d0)).trans d0
      have c0 := (HB.out.cell (p := ⟨R, 0, none⟩) hR).trans HS.out.c0
      have hix := fun W => index_str hxA W
      obtain ⟨y, hy⟩ : ∃ y, y = al[x] := ⟨_, rfl⟩
      rw [← hy] at hst2 hix
      have HST := Lib.hid hst2
      clear hst hst2 hx hy d0
      have hsz : w.heap.size ≤ wr.heap.size := HB.out.size
      have hsz2 : w.heap.size ≤ wr.heap.size + 1 := by omega
      have hne : ∀ so sc g, (Value.slice so i sc).ownBlock = some g → w.heap.size ≤ g → True := fun _ _ _ _ _ => trivial
      clear hne
      go_upto_region 6 with (at_builtin; refine wpList_append_own _ rfl _ _ 97 rfl w.heap.size 5 i0 (.int .u8 0) 1 1 Try.underlying97 hi0 hz0 hz1 hz2 rfl (by decide) (.slice so i sc) i (encU (signs al (u.take i))) rfl (HO.out.alloc _) ⟨wr.heap.size, 0, none⟩ 1 1 [.int .u8 (y.toNat : Int)] rfl rfl (cell_one_new _ _ _) (by simp [Value.oneCell']) (by unfold maxLen; omega) (by omega) (by simp; omega) ?_; intro v' w8 hown hgrow _; obtain ⟨so2, sc2, rfl⟩ := row_sl hown)
      have HO2 : Hid (w8.ownsRow w.heap.size 5 1 (.slice so2 (i + 1) sc2) (i + 1) (encU (signs al (u.take (i + 1))))) := by
        rw [HST.out]
        have : encU (signs al (u.take i) ++ [y]) = encU (signs al (u.take i)) ++ [.int .u8 (y.toNat : Int)] := by simp [encU]
        rw [this]
        exact hown
      have HB2 : Hid (Below w.heap.size w w8) := (HB.out.alloc hsz _).grown hgrow (Nat.le_trans hsz (by rw [World.size_alloc]; omega)) (fun j hj => (HO.out.lt j hj).1)
      clear hown hgrow
      go_wp2_with fail
      go_roundw
      case rel => exact ⟨i + 1, so2, sc2, q, by go_num, by rfl, HO2, HB2⟩
      case measure => simp [intOf]; omega
    · obtain rfl : i = m := by omega
      have q1 : ¬ (i : Int) < i := by omega
      have c2 := (HB.out.cell (p := ⟨R, 2, none⟩) hR).trans HS.out.c2
      have c0 := (HB.out.cell (p := ⟨R, 0, none⟩) hR).trans HS.out.c0
      have htk : u.take i = u := by rw [HM.out]; exact List.take_length
      have ho := HO.out
      rw [htk] at ho
      have HO1 := Lib.hid ho
      have hsl : (signs al u).length = i := by rw [HM.out]; simp [signs]
      have HSL := Lib.hid hsl
      have hsz : w.heap.size ≤ wr.heap.size := HB.out.size
      have hsz2 : w.heap.size ≤ wr.heap.size + 1 := by omega
      have HCO2 := Lib.hid (HCO.out wr.drew HB.out.drew)
      have c0d : wr.drew.cell? ⟨R, 0, none⟩ = some (.string al) := c0
      obtain ⟨xs, hxs⟩ : ∃ xs, xs = encU (signs al u) := ⟨_, rfl⟩
      have HXS := Lib.hid hxs
      rw [← hxs] at HO1
      have HO1d : Hid (wr.drew.ownsRow w.heap.size 5 1 (.slice so i sc) i xs) := HO1.out
      have HONE : Hid (∀ u ∈ [Value.int .u8 (y.toNat : Int)], u.oneCell' = true) := by intro u hu; simp at hu; subst hu; rfl
      have HML : Hid (i + 1 ≤ maxLen) := by show _ ≤ _; unfold maxLen; omega
      have HBY : Hid ((i + 1) * 1 ≤ 140737488355328) := by show _ ≤ _; omega
      have HBS : Hid (∀ o, w.heap.size ≤ (wr.drew.alloc o).heap.size) := fun o => Nat.le_trans hsz (by rw [World.size_alloc]; exact Nat.le_succ _)
      have HAL : Hid (∀ o, (wr.drew.alloc o).cell? ⟨R, 0, none⟩ = some (.string al)) := fun o => ((below_al wr.drew o).cell (p := ⟨R, 0, none⟩) (Nat.lt_of_lt_of_le hR hsz)).trans c0d
      have HNR : Hid (some R ≠ (Value.slice so i sc).ownBlock) := fun e => by have := (HO1d.out.lt _ e.symm).1; omega
      have HGB : Hid (∀ o w8, (wr.drew.alloc o).grownBy w8 (Value.slice so i sc).ownBlock → Below w.heap.size w w8) := fun o w8 hg => ((HB.out.drew).alloc hsz _).grown hg (HBS.out o) (fun j hj => (HO1d.out.lt j hj).1)
      clear ho htk hsl HCO hxs HO
      go_upto_region 8 with fail
      go_cut [5] from 23 (fun s5 wz => ∃ so2 sc2, s5 = .slice so2 (i + 1) sc2 ∧ Hid (wz.ownsRow w.heap.size 5 1 (.slice so2 (i + 1) sc2) (i + 1) (xs ++ [.int .u8 (y.toNat : Int)])) ∧ Hid (Below w.heap.size w wz))
      case first =>
        go_region_held3 (fun W : World => W.cell? ⟨R, 0, none⟩ = some (.string al)) (first | assumption | exact HAL.out _) (first
          | (go_at_call 67; (with_reducible refine HCO2.out.mono ?_); rintro e w' ⟨rfl, rfl⟩)
          | (refine step_app rfl (.tmp 28) (.tmp 37) 97 rfl w.heap.size 5 i0 (.int .u8 0) 1 1 Try.underlying97 hi0 hz0 hz1 hz2 rfl (by decide) (.slice so i sc) i xs (by rfl) (HO1d.out.alloc _) ⟨wr.heap.size, 0, none⟩ 1 1 [.int .u8 (y.toNat : Int)] rfl rfl (cell_one_new _ _ _) HONE.out HML.out HBY.out (HBS.out _) ?_; intro v' w8 hown hgrow _; obtain ⟨so2, sc2, rfl⟩ := row_sl hown; have HO2 := Lib.hid hown; have HB2 := Lib.hid (HGB.out _ _ hgrow); have hca4 : w8.cell? ⟨R, 0, none⟩ = some (.string al) := hgrow.cell (HAL.out _) (HNR.out); clear hown hgrow)
          | fail)
        all_goals go_wp2_with fail
        all_goals go_meet
        all_goals exact ⟨_, _, rfl, HO2, HB2⟩
      case rest =>
        obtain ⟨so2, sc2, rfl, HO2, HB2⟩ := hcut
        have hcv := str_of_row (l := signs al u ++ [y]) (by have h3 := HO2.out; rw [HXS.out] at h3; rw [show encU (signs al u ++ [y]) = encU (signs al u) ++ [.int .u8 (y.toNat : Int)] by simp [encU]]; exact h3) (by rw [List.length_append, HSL.out]; rfl)
        apply_assumption
        go_wp2_with fail
        go_ret
        exact ⟨rfl, HB2⟩
end Go.Proofs.Ytgblfobomiiofaa
namespace Go.Proofs.Ytgblfobomiiofaa
open Go Go.RowKit Go.Shelf Gw Go.Maps

theorem Try.infoSlS : (Try.prog.info? 67).map (fun i => (i.zero, i.size, i.bytes)) = some (some (.slice none 0 0), 1, 24) := by kernel_rfl
/-- a row of i rows of numbers, the first ones of a list -/
def RowS (base : Nat) (v : Value) (i : Nat) (bs : List (List Nat)) (vals : List Value) (w : World) : Prop :=
  w.ownsRow base 67 1 v i vals ∧ ∀ j (_ : j < i) (hb : j < bs.length), ∃ a, vals[j]? = some a ∧ IsIs w a (asI bs[j]) ∧ ∀ g, a.ownBlock = some g → v.ownBlock ≠ some g ∧ g < w.heap.size
theorem RowS.nil (base : Nat) (bs : List (List Nat)) (w : World) : RowS base (.slice none 0 0) 0 bs [] w := ⟨World.ownsRow_nil _ _ _ _, fun j h => by omega⟩
theorem RowS.below {base : Nat} {v : Value} {i : Nat} {bs : List (List Nat)} {vals : List Value} {w w' : World} (h : RowS base v i bs vals w) (hb : Below w.heap.size w w') : RowS base v i bs vals w' := by
  refine ⟨ownsRow_below h.1 hb, fun j hj hjb => ?_⟩
  obtain ⟨a, h1, h2, h3⟩ := h.2 j hj hjb
  exact ⟨a, h1, h2.below hb, fun g hg => ⟨(h3 g hg).1, Nat.lt_of_lt_of_le (h3 g hg).2 hb.size⟩⟩
theorem RowS.push {base : Nat} {v v' v2 : Value} {i sz : Nat} {bs : List (List Nat)} {vals : List Value} {w w' w8 : World} (h : RowS base v i bs vals w) (hi : i < bs.length) (hb : Below w.heap.size w w')
    (hr : w'.ownsRow w.heap.size 3 1 v2 sz (encI (asI bs[i]))) (hsz : sz = bs[i].length) {o : Obj}
    (hown : w8.ownsRow base 67 1 v' (i + 1) (vals ++ [v2])) (hg : (w'.alloc o).grownBy w8 v.ownBlock) (hat : v'.ownBlock = v.ownBlock ∨ v'.ownBlock = some (w'.alloc o).heap.size) : RowS base v' (i + 1) bs (vals ++ [v2]) w8 := by
  have hlen : vals.length = i := by have := h.1.1; omega
  have hsA : (w'.alloc o).heap.size = w'.heap.size + 1 := World.size_alloc _ _
  refine ⟨hown, fun j hj hjb => ?_⟩
  have fin : ∀ {a : Value} {l : List Int}, IsIs w' a l → (∀ g, a.ownBlock = some g → v.ownBlock ≠ some g ∧ g < w'.heap.size) → IsIs w8 a l ∧ ∀ g, a.ownBlock = some g → v'.ownBlock ≠ some g ∧ g < w8.heap.size := by
    intro a l hl hne
    refine ⟨(hl.below (below_al w' o)).kept2 hg (fun g hg e => (hne g hg).1 e.symm), fun g hga => ⟨fun e => ?_, Nat.lt_of_lt_of_le (Nat.lt_of_lt_of_le (hne g hga).2 (by rw [World.size_alloc]; exact Nat.le_succ _)) hg.size⟩⟩
    rcases hat with c | c
    · exact (hne g hga).1 (c.symm.trans e)
    · have e2 := c.symm.trans e
      injection e2 with e2
      have := (hne g hga).2
      omega
  by_cases q : j < i
  · obtain ⟨a, h1, h2, h3⟩ := (h.below hb).2 j q hjb
    obtain ⟨f1, f2⟩ := fin h2 h3
    exact ⟨a, by rw [List.getElem?_append_left (by omega)]; exact h1, f1, f2⟩
  · obtain rfl : j = i := by omega
    have hsz2 : sz = (asI bs[j]).length := by rw [asI_len]; exact hsz
    subst hsz2
    obtain ⟨f1, f2⟩ := fin (IsIs.of_row hr) (fun g hga => by
      have := hr.lt g hga
      refine ⟨fun e => ?_, this.2⟩
      have := h.1.lt g e
      omega)
    exact ⟨v2, by rw [List.getElem?_append_right (by omega), hlen]; simp, f1, f2⟩
theorem RowS.sls {base : Nat} {v : Value} {bs : List (List Nat)} {vals : List Value} {w : World} (h : RowS base v bs.length bs vals w) : IsSls w v bs := by
  obtain ⟨h1, h2⟩ := h
  have hcs := fun g hg => h1.cells (g := g) hg
  rcases h1.2 with ⟨rfl, h0⟩ | ⟨g, cap, cur, rfl, _⟩
  · exact ⟨none, 0, by rw [h0], fun i hi => by omega⟩
  · refine ⟨some ⟨g, 0, none⟩, cap, rfl, fun i hi => ?_⟩
    obtain ⟨a, e1, e2, _⟩ := h2 i hi hi
    have c0 := hcs g rfl _ _ e1
    rw [show (⟨g, 0, none⟩ : Addr).add i = ⟨g, 0 + i, none⟩ from Addr.add_lit ..] at c0
    exact ⟨g, 0, a, rfl, c0, e2⟩
/-- the parts of a scheme -/
def nS (s : Sch) : Nat := s.len.toNat
def bansS (s : Sch) : List (List Nat) := s.bl.map (wordN s.al)
def fS (s : Sch) : Nat → Nat → Option Nat := autoA s.al.size (bansS s) (treeL (bansS s))
def freeS (s : Sch) : List (Option Nat) := List.replicate (szN (nS s) s.ck) none
/-- how many serials a scheme has -/
def totS (s : Sch) : Nat := cntK (fS s) s.al.size (nS s) none (freeS s) (nS s) 0 s.al.size
/-- where the parts of a series lie -/
structure SI where
  R : Nat
  mb : Nat
  bL : Nat
  bR : Nat
  bK : Nat
  bM : Nat
  bC : Nat
  km : Nat
  mv : Value
/-- a series in memory, whole -/
structure SerF (x : SI) (s : Sch) (W : World) : Prop where
  ct : CtI x.R x.mb s.al (nS s) s.ck (fS s) x.bL x.bR x.bK x.bM x.bC x.km none x.mv (freeS s) W
  c4 : W.cell? ⟨x.R, 4, none⟩ = some (cntV x.bL x.bR x.bK x.bM x.bC)
theorem SerF.below {x : SI} {s : Sch} {W W' : World} (h : SerF x s W) (hb : Below W.heap.size W W') : SerF x s W' :=
  ⟨h.ct.below hb, (hb.cell (p := ⟨x.R, 4, none⟩) h.ct.se.se.lt).trans h.c4⟩
theorem free_asM (s : Sch) : asM (freeS s) = List.replicate (szN (nS s) s.ck) (-1) := by unfold asM freeS; rw [List.map_replicate]; rfl
theorem free_len (s : Sch) : (freeS s).length = szN (nS s) s.ck := by unfold freeS; simp
theorem le_szN (n : Nat) (ck : Bool) : n ≤ szN n ck := by unfold szN; split <;> omega
/-- the automaton's states -/
theorem fS_lt {s : Sch} (h : WellF s) : ∀ i v j, fS s i v = some j → j < 200 := fun i v j hj => by
  unfold fS at hj
  rw [autoA_eq (treeL_nodes _)] at hj
  have hl : (treeL (bansS s)).length ≤ 190 := treeL_le (by unfold bansS; rw [List.length_map]; exact h.2.2.2.1.1) (fun b hb => by
    obtain ⟨t, ht, rfl⟩ := List.mem_map.1 hb
    obtain ⟨k, hk, rfl⟩ := List.mem_iff_getElem.1 ht
    rw [wordN_len]
    exact (h.2.2.2.1.2 k hk).2.1)
  split at hj
  · split at hj
    · cases hj
    · injection hj with hj
      have := fullE_lt (treeL_nodes (bansS s)).tree i v
      omega
  · cases hj
/-- a cell of the series that the counter doesn't read turns -/
theorem CtI.set4 {R mb : Nat} {al : ByteArray} {n : Nat} {ck : Bool} {f : Nat → Nat → Option Nat} {bL bR bK bM bC km : Nat} {last : Option Nat} {mv : Value} {ml : List (Option Nat)} {W : World}
    (h : CtI R mb al n ck f bL bR bK bM bC km last mv ml W) (hm : mb ≠ R) (hL : bL ≠ R) (hr : bR ≠ R) (hK : bK ≠ R) (hM : bM ≠ R) (hC : bC ≠ R) (hv : ∀ j, mv.ownBlock = some j → j ≠ R) (z : Value) :
    CtI R mb al n ck f bL bR bK bM bC km last mv ml (W.setCell ⟨R, 4, none⟩ z) := by
  have hg := grownBy_setCell W R 4 z
  have ne : ∀ {x : Nat}, x ≠ R → some x ≠ some R := fun h e => h (Option.some.inj e)
  have ot : ∀ (k : Nat) (v : Value), k ≠ 4 → W.cell? ⟨R, k, none⟩ = some v → (W.setCell ⟨R, 4, none⟩ z).cell? ⟨R, k, none⟩ = some v := fun k v hk e => (World.cell?_setCell_other W ⟨R, 4, none⟩ ⟨R, k, none⟩ z (by intro e; injection e with _ e; exact hk e.symm)).trans e
  obtain ⟨g, h1, h2⟩ := h.mp
  have hkR : km ≠ R := fun e => h.nK.1 e.symm
  exact ⟨⟨⟨ot 0 _ (by decide) h.se.se.c0, ot 1 _ (by decide) h.se.se.c1, ot 2 _ (by decide) h.se.se.c2⟩, ot 3 _ (by decide) h.se.c3, h.se.mp.kept hg (ne hm)⟩,
    hg.cell h.cL (ne hL), hg.cell h.cR (ne hr), hg.cell h.cK (ne hK), hg.cell h.cM (ne hM), hg.cell h.cC (ne hC), h.ms.kept2 hg (fun j hj => ne (hv j hj)), ⟨g, h1.kept hg (ne hkR), h2⟩, h.nK⟩
end Go.Proofs.Ytgblfobomiiofaa
namespace Go.Proofs.Ytgblfobomiiofaa
open Go Go.RowKit Go.Shelf Gw Go.Maps

/-- the counter of the mask that all serials match -/
theorem counter_free {R mb : Nat} {al : ByteArray} {n : Nat} {ck : Bool} {f : Nat → Nat → Option Nat} {mv : Value} {W : World} (h : SerA R mb al n ck f W) (hm : IsIs W mv (List.replicate (szN n ck) (-1))) (hv : ∀ j, mv.ownBlock = some j → j < W.heap.size) :
    Calls Try.prog 66 #[.pointer (some ⟨R, 0, none⟩), mv] W fun e W' => ∃ b, b = W.heap.size ∧ e = .returned (cntV (b + 1 + 1 + 1 + 1) b (b + 1 + 1 + 1) (b + 1) (b + 1 + 1 + 1 + 1 + 1)) ∧ Hid (CtI R mb al n ck f (b + 1 + 1 + 1 + 1) b (b + 1 + 1 + 1) (b + 1) (b + 1 + 1 + 1 + 1 + 1) (b + 1 + 1) none mv (List.replicate (szN n ck) none) W') ∧ Hid (Below W.heap.size W W') := by
  have hm2 : IsIs W mv (asM (List.replicate (szN n ck) none)) := by unfold asM; rw [List.map_replicate]; exact hm
  cases ck with
  | false => exact counter_no h hm2 hv
  | true =>
    have hl : n < (List.replicate (szN n true) (none : Option Nat)).length := by unfold szN; simp
    have h3 := counter_yes h hl hm2 hv
    rw [List.getElem_replicate] at h3
    exact h3
theorem SerA.of_set {R mb : Nat} {al : ByteArray} {n : Nat} {ck : Bool} {f : Nat → Nat → Option Nat} {z : Value} {W : World} (h : Ser R al n ck W) (h3 : W.cell? ⟨R, 3, none⟩ = some z) (hm : MapF KA mb (fun a => f a.1 a.2) W) (hne : mb ≠ R) :
    SerA R mb al n ck f (W.setCell ⟨R, 3, none⟩ (.map (some mb))) := by
  have ot : ∀ (k : Nat) (v : Value), k ≠ 3 → W.cell? ⟨R, k, none⟩ = some v → (W.setCell ⟨R, 3, none⟩ (.map (some mb))).cell? ⟨R, k, none⟩ = some v := fun k v hk e => (World.cell?_setCell_other W ⟨R, 3, none⟩ ⟨R, k, none⟩ _ (by intro e; injection e with _ e; exact hk e.symm)).trans e
  exact ⟨⟨ot 0 _ (by decide) h.c0, ot 1 _ (by decide) h.c1, ot 2 _ (by decide) h.c2⟩, World.cell?_setCell_same _ _ _ h3, hm.of_block (Below.heap_setCell _ _ _ _ hne)⟩
theorem bans_ok {al : ByteArray} {bl : List ByteArray} (h : GoodB bl al) : ∀ b ∈ bl.map (wordN al), b.length ≤ 8 ∧ ∀ x ∈ b, x < al.size := fun b hb => by
  obtain ⟨t, ht, rfl⟩ := List.mem_map.1 hb
  obtain ⟨k, hk, rfl⟩ := List.mem_iff_getElem.1 ht
  have h3 := h.2 k hk
  exact ⟨by rw [wordN_len]; exact h3.2.1, wordN_lt h3.2.2⟩
set_option maxHeartbeats 1000000 in
/-- the mask that all serials match, and where it lies -/
theorem anything_at {R n : Nat} {al : ByteArray} {ck : Bool} {w : World} (h : Ser R al n ck w) (h1 : 1 ≤ n) (h2 : n ≤ 16) :
    Calls Try.prog 50 #[.pointer (some ⟨R, 0, none⟩)] w fun e w' => ∃ g, w.heap.size ≤ g ∧ e = .returned (.slice (some ⟨g, 0, none⟩) (szN n ck) (szN n ck)) ∧ Hid (IsIs w' (.slice (some ⟨g, 0, none⟩) (szN n ck) (szN n ck)) (List.replicate (szN n ck) (-1))) ∧ Hid (Below w.heap.size w w') := by
  obtain ⟨w1, HW1⟩ : ∃ w1, w1 = w.alloc (.cells #[.int .i64 (-1)] 3) := ⟨_, rfl⟩
  have hb1 : Below w.heap.size w w1 := by rw [HW1]; exact below_al _ _
  have c0 : w1.cell? ⟨w.heap.size, 0, none⟩ = some (.int .i64 (-1)) := by rw [HW1]; exact World.cell?_alloc_at _ _ _ _ rfl
  have hs1 : 1 ≤ szN n ck := by unfold szN; split <;> omega
  have hs2 : szN n ck ≤ 17 := by unfold szN; split <;> omega
  have HS := Lib.hid (size_any (h.below hb1) h2)
  have HR := Lib.hid (Repeat_any (c := 1) hs1 (by omega) c0)
  have HB := Lib.hid hb1; have HW := Lib.hid HW1
  generalize szN n ck = m at *
  clear hb1 c0 HW1 h
  go_enter Try.func50, Try.ntmps50
  go_wp2_with fail
  rw [← HW.out]
  refine HS.out.mono ?_
  rintro e w' ⟨rfl, rfl⟩
  go_wp2_with fail
  refine HR.out.mono ?_
  rintro e w2 ⟨rfl, hg, hb⟩
  have HG := Lib.hid hg.out; have HB2 := Lib.hid (below_tr HB.out hb.out)
  clear hg hb
  go_wp2_with fail
  go_ret
  exact ⟨w1.heap.size, HB.out.size, rfl, rep_is HG.out, HB2⟩
theorem IsIs.blk {W : World} {g o m c : Nat} {l : List Int} (h : IsIs W (.slice (some ⟨g, o, none⟩) m c) l) (hl : 0 < l.length) : g < W.heap.size := by
  obtain ⟨ao, c', e1, e2⟩ := h
  obtain ⟨B, o', e3, e4, _⟩ := e2 hl
  injection e1 with e1 _ _
  rw [e3] at e1
  injection e1 with e1
  injection e1 with e1 _ _
  omega
/-- what newSeries answers -/
def NewP (s : Sch) (W : World) (e : Ending) (W' : World) : Prop :=
  Below W.heap.size W W' ∧
  ((¬ WellF s ∧ e = .returned (.tuple #[.pointer none, .int .i64 20])) ∨
   (WellF s ∧ ¬ (1 ≤ totS s ∧ totS s ≤ 1099511627776) ∧ e = .returned (.tuple #[.pointer none, .int .i64 3])) ∨
   (WellF s ∧ 1 ≤ totS s ∧ totS s ≤ 1099511627776 ∧ ∃ x : SI, e = .returned (.tuple #[.pointer (some ⟨x.R, 0, none⟩), .int .i64 0]) ∧ SerF x s W' ∧ W.heap.size ≤ x.km))
set_option maxRecDepth 100000 in
set_option maxHeartbeats 4000000 in
theorem newSeries_any {s : Sch} {bv : Value} {w : World} (hv : IsSs w bv s.bl) :
    Calls Try.prog 46 #[schV s bv] w (NewP s w) := by
  obtain ⟨i0, hi0, hz0, hz1, hz2⟩ := info_parts Try.infoSlS
  have HWF := Lib.hid (fun W (hW : Below w.heap.size w W) => isWellFormed_any (s := s) (hv.below hW))
  have HV := Lib.hid hv
  obtain ⟨bo, bc, rfl, -⟩ := hv
  obtain ⟨m, hm⟩ : ∃ m, m = s.bl.length := ⟨_, rfl⟩
  rw [← hm] at HWF HV ⊢
  have HM := Lib.hid hm
  clear hm
  obtain ⟨w1, hw1⟩ : ∃ w1, w1 = w.alloc (.cells #[.string s.al, .int .i64 s.len, .slice bo m bc, .bool s.ck] 24) := ⟨_, rfl⟩
  have hb1 : Below w.heap.size w w1 := by rw [hw1]; exact below_al _ _
  have H41 : Hid (B4 w.heap.size (.string s.al) (.int .i64 s.len) (.slice bo m bc) (.bool s.ck) w1) := by rw [hw1]; exact B4.new _ _ _ _ _ _
  have HWF1 := Lib.hid (HWF.out w1 hb1)
  have HB1 := Lib.hid hb1
  have HW1 := Lib.hid hw1
  clear hw1 hb1
  obtain ⟨al, len, bl, ck⟩ := s
  unfold schV at HWF1 ⊢
  dsimp only at *
  have k0 := H41.out.c0; have k1 := H41.out.c1; have k2 := H41.out.c2; have k3 := H41.out.c3
  have HS0 := Lib.hid HV
  go_enter Try.func46, Try.ntmps46
  go_upto_region 1 with fail
  rw [← HW1.out]
  go_cut [11] from 9 to 11 (fun s11 wz => ∃ r : Bool, s11 = .bool r ∧ Hid (IffB (!r) (WellF ⟨al, len, bl, ck⟩)) ∧ Hid (Below w1.heap.size w1 wz))
  case first =>
    go_wp2_with (first
      | (go_at_call 63; (with_reducible refine HWF1.out.mono ?_); rintro e w2 ⟨r, rfl, hr, hb2⟩)
      | fail)
    go_meet
    case rel => exact ⟨!r, rfl, by rw [Bool.not_not]; exact hr, hb2⟩
  case rest =>
    obtain ⟨r, rfl, HR, HB2⟩ := hcut
    have HB2w := Lib.hid (HB1.out.trans (HB2.out.mono HB1.out.size))
    have k0 := (HB2.out.cell (p := ⟨w.heap.size, 0, none⟩) H41.out.lt).trans H41.out.c0
    have k1 := (HB2.out.cell (p := ⟨w.heap.size, 1, none⟩) H41.out.lt).trans H41.out.c1
    have k2 := (HB2.out.cell (p := ⟨w.heap.size, 2, none⟩) H41.out.lt).trans H41.out.c2
    have k3 := (HB2.out.cell (p := ⟨w.heap.size, 3, none⟩) H41.out.lt).trans H41.out.c3
    have hXl : w.heap.size < wc.heap.size := Nat.lt_of_lt_of_le H41.out.lt HB2.out.size
    apply_assumption
    cases r with
    | true =>
      have hn : ¬ WellF ⟨al, len, bl, ck⟩ := fun h => by have := HR.out.2 h; cases this
      have HN := Lib.hid hn
      clear hn
      go_wp2_with fail
      refine bodyPost_ret (v := .tuple #[.pointer none, .int .i64 20]) (by simp [results, Try.results46, go_sem]) rfl ?_
      exact ⟨HB2w.out, .inl ⟨HN.out, rfl⟩⟩
    | false =>
      have HW : Hid (WellF ⟨al, len, bl, ck⟩) := HR.out.1 rfl
      clear HR
      obtain ⟨n, hn⟩ : ∃ n : Nat, len = n := ⟨len.toNat, by have := HW.out.2.1; dsimp only at this; omega⟩
      subst hn
      have hn1 : 1 ≤ n := by have := HW.out.2.1; dsimp only at this; omega
      have hn16 : n ≤ 16 := by have := HW.out.2.2.1; dsimp only at this; omega
      have hA1 : 2 ≤ al.size := HW.out.1.1
      have hA2 : al.size ≤ 36 := HW.out.1.2.1
      go_upto_region 4 with fail
      obtain ⟨R, hR⟩ : ∃ R, R = wc.heap.size := ⟨_, rfl⟩
      obtain ⟨w3, hw3⟩ : ∃ w3, w3 = wc.alloc (.cells #[.string al, .int .i64 (n : Int), .bool ck, .map none, .nilFunc] 80) := ⟨_, rfl⟩
      have hb3 : Below wc.heap.size wc w3 := by rw [hw3]; exact below_al _ _
      have HS3 : Hid (Ser R al n ck w3) := by rw [hR, hw3]; exact ⟨World.cell?_alloc_at _ _ _ _ rfl, World.cell?_alloc_at _ _ _ _ rfl, World.cell?_alloc_at _ _ _ _ rfl⟩
      have HC3 : Hid (w3.cell? ⟨R, 3, none⟩ = some (.map none)) := by rw [hR, hw3]; exact World.cell?_alloc_at _ _ _ _ rfl
      have HC4 : Hid (w3.cell? ⟨R, 4, none⟩ = some .nilFunc) := by rw [hR, hw3]; exact World.cell?_alloc_at _ _ _ _ rfl
      have HF3 : Hid (∀ j, w3.frozen? ⟨R, j, none⟩ = false) := fun j => by unfold World.frozen?; dsimp only; rw [hR, hw3, World.alloc_heap_new]; simp
      have HB3 := Lib.hid (HB2w.out.trans (hb3.mono HB2w.out.size))
      have hRl : R < w3.heap.size := HS3.out.lt
      have hXR : w.heap.size < R := by rw [hR]; exact hXl
      have j2 := (hb3.cell (p := ⟨w.heap.size, 2, none⟩) hXl).trans k2
      rw [← hw3, ← hR]
      clear hw3 hb3 k0 k1 k2 k3 hR hXl HWF HWF1
      obtain ⟨X, hX⟩ : ∃ X, X = w.heap.size := ⟨_, rfl⟩
      rw [← hX] at j2 hXR ⊢
      have HX := Lib.hid hX
      clear hX
      have HMk : Hid (m ≤ 16) := by show m ≤ 16; rw [HM.out]; exact HW.out.2.2.2.1.1
      go_wp2_with fail
      go_loopw [5, 23] (fun s5 s23 wr => ∃ (i : Nat) (so : Option Addr) (sc : Nat) (vals : List Value), i ≤ m ∧ s23 = .int .i64 i ∧ s5 = .slice so i sc ∧ Hid (RowS w3.heap.size (.slice so i sc) i (bl.map (wordN al)) vals wr) ∧ Hid (Below w3.heap.size w3 wr)) (fun _ s23 _ => m - (intOf s23).toNat)
      case atStart => exact ⟨0, none, 0, [], Nat.zero_le _, rfl, rfl, RowS.nil _ _ _, Below.refl _ _⟩
      case round =>
        obtain ⟨i, so, sc, vals, hi, rfl, rfl, HO, HB⟩ := hrel
        have HBw := Lib.hid (HB3.out.trans (HB.out.mono HB3.out.size))
        by_cases q : i < m
        · have q1 : (i : Int) < m := by omega
          have hw : IntKind.i64.wrap ((i : Int) + 1) = ((i + 1 : Nat) : Int) := by rw [IntWalk.i64_in _ (by have := HMk.out; omega)]; omega
          have hib : i < bl.length := by rw [← HM.out]; exact q
          obtain ⟨B, o, rfl, d0⟩ := HV.out.at' hib
          obtain ⟨b, hb⟩ : ∃ b, b = bl[i] := ⟨_, rfl⟩
          rw [← hb] at d0
          have d1 := (HBw.out.cell (p := ⟨B, o + i, none⟩) (World.block_lt_of_cell? _ _ d0)).trans d0
          have hbk := HW.out.2.2.2.1.2 i hib
          dsimp only at hbk
          rw [← hb] at hbk
          have hib2 : i < (bl.map (wordN al)).length := by rw [List.length_map]; exact hib
          have hwi : (bl.map (wordN al))[i] = wordN al b := by rw [List.getElem_map, hb]
          have HWI := Lib.hid hwi
          have HBK := Lib.hid hbk
          have HVA := Lib.hid (values_any (HS3.out.below HB.out) (hbk.2.2.ascii HW.out.1.ascii) (Nat.le_trans hbk.2.1 (by decide)))
          clear hb hbk hwi d0
          have hsz : w3.heap.size ≤ wr.heap.size := HB.out.size
          go_wp2_with (first
            | (go_at_call 64; (with_reducible refine HVA.out.mono ?_); rintro e w4 ⟨v2, rfl, HR4, HB4⟩; obtain ⟨a2, c2, rfl⟩ := row_sl HR4.out; have HO4 := Lib.hid (HO.out.below HB4.out); have hsz4 : w3.heap.size ≤ w4.heap.size := Nat.le_trans hsz HB4.out.size; have hsz5 : w3.heap.size ≤ w4.heap.size + 1 := Nat.le_succ_of_le hsz4)
            | (at_builtin; refine wpList_append_own_at _ rfl _ _ 28 rfl w3.heap.size 67 i0 (.slice none 0 0) 1 24 Try.underlying28 hi0 hz0 hz1 hz2 rfl (by decide) (.slice so i sc) i vals rfl (HO4.out.1.alloc _) ⟨w4.heap.size, 0, none⟩ 1 1 [.slice a2 b.size c2] rfl rfl (cell_one_new _ _ _) (by simp [Value.oneCell']) (by have := HMk.out; unfold maxLen; omega) (by have := HMk.out; omega) (by rw [World.size_alloc]; exact hsz5) ?_; intro v' w8 hown hgrow _ hat; obtain ⟨so2, sc2, rfl⟩ := row_sl hown)
            | fail)
          have HO8 : Hid (RowS w3.heap.size (.slice so2 (i + 1) sc2) (i + 1) (bl.map (wordN al)) (vals ++ [.slice a2 b.size c2]) w8) :=
            HO.out.push hib2 HB4.out (by rw [HWI.out, ← valsI_word HBK.out.2.2]; exact HR4.out) (by rw [HWI.out, wordN_len]) hown hgrow hat
          have HB8 : Hid (Below w3.heap.size w3 w8) := ((HB.out.trans (HB4.out.mono hsz)).alloc hsz4 _).grown hgrow (by rw [World.size_alloc]; exact hsz5) (fun j hj => (HO4.out.1.lt j hj).1)
          clear hown hgrow hat
          go_wp2_with fail
          go_roundw
          case rel => exact ⟨i + 1, so2, sc2, _, q, by go_num, by rfl, HO8, HB8⟩
          case measure => simp [intOf]; omega
        · obtain rfl : i = m := by omega
          have q1 : ¬ (i : Int) < i := by omega
          have HSL : Hid (IsSls wr (.slice so i sc) (bl.map (wordN al))) := by
            have h3 := HO.out
            rw [show i = (bl.map (wordN al)).length by rw [List.length_map]; exact HM.out] at h3 ⊢
            exact h3.sls
          have hsz : w3.heap.size ≤ wr.heap.size := HB.out.size
          have hAU := newAutomaton_any (A := al.size) hA2 (by rw [List.length_map, ← HM.out]; exact HMk.out) (bans_ok HW.out.2.2.2.1) HSL.out
          have HAU := Lib.hid hAU
          obtain ⟨A, hA⟩ : ∃ A, A = al.size := ⟨_, rfl⟩
          have HAe := Lib.hid hA
          have hls : ∀ (t ty : TypeId), Try.prog.underlying t = some .string → ∀ W, (Builtin.len_ #[t] ty #[.string al]).run Try.prog W = .ok (.int .i64 (A : Int)) W := fun t ty ht W => by rw [run_len_string _ _ _ _ ht, hA]; rfl
          rw [← hA] at HAU hA1 hA2
          have r0 := (HS3.out.below HB.out).c0
          have c3r := (HB.out.cell (p := ⟨R, 3, none⟩) hRl).trans HC3.out
          have c4r := (HB.out.cell (p := ⟨R, 4, none⟩) hRl).trans HC4.out
          have f3r := (HB.out.frozen (p := ⟨R, 3, none⟩) hRl).trans (HF3.out 3)
          have f4r := (HB.out.frozen (p := ⟨R, 4, none⟩) hRl).trans (HF3.out 4)
          have hRr : R < wr.heap.size := Nat.lt_of_lt_of_le hRl hsz
          clear hAU hA
          go_upto_region 11 with (first
            | (go_at_call 65; (with_reducible refine HAU.out.mono ?_); rintro e w5 ⟨mb, rfl, hmb, HM5, HB5⟩; have c35 := (HB5.out.cell (p := ⟨R, 3, none⟩) hRr).trans c3r; have f35 := (HB5.out.frozen (p := ⟨R, 3, none⟩) hRr).trans f3r; have c45 := (HB5.out.cell (p := ⟨R, 4, none⟩) hRr).trans c4r; have f45 := (HB5.out.frozen (p := ⟨R, 4, none⟩) hRr).trans f4r)
            | fail)
          have hmR : mb ≠ R := by omega
          obtain ⟨sc', hsc⟩ : ∃ sc' : Sch, sc' = ⟨al, (n : Int), bl, ck⟩ := ⟨_, rfl⟩
          have hRw : w.heap.size ≤ R := by rw [← HX.out]; omega
          obtain ⟨w6, hw6⟩ : ∃ w6, w6 = w5.setCell ⟨R, 3, none⟩ (.map (some mb)) := ⟨_, rfl⟩
          have HA6 : Hid (SerA R mb al n ck (fS sc') w6) := by rw [hw6]; exact SerA.of_set ((HS3.out.below HB.out).below HB5.out) c35 (by have h3 := HM5.out; rw [HAe.out] at h3; rw [hsc]; exact h3) hmR
          have HB6 : Hid (Below w.heap.size w w6) := by rw [hw6]; exact (HBw.out.trans (HB5.out.mono HBw.out.size)).setCell hRw _
          have c46 : w6.cell? ⟨R, 4, none⟩ = some .nilFunc := by rw [hw6]; exact (World.cell?_setCell_other w5 ⟨R, 3, none⟩ ⟨R, 4, none⟩ _ (by intro e; injection e with _ e; exact absurd e (by decide))).trans c45
          have f46 : w6.frozen? ⟨R, 4, none⟩ = false := by rw [hw6, World.frozen?_setCell]; exact f45
          have HAN := Lib.hid (anything_at HA6.out.se hn1 hn16)
          have hz1' : 1 ≤ szN n ck := Nat.le_trans hn1 (le_szN n ck)
          have hR6 : R < w6.heap.size := HA6.out.se.lt
          have HSC := Lib.hid hsc
          rw [← hw6]
          clear hw6 hsc c35 f35 c45 f45 c3r c4r f3r f4r r0
          obtain ⟨z, hz⟩ : ∃ z, z = szN n ck := ⟨_, rfl⟩
          have HZ := Lib.hid hz
          rw [← hz] at HAN hz1'
          have HREP : Hid (0 < (List.replicate z (-1 : Int)).length) := by show _ < _; rw [List.length_replicate]; exact hz1'
          have HZZ : Hid (∀ W v, IsIs W v (List.replicate z (-1)) → IsIs W v (List.replicate (szN n ck) (-1))) := fun W v h => by rw [← hz]; exact h
          clear hz
          go_upto_region 12 with (first
            | (go_at_call 50; go_must (with_reducible refine HAN.out.mono ?_); rintro e w7 ⟨g, hg, rfl, HI7, HB7⟩; have hgl := HI7.out.blk HREP.out; go_must (have HCN := Lib.hid (counter_free (HA6.out.below HB7.out) (HZZ.out _ _ HI7.out) (fun j hj => by have hj2 : some g = some j := hj; injection hj2 with hj2; omega))); go_must (rw [← HZ.out] at HCN); have hs67 : w6.heap.size ≤ w7.heap.size := HB7.out.size)
            | (go_at_call 66; (with_reducible refine HCN.out.mono ?_); rintro e w8 ⟨b, hb, rfl, HC8, HB8⟩; have HBE := Lib.hid hb; clear hb; unfold cntV; have hB78 := HB7.out.trans (HB8.out.mono HB7.out.size); have c48 := (hB78.cell (p := ⟨R, 4, none⟩) hR6).trans c46; have f48 := (hB78.frozen (p := ⟨R, 4, none⟩) hR6).trans f46; have HB68 := Lib.hid hB78; clear hB78)
            | fail)
          obtain ⟨x, hx⟩ : ∃ x : SI, x = ⟨R, mb, b + 1 + 1 + 1 + 1, b, b + 1 + 1 + 1, b + 1, b + 1 + 1 + 1 + 1 + 1, b + 1 + 1, .slice (some ⟨g, 0, none⟩) z z⟩ := ⟨_, rfl⟩
          have HF9 : Hid (SerF x sc' (w8.setCell ⟨R, 4, none⟩ (cntV (b + 1 + 1 + 1 + 1) b (b + 1 + 1 + 1) (b + 1) (b + 1 + 1 + 1 + 1 + 1)))) := by
            rw [hx, HSC.out]
            have h3 := HC8.out
            rw [HSC.out] at h3
            have hb := HBE.out
            have hbR : R < b := by rw [hb]; exact Nat.lt_of_lt_of_le hR6 hs67
            refine ⟨?_, World.cell?_setCell_same _ _ _ c48⟩
            unfold freeS nS
            dsimp only
            rw [Int.toNat_natCast, ← HZ.out]
            exact h3.set4 hmR (by omega) (by omega) (by omega) (by omega) (by omega) (fun j hj => by have hj2 : some g = some j := hj; injection hj2 with hj2; omega) _
          have HB9 : Hid (Below w.heap.size w (w8.setCell ⟨R, 4, none⟩ (cntV (b + 1 + 1 + 1 + 1) b (b + 1 + 1 + 1) (b + 1) (b + 1 + 1 + 1 + 1 + 1)))) := (HB6.out.trans (HB68.out.mono HB6.out.size)).setCell hRw _
          have hxR : x.R = R := by rw [hx]
          have hxk : w.heap.size ≤ x.km := by rw [hx]; show _ ≤ b + 1 + 1; have := HB6.out.size; have := HBE.out; omega
          have HXR := Lib.hid hxR
          have HXK := Lib.hid hxk
          unfold cntV at HF9 HB9
          clear hx hxR hxk c48 f48 c46 f46
          generalize World.setCell w8 _ _ = w9 at *
          obtain ⟨t, ht⟩ : ∃ t, t = totS sc' := ⟨_, rfl⟩
          have hTT : Calls Try.prog 47 #[.pointer (some ⟨R, 0, none⟩)] w9 fun e W' => e = .returned (.int .i64 (min t tooM : Nat)) ∧ Hid (SerF x sc' W') ∧ Hid (w9.grownBy W' (some x.km)) := by
            rw [ht, ← HXR.out]
            have hW' : WellF sc' := by rw [HSC.out]; exact HW.out
            have e1 : nS sc' = n := by rw [HSC.out]; rfl
            refine (total_any hW'.1.1 hW'.1.2.1 (by rw [e1]; exact hn16) (by rw [free_len]; exact le_szN _ _) (fS_lt hW') HF9.out.ct HF9.out.c4).mono ?_
            rintro e W' ⟨rfl, h5, h6⟩
            exact ⟨rfl, ⟨h5.out, h6.out.cell HF9.out.c4 (fun e => h5.out.nK.1 (Option.some.inj e))⟩, h6⟩
          have HTT := Lib.hid hTT
          have HT := Lib.hid ht
          obtain ⟨r, hr⟩ : ∃ r, r = min t tooM := ⟨_, rfl⟩
          rw [← hr] at HTT
          have HRR := Lib.hid hr
          clear hTT ht hr
          by_cases p1 : r < 1
          · have p2 : (r : Int) < 1 := by omega
            have HN : Hid (¬ (1 ≤ totS ⟨al, (n : Int), bl, ck⟩ ∧ totS ⟨al, (n : Int), bl, ck⟩ ≤ 1099511627776)) := by
              rw [← HSC.out, ← HT.out]
              have := HRR.out
              unfold tooM at this
              intro h; omega
            go_wp2_with (first
              | (go_at_call 47; (with_reducible refine HTT.out.mono ?_); rintro e w10 ⟨rfl, HF10, HG10⟩)
              | fail)
            refine bodyPost_ret (v := .tuple #[.pointer none, .int .i64 3]) (by simp [results, Try.results46, go_sem]) rfl ?_
            exact ⟨HB9.out.grown HG10.out HB9.out.size (fun j hj => by injection hj with hj; rw [← hj]; exact HXK.out), .inr (.inl ⟨HW.out, HN.out, rfl⟩)⟩
          · have p2 : ¬ (r : Int) < 1 := by omega
            by_cases p3 : r > 1099511627776
            · have p4 : (r : Int) > 1099511627776 := by omega
              have HN : Hid (¬ (1 ≤ totS ⟨al, (n : Int), bl, ck⟩ ∧ totS ⟨al, (n : Int), bl, ck⟩ ≤ 1099511627776)) := by
                rw [← HSC.out, ← HT.out]
                have := HRR.out
                unfold tooM at this
                intro h; omega
              go_wp2_with (first
                | (go_at_call 47; (with_reducible refine HTT.out.mono ?_); rintro e w10 ⟨rfl, HF10, HG10⟩)
                | fail)
              refine bodyPost_ret (v := .tuple #[.pointer none, .int .i64 3]) (by simp [results, Try.results46, go_sem]) rfl ?_
              exact ⟨HB9.out.grown HG10.out HB9.out.size (fun j hj => by injection hj with hj; rw [← hj]; exact HXK.out), .inr (.inl ⟨HW.out, HN.out, rfl⟩)⟩
            · have p4 : ¬ (r : Int) > 1099511627776 := by omega
              have HN : Hid (1 ≤ totS ⟨al, (n : Int), bl, ck⟩ ∧ totS ⟨al, (n : Int), bl, ck⟩ ≤ 1099511627776) := by
                rw [← HSC.out, ← HT.out]
                have := HRR.out
                unfold tooM at this
                exact ⟨by omega, by omega⟩
              go_wp2_with (first
                | (go_at_call 47; (with_reducible refine HTT.out.mono ?_); rintro e w10 ⟨rfl, HF10, HG10⟩)
                | fail)
              refine bodyPost_ret (v := .tuple #[.pointer (some ⟨R, 0, none⟩), .int .i64 0]) (by simp [results, Try.results46, go_sem]) rfl ?_
              exact ⟨HB9.out.grown HG10.out HB9.out.size (fun j hj => by injection hj with hj; rw [← hj]; exact HXK.out), .inr (.inr ⟨HW.out, HN.out.1, HN.out.2, x, by rw [HXR.out], by rw [← HSC.out]; exact HF10.out, HXK.out⟩)⟩
end Go.Proofs.Ytgblfobomiiofaa
