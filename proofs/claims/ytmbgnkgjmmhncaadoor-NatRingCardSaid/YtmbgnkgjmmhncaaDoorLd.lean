/- The contract of Mul; the law NatProducts: the walk. -/
import Derived.Test.YtmbgnkgjmmhncaaDoorKp
import Derived.Test.YtmbgnkgjmmhncaaDoorSe
namespace Go.Proofs.YtmbgnkgjmmhncaaDoor
open Go Go.RowKit Gu

set_option maxHeartbeats 400000 in
theorem NMul_any (v u : Value) (a b : Nat) (w : World) (hv : D w v a) (hu : D w u b) (ha : nd 4294967296 a ≤ 500000) (hb : nd 4294967296 b ≤ 500000) :
    Calls Tryd.prog 20 #[.agg #[v], .agg #[u]] w fun e w' => ∃ r, e = .returned (.tuple #[.agg #[r], .int .i64 (fitE (a * b))]) ∧ D w' r (fitN (a * b)) ∧ Below w.heap.size w w' := by
  have hnd := nd_mul ha hb
  have b3 : ∀ o1 o2 o3, Below w.heap.size w (((w.alloc o1).alloc o2).alloc o3) := fun o1 o2 o3 => (((Below.refl _ _).alloc (Nat.le_refl _) _).alloc (by simp) _).alloc (by simp; omega) _
  have HS := Lib.hid (fun o1 o2 o3 => product_any v u a b (((w.alloc o1).alloc o2).alloc o3) (hv.below (b3 o1 o2 o3)) (hu.below (b3 o1 o2 o3)) (by omega) (by omega))
  have HB3 := Lib.hid b3
  obtain ⟨ao, ac, rfl, -⟩ := hv.shape
  obtain ⟨bo, bc, rfl, -⟩ := hu.shape
  clear hv hu b3
  go_enter Tryd.func20, Tryd.ntmps20
  go_wp2_with fail
  refine (HS.out _ _ _).mono ?_
  rintro e w1 ⟨r, rfl, hr, hbel⟩
  have HF := Lib.hid (fitting_any r (a * b) w1 hr (by omega))
  clear hr
  obtain ⟨hc, hf⟩ := bcell hbel
  have HB1 := Lib.hid hbel
  have hz := hbel.size
  simp only [World.size_alloc] at hz
  clear hbel
  go_wp2_with fail
  refine HF.out.mono ?_
  rintro e w2 ⟨r2, rfl, hr2, hbel2⟩
  obtain ⟨hc2, hf2⟩ := bcell hbel2
  obtain ⟨ro, rc, rfl, -⟩ := hr2.shape
  have HB2 := Lib.hid hbel2
  have HR2 := Lib.hid hr2
  have hz2 := hbel2.size
  clear hbel2 hr2
  have hcell : w2.cell? ⟨w.heap.size + 1 + 1, 0, none⟩ = some (.slice none 0 0) := by
    rw [hc2 _ _ (by omega), hc _ _ (by simp)]
    exact World.cell?_alloc_at _ _ _ _ (by simp)
  have hfr : w2.frozen? ⟨w.heap.size + 1 + 1, 0, none⟩ = false := by
    rw [hf2 _ _ (by omega), hf _ _ (by simp)]
    exact World.frozen?_alloc_at _ _ _ _ (by simp)
  have HCE := Lib.hid hcell
  clear hc hf hc2 hf2
  go_wp2
  refine bodyPost_ret (v := .tuple #[.agg #[.slice ro (nd 4294967296 (fitN (a * b))) rc], .int .i64 (fitE (a * b))]) (by simp [results, Tryd.results20, go_sem, hcell]) rfl ⟨_, rfl, HR2.out.setCell HCE.out (by intro d h; cases h) _, ?_⟩
  exact (((HB3.out _ _ _).trans (HB1.out.mono (by simp; omega))).trans (HB2.out.mono (by omega))).setCell (by show w.heap.size ≤ w.heap.size + 1 + 1; omega) _
theorem nd_rmul {a b m k : Nat} (ha : nd 65536 a ≤ m) (hb : nd 65536 b ≤ k) : nd 65536 (a * b) ≤ m + k := by
  have h1 := (nd_le (by decide : 2 ≤ 65536)).1 ha
  have h2 := (nd_le (by decide : 2 ≤ 65536)).1 hb
  apply (nd_le (by decide : 2 ≤ 65536)).2
  rw [Nat.pow_add]
  exact Nat.mul_lt_mul_of_lt_of_le h1 (Nat.le_of_lt h2) (Nat.pow_pos (by decide))
set_option maxHeartbeats 4000000 in
set_option maxRecDepth 100000 in
theorem natProducts_walk (u v : Value) (xs ys : List Nat) (w : World) (hu : IsRaw w u xs) (hv : IsRaw w v ys) (hl1 : xs.length ≤ maxLen) (hl2 : ys.length ≤ maxLen) (he : Env w) :
    Calls Tryd.prog 4 #[u, v] w fun e w' => e = .returned (.bool true) ∧ Below w.heap.size w w' := by
  have HR1 := Lib.hid (Raw_any u xs 600 w hu hl1 (by decide))
  have HR2 := Lib.hid (fun W (h : IsRaw W v ys) => Raw_any v ys 600 W h hl2 (by decide))
  have hna := rawN_nd hu.1 600
  have hnb := rawN_nd hv.1 600
  generalize rawN xs 600 = a at *
  generalize rawN ys 600 = b at *
  have HV := Lib.hid hv
  have HS0 := Lib.hid (Kp.start he)
  obtain ⟨uo, uc, rfl, -⟩ := hu.shape
  obtain ⟨vo, vc, rfl, -⟩ := hv.shape
  have ha32 := nd_32 hna
  have hb32 := nd_32 hnb
  have hp32 := nd_mul ha32 hb32
  have hp16 := nd_rmul hna hnb
  clear hu hv he hl1 hl2
  go_enter Tryd.func4, Tryd.ntmps4
  go_wp2_with fail
  refine HR1.out.mono ?_
  rintro e w1 ⟨cv, rfl, hc, hb1⟩
  obtain ⟨co, cc, rfl, -⟩ := hc.shape
  have HV1 := Lib.hid (IsRaw.below HV.out hb1)
  have HS1 := Lib.hid ((HS0.out.next hb1).addDig hc)
  clear hc hb1 HS0 HV
  go_wp2_with fail
  refine (HR2.out _ HV1.out).mono ?_
  rintro e w2 ⟨dv, rfl, hd, hb2⟩
  obtain ⟨d0, dc, rfl, -⟩ := hd.shape
  have HS2 := Lib.hid ((HS1.out.next hb2).addDig hd)
  clear hd hb2 HS1 HV1
  go_wp2_with fail
  refine (two_any _ _ a b w2 (HS2.out.dig _ (.tail _ (.head _))) (HS2.out.dig _ (.head _)) (by omega) (by omega)).mono ?_
  rintro e w3 ⟨xv, yv, rfl, hx, hy, hb3⟩
  obtain ⟨xo, xc, rfl, -⟩ := hx.shape
  obtain ⟨yo, yc, rfl, -⟩ := hy.shape
  have hs4 := ((((HS2.out.next hb3).addNum hx).addNum hy).boxed (.slice xo (nd 4294967296 a) xc) 28).boxed (.slice yo (nd 4294967296 b) yc) 28
  simp only [World.size_alloc] at hs4
  have HS4 := Lib.hid hs4
  clear hx hy hb3 hs4 HS2
  go_wp2_with fail
  refine (NMul_any _ _ a b _ (HS4.out.num _ (.tail _ (.head _))) (HS4.out.num _ (.head _)) (by omega) (by omega)).mono ?_
  rintro e w4 ⟨zv, rfl, hz, hb4⟩
  obtain ⟨zo, zc, rfl, -⟩ := hz.shape
  have HS5 := Lib.hid (((HS4.out.next hb4).addNum hz).boxed (.slice zo (nd 4294967296 (fitN (a * b))) zc) 28)
  clear hz hb4 HS4
  go_wp2_with fail
  refine (RMul_any _ _ a b _ (HS5.out.dig _ (.tail _ (.head _))) (HS5.out.dig _ (.head _)) (by omega) (by omega)).mono ?_
  rintro e w5 ⟨pv, rfl, hp, hb5⟩
  obtain ⟨po, pc, rfl, -⟩ := hp.shape
  have hs := (HS5.out.next hb5).addDig hp
  obtain ⟨cs, hcs⟩ : ∃ cs : List (Nat × Value), cs = [(w4.heap.size, .slice zo (nd 4294967296 (fitN (a * b))) zc), (w3.heap.size + 1, .slice yo (nd 4294967296 b) yc), (w3.heap.size, .slice xo (nd 4294967296 a) xc)] := ⟨_, rfl⟩
  obtain ⟨ns, hns⟩ : ∃ ns : List (Value × Nat), ns = [(.slice zo (nd 4294967296 (fitN (a * b))) zc, fitN (a * b)), (.slice yo (nd 4294967296 b) yc, b), (.slice xo (nd 4294967296 a) xc, a)] := ⟨_, rfl⟩
  obtain ⟨rs, hrs⟩ : ∃ rs : List (Value × Nat), rs = [(.slice po (nd 65536 (a * b)) pc, a * b), (.slice d0 (nd 65536 b) dc, b), (.slice co (nd 65536 a) cc, a)] := ⟨_, rfl⟩
  rw [← hcs, ← hns, ← hrs] at hs
  have HCL : Hid (∀ W, Kp cs ns rs w W → W.cell? ⟨w4.heap.size, 0, none⟩ = some (.slice zo (nd 4294967296 (fitN (a * b))) zc)) := fun W h => by
    rw [hcs] at h
    exact h.cell (.head _)
  have hp : (Value.slice po (nd 65536 (a * b)) pc, a * b) ∈ rs := by rw [hrs]; exact .head _
  have hz : (Value.slice zo (nd 4294967296 (fitN (a * b))) zc, fitN (a * b)) ∈ ns := by rw [hns]; exact .head _
  have HFI := Lib.hid (fun W (h : Kp cs ns rs w W) => fit_K (n := a * b) h (h.dig _ hp) (by omega))
  have HTO : Hid (∀ W, Kp cs ns rs w W → Calls Tryd.prog 15 #[.agg #[.slice zo (nd 4294967296 (fitN (a * b))) zc], .int .i64 (fitE (a * b)), .slice po (nd 65536 (a * b)) pc, .int .i64 (fitE (a * b))] W fun e w' => e = .returned (.bool true) ∧ Kp cs ns rs w w') := fun W h =>
    (told_fit (n := a * b) (h.num _ hz) (h.dig _ hp) (by omega) (by omega) h.env).mono fun _ _ ⟨he, hB⟩ => ⟨he, h.next hB⟩
  have HAW := Lib.hid (fun W (h : Kp cs ns rs w W) => awake_K h)
  have hs2 := hs.drew
  have hcl := HCL.out _ hs2
  have hc0 := HCL.out _ hs
  clear hb5 hcs hns hrs hs HS5 HR1 HR2 hp hz
  go_wp2_with fail
  go_region_held3 (fun W : World => W.cell? ⟨w4.heap.size, 0, none⟩ = some (.slice zo (nd 4294967296 (fitN (a * b))) zc) ∧ Kp cs ns rs w W) (first | (refine And.intro ?_ ?_ <;> assumption)) (first
    | (go_at_call 17; with_reducible refine (HFI.out _ ?h).mono ?_; (case h => assumption); rintro e w' ⟨rfl, hB, hs'⟩; have hc' := HCL.out _ hs')
    | (go_at_call 15; with_reducible refine (HTO.out _ ?h).mono ?_; (case h => assumption); rintro e w' ⟨rfl, hs'⟩; have hc' := HCL.out _ hs')
    | (go_at_call 19; with_reducible refine (HAW.out _ ?h).mono ?_; (case h => assumption); rintro e w' ⟨rfl, hs'⟩; have hc' := HCL.out _ hs'))
  go_wp2
  go_ret
  exact ⟨by simp, hs'.bel⟩
end Go.Proofs.YtmbgnkgjmmhncaaDoor
