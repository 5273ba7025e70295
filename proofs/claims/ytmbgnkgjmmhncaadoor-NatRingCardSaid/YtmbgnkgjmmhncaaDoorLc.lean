/- The law NatSums: the walk. -/
import Derived.Test.YtmbgnkgjmmhncaaDoorKp
namespace Go.Proofs.YtmbgnkgjmmhncaaDoor
open Go Go.RowKit Gu

theorem nd_r {n m : Nat} (h : nd 65536 n ≤ m) : nd 65536 (n) ≤ m + 1 := by omega
theorem nd_radd {a b m : Nat} (ha : nd 65536 a ≤ m) (hb : nd 65536 b ≤ m) : nd 65536 (a + b) ≤ m + 1 := by
  have h1 := (nd_le (by decide : 2 ≤ 65536)).1 ha
  have h2 := (nd_le (by decide : 2 ≤ 65536)).1 hb
  apply (nd_le (by decide : 2 ≤ 65536)).2
  rw [Nat.pow_succ]
  generalize (65536 : Nat) ^ m = p at *
  omega
/-- what is at hand when the law's condition begins -/
structure SumsAt (xv yv cv dv zv vv wv : Value) (a b : Nat) (cs : List (Nat × Value)) (ns rs : List (Value × Nat)) : Prop where
  x : (xv, a) ∈ ns
  y : (yv, b) ∈ ns
  z : (zv, fitN (a + b)) ∈ ns
  v : (vv, a - b) ∈ ns
  u : (wv, b - a) ∈ ns
  c : (cv, a) ∈ rs
  d : (dv, b) ∈ rs
section
variable {xv yv cv dv zv vv wv : Value} {a b : Nat} {cs : List (Nat × Value)} {ns rs : List (Value × Nat)} {w W : World}
theorem sAdd (hna : nd 65536 a ≤ 1024) (hnb : nd 65536 b ≤ 1024) (h : SumsAt xv yv cv dv zv vv wv a b cs ns rs) (hk : Kp cs ns rs w W) :
    Calls Tryd.prog 16 #[cv, dv] W fun e w' => ∃ ro rl rc, e = .returned (.slice ro rl rc) ∧ R w' (.slice ro rl rc) (a + b) ∧ Below W.heap.size W w' ∧ Kp cs ns rs w w' :=
  (RAdd_any _ _ a b W (hk.dig _ h.c) (hk.dig _ h.d) (by omega) (by omega)).mono fun _ _ ⟨r, he, hr, hB⟩ => by
    obtain ⟨ro, rc, rfl, -⟩ := hr.shape
    exact ⟨ro, _, rc, he, hr, hB, hk.next hB⟩
theorem sTold (hna : nd 65536 a ≤ 1024) (hnb : nd 65536 b ≤ 1024) {r : Value} (h : SumsAt xv yv cv dv zv vv wv a b cs ns rs) (hk : Kp cs ns rs w W) (hr : R W r (a + b)) :
    Calls Tryd.prog 15 #[.agg #[zv], .int .i64 (fitE (a + b)), r, .int .i64 (fitE (a + b))] W fun e w' => e = .returned (.bool true) ∧ Kp cs ns rs w w' :=
  (told_fit (hk.num _ h.z) hr (by have := nd_add (nd_32 hna) (nd_32 hnb); omega) (by have := nd_radd hna hnb; omega) hk.env).mono fun _ _ ⟨he, hB⟩ => ⟨he, hk.next hB⟩
theorem sErr {u r : Value} {n : Nat} {e : Int} (hm : (u, n) ∈ ns) (hn : n = 0) (he : e = 10) (hk : Kp cs ns rs w W) :
    Calls Tryd.prog 15 #[.agg #[u], .int .i64 e, r, .int .i64 10] W fun e w' => e = .returned (.bool true) ∧ Kp cs ns rs w w' := by
  subst he; subst hn
  exact (told_err2 _ r 10 W (hk.num _ hm) (by decide) hk.env).mono fun _ _ ⟨he, hB⟩ => ⟨he, hk.next hB⟩
theorem sOk {u r : Value} {n : Nat} {e : Int} (hm : (u, n) ∈ ns) (he : e = 0) (hn : nd 4294967296 n ≤ 100000) (hn2 : nd 65536 n ≤ 1000000) (hk : Kp cs ns rs w W) (hr : R W r n) :
    Calls Tryd.prog 15 #[.agg #[u], .int .i64 e, r, .int .i64 0] W fun e w' => e = .returned (.bool true) ∧ Kp cs ns rs w w' := by
  subst he
  exact (told_is _ r n W (hk.num _ hm) hr hn hn2 hk.env).mono fun _ _ ⟨he, hB⟩ => ⟨he, hk.next hB⟩
theorem sSub {x y : Value} {m n : Nat} (hx : (x, m) ∈ rs) (hy : (y, n) ∈ rs) (hm : nd 65536 m ≤ 1048576) (hn : nd 65536 n ≤ 1048576) (hle : n ≤ m) (hk : Kp cs ns rs w W) :
    Calls Tryd.prog 18 #[x, y] W fun e w' => ∃ ro rl rc, e = .returned (.slice ro rl rc) ∧ R w' (.slice ro rl rc) (m - n) ∧ Below W.heap.size W w' ∧ Kp cs ns rs w w' :=
  (RSub_any _ _ m n W (hk.dig _ hx) (hk.dig _ hy) hm hn hle).mono fun _ _ ⟨r, he, hr, hB⟩ => by
    obtain ⟨ro, rc, rfl, -⟩ := hr.shape
    exact ⟨ro, _, rc, he, hr, hB, hk.next hB⟩
end
theorem nd_sub {B a b m : Nat} (hB : 2 ≤ B) (ha : nd B a ≤ m) : nd B (a - b) ≤ m := Nat.le_trans (nd_mono hB (Nat.sub_le _ _)) ha
set_option maxHeartbeats 4000000 in
set_option maxRecDepth 100000 in
theorem natSums_walk (u v : Value) (xs ys : List Nat) (w : World) (hu : IsRaw w u xs) (hv : IsRaw w v ys) (hl1 : xs.length ≤ maxLen) (hl2 : ys.length ≤ maxLen) (he : Env w) :
    Calls Tryd.prog 3 #[u, v] w fun e w' => e = .returned (.bool true) ∧ Below w.heap.size w w' := by
  have HR1 := Lib.hid (Raw_any u xs 1024 w hu hl1 (by decide))
  have HR2 := Lib.hid (fun W (h : IsRaw W v ys) => Raw_any v ys 1024 W h hl2 (by decide))
  have hna := rawN_nd hu.1 1024
  have hnb := rawN_nd hv.1 1024
  generalize rawN xs 1024 = a at *
  generalize rawN ys 1024 = b at *
  have HV := Lib.hid hv
  have HS0 := Lib.hid (Kp.start he)
  obtain ⟨uo, uc, rfl, -⟩ := hu.shape
  obtain ⟨vo, vc, rfl, -⟩ := hv.shape
  have ha32 := nd_32 hna
  have hb32 := nd_32 hnb
  clear hu hv he hl1 hl2
  go_enter Tryd.func3, Tryd.ntmps3
  go_wp2_with fail
  refine HR1.out.mono ?_
  rintro e w1 ⟨cv, rfl, hc, hb1⟩
  obtain ⟨co, cc, rfl, -⟩ := hc.shape
  have HV1 := Lib.hid (IsRaw.below HV.out hb1)
  have HS1 := Lib.hid ((HS0.out.next hb1).addDig hc)
  clear hc hb1 HS0 HV
  go_wp2_with fail
  refine (HR2.out _ HV1.out).mono ?_
  rintro e w2 ⟨dv, rfl, hd, hb2⟩
  obtain ⟨d0, dc, rfl, -⟩ := hd.shape
  have HS2 := Lib.hid ((HS1.out.next hb2).addDig hd)
  clear hd hb2 HS1 HV1
  go_wp2_with fail
  refine (two_any _ _ a b w2 (HS2.out.dig _ (.tail _ (.head _))) (HS2.out.dig _ (.head _)) hna hnb).mono ?_
  rintro e w3 ⟨xv, yv, rfl, hx, hy, hb3⟩
  obtain ⟨xo, xc, rfl, -⟩ := hx.shape
  obtain ⟨yo, yc, rfl, -⟩ := hy.shape
  have hs4 := ((((HS2.out.next hb3).addNum hx).addNum hy).boxed (.slice xo (nd 4294967296 a) xc) 28).boxed (.slice yo (nd 4294967296 b) yc) 28
  simp only [World.size_alloc] at hs4
  have HS4 := Lib.hid hs4
  clear hx hy hb3 hs4 HS2
  go_wp2_with fail
  refine (Add_any _ _ a b _ (HS4.out.num _ (.tail _ (.head _))) (HS4.out.num _ (.head _)) (by omega) (by omega)).mono ?_
  rintro e w4 ⟨zv, rfl, hz, hb4⟩
  obtain ⟨zo, zc, rfl, -⟩ := hz.shape
  have HS5 := Lib.hid (((HS4.out.next hb4).addNum hz).boxed (.slice zo (nd 4294967296 (fitN (a + b))) zc) 28)
  have x5 := HS5.out.cell (.tail _ (.tail _ (.head _))); have y5 := HS5.out.cell (.tail _ (.head _))
  clear hz hb4 HS4
  go_wp2_with fail
  refine (NSub_any _ _ a b _ (HS5.out.num _ (.tail _ (.tail _ (.head _)))) (HS5.out.num _ (.tail _ (.head _))) (by omega) (by omega)).mono ?_
  rintro e w5 ⟨vv, rfl, hz, hb5⟩
  obtain ⟨v0, v1, rfl, -⟩ := hz.shape
  have HS6 := Lib.hid (((HS5.out.next hb5).addNum hz).boxed (.slice v0 (nd 4294967296 (a - b)) v1) 28)
  clear x5 y5
  have x5 := HS6.out.cell (.tail _ (.tail _ (.tail _ (.head _)))); have y5 := HS6.out.cell (.tail _ (.tail _ (.head _)))
  clear hz hb5 HS5
  go_wp2_with fail
  refine (NSub_any _ _ b a _ (HS6.out.num _ (.tail _ (.tail _ (.head _)))) (HS6.out.num _ (.tail _ (.tail _ (.tail _ (.head _))))) (by omega) (by omega)).mono ?_
  rintro e w6 ⟨wv, rfl, hz, hb6⟩
  obtain ⟨t0, t1, rfl, -⟩ := hz.shape
  have hs := ((HS6.out.next hb6).addNum hz).boxed (.slice t0 (nd 4294967296 (b - a)) t1) 28
  obtain ⟨cs, hcs⟩ : ∃ cs : List (Nat × Value), cs = [(w6.heap.size, .slice t0 (nd 4294967296 (b - a)) t1), (w5.heap.size, .slice v0 (nd 4294967296 (a - b)) v1), (w4.heap.size, .slice zo (nd 4294967296 (fitN (a + b))) zc), (w3.heap.size + 1, .slice yo (nd 4294967296 b) yc), (w3.heap.size, .slice xo (nd 4294967296 a) xc)] := ⟨_, rfl⟩
  obtain ⟨ns, hns⟩ : ∃ ns : List (Value × Nat), ns = [(.slice t0 (nd 4294967296 (b - a)) t1, b - a), (.slice v0 (nd 4294967296 (a - b)) v1, a - b), (.slice zo (nd 4294967296 (fitN (a + b))) zc, fitN (a + b)), (.slice yo (nd 4294967296 b) yc, b), (.slice xo (nd 4294967296 a) xc, a)] := ⟨_, rfl⟩
  obtain ⟨rs, hrs⟩ : ∃ rs : List (Value × Nat), rs = [(.slice d0 (nd 65536 b) dc, b), (.slice co (nd 65536 a) cc, a)] := ⟨_, rfl⟩
  rw [← hcs, ← hns, ← hrs] at hs
  have HCL : Hid (∀ W, Kp cs ns rs w W → W.cell? ⟨w3.heap.size, 0, none⟩ = some (.slice xo (nd 4294967296 a) xc) ∧ W.cell? ⟨w3.heap.size + 1, 0, none⟩ = some (.slice yo (nd 4294967296 b) yc) ∧ W.cell? ⟨w4.heap.size, 0, none⟩ = some (.slice zo (nd 4294967296 (fitN (a + b))) zc) ∧
      W.cell? ⟨w5.heap.size, 0, none⟩ = some (.slice v0 (nd 4294967296 (a - b)) v1) ∧ W.cell? ⟨w6.heap.size, 0, none⟩ = some (.slice t0 (nd 4294967296 (b - a)) t1)) := fun W h => by
    rw [hcs] at h
    exact ⟨h.cell (.tail _ (.tail _ (.tail _ (.tail _ (.head _))))), h.cell (.tail _ (.tail _ (.tail _ (.head _)))), h.cell (.tail _ (.tail _ (.head _))), h.cell (.tail _ (.head _)), h.cell (.head _)⟩
  have HAT : Hid (SumsAt (.slice xo (nd 4294967296 a) xc) (.slice yo (nd 4294967296 b) yc) (.slice co (nd 65536 a) cc) (.slice d0 (nd 65536 b) dc) (.slice zo (nd 4294967296 (fitN (a + b))) zc) (.slice v0 (nd 4294967296 (a - b)) v1) (.slice t0 (nd 4294967296 (b - a)) t1) a b cs ns rs) := by
    rw [hns, hrs]
    exact ⟨.tail _ (.tail _ (.tail _ (.tail _ (.head _)))), .tail _ (.tail _ (.tail _ (.head _))), .tail _ (.tail _ (.head _)), .tail _ (.head _), .head _, .tail _ (.head _), .head _⟩
  have hs2 := hs.drew
  have hcl := HCL.out _ hs2
  have HSS := Lib.hid hs
  clear hz hb6 hcs hns hrs hs HS6 x5 y5 HR1 HR2
  have HN1 := Lib.hid (fun W (h : Kp cs ns rs w W) => NCmp_K h HAT.out.x HAT.out.y (by omega) (by omega))
  have HN2 := Lib.hid (fun W (h : Kp cs ns rs w W) => NCmp_K h HAT.out.y HAT.out.x (by omega) (by omega))
  have HRC1 := Lib.hid (fun W (h : Kp cs ns rs w W) => RCmp_K h HAT.out.c HAT.out.d (by omega) (by omega))
  have HRC2 := Lib.hid (fun W (h : Kp cs ns rs w W) => RCmp_K h HAT.out.d HAT.out.c (by omega) (by omega))
  have HA := Lib.hid (fun W (h : Kp cs ns rs w W) => sAdd hna hnb HAT.out h)
  have HTo := Lib.hid (fun W r (h : Kp cs ns rs w W) hr => sTold (W := W) (r := r) hna hnb HAT.out h hr)
  have HFi := Lib.hid (fun W v (h : Kp cs ns rs w W) hr => fit_K (W := W) (v := v) (n := a + b) h hr (by have := nd_radd hna hnb; omega))
  have HRC3 := Lib.hid (fun W (h : Kp cs ns rs w W) => RCmp_K h HAT.out.c HAT.out.d (by omega) (by omega))
  obtain ⟨c1, hc1⟩ : ∃ c, c = cmpN a b := ⟨_, rfl⟩
  have HC1 := Lib.hid hc1
  rw [← hc1] at HN1 HRC1 HRC3
  clear hc1
  generalize cmpN b a = c2 at *
  go_wp2_with fail
  go_region_held3 (fun W : World => (W.cell? ⟨w3.heap.size, 0, none⟩ = some (.slice xo (nd 4294967296 a) xc) ∧ W.cell? ⟨w3.heap.size + 1, 0, none⟩ = some (.slice yo (nd 4294967296 b) yc) ∧ W.cell? ⟨w4.heap.size, 0, none⟩ = some (.slice zo (nd 4294967296 (fitN (a + b))) zc) ∧
      W.cell? ⟨w5.heap.size, 0, none⟩ = some (.slice v0 (nd 4294967296 (a - b)) v1) ∧ W.cell? ⟨w6.heap.size, 0, none⟩ = some (.slice t0 (nd 4294967296 (b - a)) t1)) ∧ Kp cs ns rs w W) (first | (refine And.intro ?_ ?_ <;> assumption)) (first
    | (go_at_call 13; first | (with_reducible refine (HN1.out _ ?h).mono ?_; (case h => assumption); rintro e w' ⟨rfl, hs'⟩; have hc' := HCL.out _ hs') | (with_reducible refine (HN2.out _ ?h).mono ?_; (case h => assumption); rintro e w' ⟨rfl, hs'⟩; have hc' := HCL.out _ hs'))
    | (go_at_call 14; first | (with_reducible refine (HRC1.out _ ?h).mono ?_; (case h => assumption); rintro e w' ⟨rfl, hs'⟩; have hc' := HCL.out _ hs') | (with_reducible refine (HRC2.out _ ?h).mono ?_; (case h => assumption); rintro e w' ⟨rfl, hs'⟩; have hc' := HCL.out _ hs'))
    | (go_at_call 16; with_reducible refine (HA.out _ ?h).mono ?_; (case h => assumption); rintro e w' ⟨ro, rl, rc, rfl, hr, hB, hs'⟩; have hc' := HCL.out _ hs')
    | (go_at_call 17; with_reducible refine (HFi.out _ _ ?h ?r).mono ?_; (case h => assumption); (case r => first | assumption | exact rchain (by assumption) (by assumption)); rintro e w' ⟨rfl, hB, hs'⟩; have hc' := HCL.out _ hs')
    | (go_at_call 15; with_reducible refine (HTo.out _ _ ?h ?r).mono ?_; (case h => assumption); (case r => first | assumption | exact rchain (by assumption) (by assumption) | exact rchain (by assumption) (rchain (by assumption) (by assumption))); rintro e w' ⟨rfl, hs'⟩; have hc' := HCL.out _ hs'))
  have HS7 := Lib.hid hs'
  clear hs'
  go_wp2_with fail
  refine (HRC3.out _ HS7.out).mono ?_
  rintro e w8 ⟨rfl, hs⟩
  have HS8 := Lib.hid hs
  obtain ⟨x8, y8, z8, v8, u8⟩ := HCL.out _ hs
  clear hs HS7 HN1 HN2 HRC1 HRC2 HTo HFi HA HSS
  have HAW := Lib.hid (fun W (h : Kp cs ns rs w W) => awake_K h)
  rcases Nat.lt_trichotomy a b with h | h | h
  · have e1 : c1 = -1 := by rw [HC1.out]; exact cmpN_lt (by omega)
    subst e1
    have HTV := Lib.hid (fun W (hk : Kp cs ns rs w W) => sErr (W := W) (r := .slice none 0 0) (e := subE a b) HAT.out.v (by omega) (if_pos h) hk)
    have HRS := Lib.hid (fun W (hk : Kp cs ns rs w W) => sSub (W := W) HAT.out.d HAT.out.c (by omega) (by omega) (Nat.le_of_lt h) hk)
    have HTW := Lib.hid (fun W r (hk : Kp cs ns rs w W) hr => sOk (W := W) (r := r) (e := subE b a) HAT.out.u (if_neg (by omega)) (by have := nd_sub (b := a) (by decide) hb32; omega) (by have := nd_sub (b := a) (by decide) hnb; omega) hk hr)
    clear HC1 h
    go_wp2_with fail
    have hs9 := HS8.out.drew
    have hcl9 := HCL.out _ hs9
    clear HS8 x8 y8 z8 v8 u8
    go_region_held3 (fun W : World => (W.cell? ⟨w3.heap.size, 0, none⟩ = some (.slice xo (nd 4294967296 a) xc) ∧ W.cell? ⟨w3.heap.size + 1, 0, none⟩ = some (.slice yo (nd 4294967296 b) yc) ∧ W.cell? ⟨w4.heap.size, 0, none⟩ = some (.slice zo (nd 4294967296 (fitN (a + b))) zc) ∧
      W.cell? ⟨w5.heap.size, 0, none⟩ = some (.slice v0 (nd 4294967296 (a - b)) v1) ∧ W.cell? ⟨w6.heap.size, 0, none⟩ = some (.slice t0 (nd 4294967296 (b - a)) t1)) ∧ Kp cs ns rs w W) (first | (refine And.intro ?_ ?_ <;> assumption)) (first
    | (go_at_call 15; first | (with_reducible refine (HTV.out _ ?h).mono ?_; (case h => assumption); rintro e w' ⟨rfl, hs'⟩; have hc' := HCL.out _ hs') | (with_reducible refine (HTW.out _ _ ?h ?r).mono ?_; (case h => assumption); (case r => first | assumption | exact rchain (by assumption) (by assumption)); rintro e w' ⟨rfl, hs'⟩; have hc' := HCL.out _ hs'))
    | (go_at_call 18; with_reducible refine (HRS.out _ ?h).mono ?_; (case h => assumption); rintro e w' ⟨ro, rl, rc, rfl, hr, hB, hs'⟩; have hc' := HCL.out _ hs')
    | (go_at_call 19; with_reducible refine (HAW.out _ ?h).mono ?_; (case h => assumption); rintro e w' ⟨rfl, hs'⟩; have hc' := HCL.out _ hs'))
    go_wp2
    go_ret
    exact ⟨by simp, hs'.bel⟩
  · have e1 : c1 = 0 := by rw [HC1.out]; exact cmpN_eq (by omega)
    subst e1
    have HTV := Lib.hid (fun W (hk : Kp cs ns rs w W) => sOk (W := W) (r := .slice none 0 0) (e := subE a b) HAT.out.v (if_neg (by omega)) (by have := nd_sub (b := b) (by decide) ha32; omega) (by have := nd_sub (b := b) (by decide) hna; omega) hk (by rw [show a - b = 0 by omega]; exact IsN.zero _ _ _ _ _))
    have HTW := Lib.hid (fun W (hk : Kp cs ns rs w W) => sOk (W := W) (r := .slice none 0 0) (e := subE b a) HAT.out.u (if_neg (by omega)) (by have := nd_sub (b := a) (by decide) hb32; omega) (by have := nd_sub (b := a) (by decide) hnb; omega) hk (by rw [show b - a = 0 by omega]; exact IsN.zero _ _ _ _ _))
    clear HC1 h
    go_wp2_with fail
    refine (HRC3.out _ HS8.out).mono ?_
    rintro e w9 ⟨rfl, hs⟩
    have HS9 := Lib.hid hs
    clear HS8 x8 y8 z8 v8 u8
    obtain ⟨x8, y8, z8, v8, u8⟩ := HCL.out _ hs
    have HS8 := Lib.hid hs
    clear hs HS9
    go_wp2_with fail
    refine (HTV.out _ HS8.out).mono ?_
    rintro e w10 ⟨rfl, hs⟩
    clear HS8 x8 y8 z8 v8 u8
    obtain ⟨x8, y8, z8, v8, u8⟩ := HCL.out _ hs
    have HS8 := Lib.hid hs
    clear hs
    go_wp2_with fail
    refine (HTW.out _ HS8.out).mono ?_
    rintro e w11 ⟨rfl, hs⟩
    clear HS8 x8 y8 z8 v8 u8
    obtain ⟨x8, y8, z8, v8, u8⟩ := HCL.out _ hs
    have HS8 := Lib.hid hs
    clear hs
    go_wp2_with fail
    refine (HAW.out _ HS8.out).mono ?_
    rintro e w12 ⟨rfl, hs⟩
    have HS9 := Lib.hid hs
    clear hs
    go_wp2
    go_ret
    exact ⟨by simp, HS9.out.bel⟩
  · have e1 : c1 = 1 := by rw [HC1.out]; exact cmpN_gt (by omega)
    subst e1
    have HTV := Lib.hid (fun W (hk : Kp cs ns rs w W) => sErr (W := W) (r := .slice none 0 0) (e := subE b a) HAT.out.u (by omega) (if_pos h) hk)
    have HRS := Lib.hid (fun W (hk : Kp cs ns rs w W) => sSub (W := W) HAT.out.c HAT.out.d (by omega) (by omega) (Nat.le_of_lt h) hk)
    have HTW := Lib.hid (fun W r (hk : Kp cs ns rs w W) hr => sOk (W := W) (r := r) (e := subE a b) HAT.out.v (if_neg (by omega)) (by have := nd_sub (b := b) (by decide) ha32; omega) (by have := nd_sub (b := b) (by decide) hna; omega) hk hr)
    clear HC1 h
    go_wp2_with fail
    refine (HRC3.out _ HS8.out).mono ?_
    rintro e w9 ⟨rfl, hs⟩
    clear HS8 x8 y8 z8 v8 u8
    obtain ⟨x8, y8, z8, v8, u8⟩ := HCL.out _ hs
    have HS8 := Lib.hid hs
    clear hs
    go_wp2_with fail
    have hs9 := HS8.out.drew
    have hcl9 := HCL.out _ hs9
    clear HS8 x8 y8 z8 v8 u8
    go_region_held3 (fun W : World => (W.cell? ⟨w3.heap.size, 0, none⟩ = some (.slice xo (nd 4294967296 a) xc) ∧ W.cell? ⟨w3.heap.size + 1, 0, none⟩ = some (.slice yo (nd 4294967296 b) yc) ∧ W.cell? ⟨w4.heap.size, 0, none⟩ = some (.slice zo (nd 4294967296 (fitN (a + b))) zc) ∧
      W.cell? ⟨w5.heap.size, 0, none⟩ = some (.slice v0 (nd 4294967296 (a - b)) v1) ∧ W.cell? ⟨w6.heap.size, 0, none⟩ = some (.slice t0 (nd 4294967296 (b - a)) t1)) ∧ Kp cs ns rs w W) (first | (refine And.intro ?_ ?_ <;> assumption)) (first
    | (go_at_call 15; first | (with_reducible refine (HTV.out _ ?h).mono ?_; (case h => assumption); rintro e w' ⟨rfl, hs'⟩; have hc' := HCL.out _ hs') | (with_reducible refine (HTW.out _ _ ?h ?r).mono ?_; (case h => assumption); (case r => first | assumption | exact rchain (by assumption) (by assumption)); rintro e w' ⟨rfl, hs'⟩; have hc' := HCL.out _ hs'))
    | (go_at_call 18; with_reducible refine (HRS.out _ ?h).mono ?_; (case h => assumption); rintro e w' ⟨ro, rl, rc, rfl, hr, hB, hs'⟩; have hc' := HCL.out _ hs')
    | (go_at_call 19; with_reducible refine (HAW.out _ ?h).mono ?_; (case h => assumption); rintro e w' ⟨rfl, hs'⟩; have hc' := HCL.out _ hs'))
    go_wp2
    go_ret
    exact ⟨by simp, hs'.bel⟩
end Go.Proofs.YtmbgnkgjmmhncaaDoor
