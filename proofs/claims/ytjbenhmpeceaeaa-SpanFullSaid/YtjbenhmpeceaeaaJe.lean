/- The law SpanFroms: its walk. -/
import Derived.Test.YtjbenhmpeceaeaaJd
import Derived.Laws.OwnMore
namespace Go.Proofs.Ytjbenhmpeceaeaa
open Go Go.RowKit Gs

/-- a store at a block that is no node -/
theorem IsT.away {W : World} {g i : Nat} {u : Value} {cur : Array Value} {e : TypeId} {fz : Nat × Nat} (hg : W.heap[g]? = some (.cells cur e fz)) (he : e ≠ 120) : ∀ {t : T} {v : Value}, IsT W t v → IsT (W.setCell ⟨g, i, none⟩ u) t v
  | .nil, _, h => h
  | .node _ _ _, _, ⟨b, x, y, hv, hr, hl, hk⟩ => ⟨b, x, y, hv, hr.setOther (a := ⟨g, i, none⟩) (by
      intro e2
      have e2 : b = g := e2
      subst e2
      obtain ⟨c, h1, _⟩ := hr
      rw [hg] at h1
      injection h1 with h1
      injection h1 with _ h1
      exact he h1) _, IsT.away hg he hl, IsT.away hg he hk⟩
theorem Dual.away {base : Nat} {W : World} {p : Option Addr} {z s : Int} {v : Value} {g : Nat} {cur : Array Value} {e : TypeId} {fz : Nat × Nat} (h : Dual base W p z s v) (hgb : g < base) (hg : W.heap[g]? = some (.cells cur e fz)) (he : e ≠ 120) (i : Nat) (u : Value) : Dual base (W.setCell ⟨g, i, none⟩ u) p z s v := by
  rcases h with h | ⟨f, L, h1, h2, h3, h4⟩
  · exact .inl h
  · obtain ⟨t, t1, t2, t3⟩ := h1.tr
    exact .inr ⟨f, L, ⟨h1.lo, h1.ctx, t, IsT.away hg he t1, t2, t3⟩, h2, h3.set _ hgb u, h4⟩
theorem row_cap {W : World} {base : Nat} {e : TypeId} {size : Nat} {a : Option Addr} {n c : Nat} {xs : List Value} (h : W.ownsRow base e size (.slice a n c) n xs) : n ≤ c := by
  rcases h.2 with ⟨h, h0⟩ | ⟨g, cap, cur, h, _, _, h1, _⟩
  · omega
  · injection h with _ _ h
    omega
theorem row_below {W W' : World} {base : Nat} {e : TypeId} {size : Nat} {v : Value} {n : Nat} {xs : List Value} (h : W.ownsRow base e size v n xs) (hb : Below W.heap.size W W') : W'.ownsRow base e size v n xs :=
  h.kept (row := none) ⟨hb.os, hb.tape, hb.output, hb.size, fun j hj _ => hb.block j hj⟩ (Classical.em _)
theorem row_heap {W : World} {base : Nat} {e : TypeId} {size : Nat} {g n c : Nat} {xs : List Value} (h : W.ownsRow base e size (.slice (some ⟨g, 0, none⟩) n c) n xs) : ∃ cur, W.heap[g]? = some (.cells cur e (0, 0)) := by
  rcases h.2 with ⟨h, _⟩ | ⟨g', cap, cur, h, _, h2, _⟩
  · cases h
  · injection h with h1 _ _
    injection h1 with h1
    injection h1 with h1
    subst h1
    exact ⟨cur, h2⟩
set_option maxRecDepth 100000 in
set_option maxHeartbeats 4000000 in
theorem spanFroms_walk (size : Int) (cv : Value) (k : List R) (W : World) (hk : IsRo W cv k) (hkv : cv = .slice none 0 0 ∨ ∃ a m c, cv = .slice (some a) m c) :
    Calls Try.prog 5 #[.int .i64 size, cv] W fun e w' => e = .returned (.bool true) ∧ Below W.heap.size W w' := by
  have HAW := Lib.hid (fun W' => awake_any W')
  have HCS := Lib.hid hk
  obtain ⟨ka, kc, rfl, -, -⟩ := hk
  obtain ⟨m, hmm⟩ : ∃ m, m = k.length := ⟨_, rfl⟩
  have HM := Lib.hid hmm
  rw [← hmm] at HCS hkv ⊢
  have HKV := Lib.hid hkv
  have HR : Hid (Below W.heap.size W W) := Below.refl _ _
  clear hmm hkv
  by_cases hm : 5000 < m
  · have hm2 : (m : Int) > 5000 := by omega
    go_enter Try.func5, Try.ntmps5
    go_wp2_with fail
    refine (HAW.out _).mono ?_
    rintro e w2 ⟨rfl, hb⟩
    have HB2 := Lib.hid hb
    clear hb
    go_wp2_with fail
    go_ret
    exact ⟨rfl, HB2.out⟩
  · have hm2 : ¬ (m : Int) > 5000 := by omega
    have HMB : Hid (m ≤ 5000) := by show _ ≤ _; omega
    have HMB2 : Hid (m ≤ 100000) := by show _ ≤ _; omega
    go_enter Try.func5, Try.ntmps5
    go_wp2_with (at_builtin; refine wpList_copyR rfl _ _ rfl (w3 := W) HM.out rfl rfl HCS.out HKV.out HMB2.out ?_)
    intro a2 c2 w1 hown1 hb1
    have HO1 := Lib.hid hown1
    have HB1 := Lib.hid hb1
    have HC1 := Lib.hid (HCS.out.below hb1)
    have HIN : Hid (IsRo w1 (.slice a2 m c2) k) := by
      have hrc := row_cap hown1
      have hrs := IsRs.of_row (l := k) (v := .slice a2 m c2) (by rw [← HM.out]; exact hown1)
      obtain ⟨a', c', hv, hcs⟩ := hrs
      injection hv with hv1 _ hv3
      subst hv1; subst hv3
      refine ⟨a2, c2, by rw [HM.out], by rw [← HM.out]; exact hrc, fun hp => ?_⟩
      obtain ⟨B, e, h1, h2⟩ := hcs hp
      refine ⟨B, 0, e, h1.2, fun j hj => ?_⟩
      rw [Nat.zero_add]
      exact h2 j hj
    have HFR := Lib.hid (From_any (size := size) HIN.out (by have := HM.out; have := HMB.out; omega))
    clear hown1 hb1
    go_wp2_with fail
    refine HFR.out.mono ?_
    rintro e w2 ⟨q, s2, e2, rfl, HFP, hb⟩
    obtain ⟨w3, HW3⟩ : ∃ w3, w3 = w2.alloc (.cells #[.pointer q, .int .i64 s2] 27) := ⟨_, rfl⟩
    have b3 : Below w2.heap.size w2 w3 := by rw [HW3]; exact alloc_below _ _
    have n3 : Bx w2.heap.size [.pointer q, .int .i64 s2] w3 := by rw [HW3]; exact Bx.new w2 [.pointer q, .int .i64 s2] 27 (by simp)
    have b13 := hb.trans (b3.mono hb.size)
    have HC3 := Lib.hid (HC1.out.below b13)
    have HRF := Lib.hid (RFrom_any (size := size) HC3.out HKV.out (by have := HM.out; have := HMB.out; omega))
    have HFP3 := Lib.hid (HFP.out.below b3)
    have HO3 : Hid (w3.ownsRow W.heap.size 64 3 (.slice a2 m c2) m (k.flatMap encL) ∧ ∀ g, a2 = some ⟨g, 0, none⟩ → g < w2.heap.size) := ⟨row_below HO1.out b13, fun g hg => by
      subst hg
      exact Nat.lt_of_lt_of_le (HO1.out.lt g rfl).2 hb.size⟩
    have G3 := Lib.hid n3
    have HB3 := Lib.hid (HB1.out.trans (b13.mono HB1.out.size))
    have HW3' := Lib.hid HW3
    clear HW3 b3 n3 b13 hb
    go_upto_region 5 with fail
    rw [← HW3'.out]
    clear HW3'
    go_wp2_with fail
    refine HRF.out.mono ?_
    rintro e w4 ⟨s', v', e', rfl, HRP, hb⟩
    obtain ⟨va, vn, vc, rfl⟩ := HRP.out.shape
    obtain ⟨w5, HW5⟩ : ∃ w5, w5 = w4.alloc (.cells #[.int .i64 s', .slice va vn vc] 33) := ⟨_, rfl⟩
    have b5 : Below w4.heap.size w4 w5 := by rw [HW5]; exact alloc_below _ _
    have n5 : Bx w4.heap.size [.int .i64 s', .slice va vn vc] w5 := by rw [HW5]; exact Bx.new w4 [.int .i64 s', .slice va vn vc] 33 (by simp)
    have b35 := hb.trans (b5.mono hb.size)
    obtain ⟨hee, hdu⟩ := from_dual (HFP3.out.below b35) (HRP.out.below b5)
    have HDU := Lib.hid hdu
    have G5 := Lib.hid n5
    have G35 := Lib.hid (G3.out.next b35)
    have HB5 := Lib.hid (HB3.out.trans (b35.mono HB3.out.size))
    have HO5 : Hid (w5.ownsRow W.heap.size 64 3 (.slice a2 m c2) m (k.flatMap encL)) := row_below HO3.out.1 b35
    have HSZ : Hid (w2.heap.size < w3.heap.size ∧ w3.heap.size ≤ w4.heap.size) := ⟨G3.out.lt, hb.size⟩
    have HW5' := Lib.hid HW5
    have HINT : Hid (∀ j, j < m → ∃ t, (k.flatMap encL)[j * 3 + 2]? = some (.int .i64 t)) := fun j hj => ⟨_, (encL_get k j (by rw [← HM.out]; exact hj)).2.2⟩
    clear HW5 b5 n5 b35 hb hdu
    subst hee
    go_upto_region 6 with fail
    rw [← HW5'.out]
    clear HW5'
    go_wp2_with fail
    go_loopw [10] (fun iv wr => ∃ (j : Nat) (xs : List Value), j ≤ m ∧ iv = .int .i64 j ∧ Hid (wr.ownsRow W.heap.size 64 3 (.slice a2 m c2) m xs) ∧ Hid (∀ j, j < m → ∃ t, xs[j * 3 + 2]? = some (.int .i64 t)) ∧ Hid (Dual w3.heap.size wr q s2 s' (.slice va vn vc)) ∧ Hid (Bx w2.heap.size [.pointer q, .int .i64 s2] wr) ∧ Hid (Bx w4.heap.size [.int .i64 s', .slice va vn vc] wr) ∧ Hid (Below W.heap.size W wr)) (fun i _ => m - (intOf i).toNat)
    case atStart => exact ⟨0, _, by omega, rfl, HO5.out, HINT.out, HDU.out, G35.out, G5.out, HB5.out⟩
    case round =>
      obtain ⟨j, xs, hj, rfl, HO, HI, HD, F1, F2, HBr⟩ := hrel
      by_cases hlt : j < m
      · have hj2 : (j : Int) < m := by omega
        have hj0 : (0 : Int) ≤ (j : Int) := by omega
        obtain ⟨t, ht⟩ := HI.out j hlt
        have hxl : xs.length = m * 3 := HO.out.1
        cases a2 with
        | none =>
          exfalso
          rcases HO.out.2 with ⟨_, h0⟩ | ⟨g, _, _, h, _⟩
          · omega
          · cases h
        | some ad =>
          obtain ⟨g, rfl⟩ : ∃ g, ad = ⟨g, 0, none⟩ := by
            rcases HO.out.2 with ⟨h, _⟩ | ⟨g, _, _, h, _⟩
            · cases h
            · injection h with h _ _
              injection h with h
              exact ⟨g, h⟩
          have hgl := HO3.out.2 g rfl
          have c0 := (HO.out.cellAt (j * 3 + 2) (by omega)).trans ht
          have f0 := HO.out.frozenAt (j * 3 + 2)
          obtain ⟨cur, hcur⟩ := row_heap HO.out
          have HCUR := Lib.hid hcur
          have HGL := Lib.hid hgl
          have HT := Lib.hid ht
          have HXL := Lib.hid hxl
          clear hcur hgl ht hxl
          go_wp2_with fail
          go_roundw
          case rel =>
            have hgl := HGL.out
            have hsz := HSZ.out
            refine ⟨j + 1, xs.set (j * 3 + 2) (.int .i64 (wrap64 (t + 1))), by omega, by go_num, (HO.out.stored _ _).1, fun i hi => ?_, HD.out.away (by omega) HCUR.out (by decide) _ _, F1.out.other (by omega) _, F2.out.other (by omega) _, HBr.out.setCell (HO.out.lt g rfl).1 _⟩
            by_cases e : i = j
            · subst e
              exact ⟨_, List.getElem?_set_self (by have := HXL.out; omega)⟩
            · obtain ⟨x, hx⟩ := HI.out i hi
              exact ⟨x, by rw [List.getElem?_set_ne (by omega)]; exact hx⟩
          case measure => simp [intOf]; omega
      · have hj2 : ¬ (j : Int) < m := by omega
        obtain ⟨m0, m1, -, -⟩ := F1.out.c2
        obtain ⟨r0, r1, -, -⟩ := F2.out.c2
        go_wp2_with fail
        refine (same_dual HD.out).mono ?_
        rintro e x1 ⟨rfl, hb⟩
        have B1 := Lib.hid (HBr.out.trans (hb.out.mono HBr.out.size))
        clear hb m0 m1 r0 r1
        go_wp2_with fail
        refine (HAW.out _).mono ?_
        rintro e x2 ⟨rfl, hb⟩
        have HF := Lib.hid (B1.out.trans (hb.mono B1.out.size))
        clear hb
        go_wp2_with fail
        go_ret
        exact ⟨rfl, HF.out⟩
end Go.Proofs.Ytjbenhmpeceaeaa
