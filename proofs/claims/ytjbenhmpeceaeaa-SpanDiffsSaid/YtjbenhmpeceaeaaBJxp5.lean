/- Contracts and lemmas (several texts merged into one). -/
import Derived.Test.YtjbenhmpeceaeaaBJxp3
import Derived.Test.YtjbenhmpeceaeaaBJxp4
import Derived.BigRegion
namespace Go.Proofs.Ytjbenhmpeceaeaa
open Go Go.RowKit Gs

theorem Upd.same {f g : Int → Int} {size : Int} {W : World} {p : Option Addr} (h : IsM g size W p) : Upd f g size 0 p size 0 W := .inr (.inr ⟨rfl, rfl, rfl, h⟩)
theorem IsM.congr {f g : Int → Int} {size : Int} {W : World} {p : Option Addr} (h : IsM f size W p) (e : ∀ x, f x = g x) : IsM g size W p :=
  ⟨h.lo, ⟨h.ctx.1, h.ctx.2.1, fun x x1 x2 => by rw [← e x]; exact h.ctx.2.2 x x1 x2⟩, h.tr.congr fun x _ _ => e x⟩
set_option maxHeartbeats 1000000 in
theorem Set_none {f : Int → Int} {size lo tag : Int} {W : World} {p : Option Addr} (h : IsM f size W p) (her : errOf size lo lo [tag] = 0) :
    Calls Try.prog 38 #[.agg #[.pointer p, .int .i64 size], .int .i64 lo, .int .i64 lo, .int .i64 tag] W fun e w' => e = .returned (.tuple #[.agg #[.pointer p, .int .i64 size], .int .i64 0]) ∧ Below W.heap.size W w' := by
  obtain ⟨b, rfl⟩ := h.some
  obtain ⟨w0, HW, hm, hr, hc, hlt, hb⟩ := boxes3 W (some ⟨b, 0, none⟩) size 27 #[.int .i64 tag] 3
  have HCK : Hid (Calls Try.prog 46 #[.agg #[.pointer (some ⟨b, 0, none⟩), .int .i64 size], .int .i64 lo, .int .i64 lo, .slice (some ⟨W.heap.size + 1 + 1, 0, none⟩) 1 1] w0 fun e w' => e = .returned (.int .i64 (errOf size lo lo [tag])) ∧ Below w0.heap.size w0 w') :=
    check_any b (W.heap.size + 1 + 1) 1 size lo lo [tag] w0 hlt (fun i hi => by
      have : i = 0 := by simp at hi; exact hi
      subst this
      exact hc 0 _ rfl) (by simp)
  rw [her] at HCK
  have HM := Lib.hid hm; have HR := Lib.hid hr; have HB := Lib.hid hb; have HW' := Lib.hid HW
  clear hm hr hb HW hc hlt h her
  go_enter Try.func38, Try.ntmps38
  go_wp2_with fail
  rw [← HW'.out]
  refine HCK.out.mono ?_
  rintro e w1 ⟨rfl, hb⟩
  have HR1 := Lib.hid (HR.out.next hb)
  have HM1 := HM.out.next hb
  have HB1 := Lib.hid (HB.out.trans (hb.mono HB.out.size))
  have k0 := HM1.c0; have k1 := HM1.c1
  have d0 := HR1.out.c0; have d1 := HR1.out.c1; have d2 := HR1.out.f0; have d3 := HR1.out.f1
  obtain ⟨u0, u1⟩ : _ ∧ _ := ⟨(HR1.out.put (some ⟨b, 0, none⟩) size).c0, (HR1.out.put (some ⟨b, 0, none⟩) size).c1⟩
  clear hb HM1
  go_wp2_with fail
  refine bodyPost_ret (v := .tuple #[.agg #[.pointer (some ⟨b, 0, none⟩), .int .i64 size], .int .i64 0]) (by simp [results, Try.results38, go_sem, u0, u1]) rfl ?_
  exact ⟨rfl, below_put HB1.out (B := W.heap.size + 1) (by omega) (.pointer (some ⟨b, 0, none⟩)) (.int .i64 size)⟩
set_option maxHeartbeats 2000000 in
theorem Set_ok {f : Int → Int} {size lo hi tag : Int} {W : World} {p : Option Addr} (h : IsM f size W p) (her : errOf size lo hi [tag] = 0) (hne : lo ≠ hi) :
    Calls Try.prog 38 #[.agg #[.pointer p, .int .i64 size], .int .i64 lo, .int .i64 hi, .int .i64 tag] W fun e w' => ∃ q s e2, e = .returned (.tuple #[.agg #[.pointer q, .int .i64 s], .int .i64 e2]) ∧ Hid (Upd f (put f lo hi tag) size 0 q s e2 w') ∧ Below W.heap.size W w' := by
  obtain ⟨r1, r2, r3, r4⟩ := errOf_zero her
  obtain ⟨r5, r6⟩ := r4 tag (by simp)
  have hlo := h.lo
  have hhi := h.hi
  have htr := h.tr
  have hcx := h.ctx
  have hpx : Ctx (put f lo hi tag) 0 size := put_ctx hcx r5 r6
  obtain ⟨b, rfl⟩ := h.some
  obtain ⟨w0, HW, hm, hr, hc, hlt, hb⟩ := boxes3 W (some ⟨b, 0, none⟩) size 27 #[.int .i64 tag] 3
  have HCK : Hid (Calls Try.prog 46 #[.agg #[.pointer (some ⟨b, 0, none⟩), .int .i64 size], .int .i64 lo, .int .i64 hi, .slice (some ⟨W.heap.size + 1 + 1, 0, none⟩) 1 1] w0 fun e w' => e = .returned (.int .i64 (errOf size lo hi [tag])) ∧ Below w0.heap.size w0 w') :=
    check_any b (W.heap.size + 1 + 1) 1 size lo hi [tag] w0 hlt (fun i hi => by
      have : i = 0 := by simp at hi; exact hi
      subst this
      exact hc 0 _ rfl) (by simp)
  rw [her] at HCK
  have HCT : Hid (∀ W', Below W.heap.size W W' → Calls Try.prog 66 #[.agg #[.pointer (some ⟨b, 0, none⟩), .int .i64 size], .int .i64 lo, .int .i64 hi] W' fun e w' => ∃ x y z, e = .returned (.tuple #[.pointer x, .pointer y, .pointer z]) ∧ Hid (Tr f 0 lo 4096 w' x) ∧ Hid (Tr f lo hi 4096 w' y) ∧ Hid (Tr f hi size 4096 w' z) ∧ Below W'.heap.size W' w') := fun W' hb => cut_any (htr.below hb) hcx (by omega) r1 r2 r3
  have HGL : Hid (∀ x z W', Tr f 0 lo 4096 W' x → Tr f hi size 4096 W' z → Calls Try.prog 68 #[.pointer x, .agg #[.int .i64 lo, .int .i64 hi, .int .i64 tag], .pointer z] W' fun e w' => ∃ g, e = .returned (.pointer (some ⟨g, 0, none⟩)) ∧ Hid (Tr (put f lo hi tag) 0 size 8193 w' (some ⟨g, 0, none⟩)) ∧ Below W'.heap.size W' w') := fun x z W' hx hz =>
    Tr.glue (n := 4096) (m := 4096) (hx.congr fun y y1 y2 => by simp only [put]; rw [if_neg (by omega)]) (hz.congr fun y y1 y2 => by simp only [put]; rw [if_neg (by omega)]) hpx (by omega) (by omega) (fun y y1 y2 => by simp only [put]; rw [if_pos ⟨y1, y2⟩])
  have HWI : Hid (∀ g W', Tr (put f lo hi tag) 0 size 8193 W' (some ⟨g, 0, none⟩) → Calls Try.prog 67 #[.agg #[.pointer (some ⟨b, 0, none⟩), .int .i64 size], .pointer (some ⟨g, 0, none⟩)] W' fun e w' => ∃ q s e2, e = .returned (.tuple #[.agg #[.pointer q, .int .i64 s], .int .i64 e2]) ∧ Hid (Upd f (put f lo hi tag) size 0 q s e2 w') ∧ Below W'.heap.size W' w') := fun g W' hg => with_any hg hpx hlo (by omega)
  have HM := Lib.hid hm; have HR := Lib.hid hr; have HB := Lib.hid hb; have HW' := Lib.hid HW
  have hlb : (lo == hi) = false := beq_eq_false_iff_ne.2 hne
  clear hm hr hb HW hc hlt h her hne r1 r2 r3 r4 r5 r6 hlo hhi htr hcx hpx
  go_enter Try.func38, Try.ntmps38
  go_wp2_with fail
  rw [← HW'.out]
  refine HCK.out.mono ?_
  rintro e w1 ⟨rfl, hb⟩
  have HR1 := Lib.hid (HR.out.next hb)
  have HM1 := Lib.hid (HM.out.next hb)
  have HB1 := Lib.hid (HB.out.trans (hb.mono HB.out.size))
  have k0 := HM1.out.c0; have k1 := HM1.out.c1
  clear hb
  go_wp2_with fail
  refine (HCT.out _ HB1.out).mono ?_
  rintro e w2 ⟨x, y, z, rfl, HX, HY, HZ, hb⟩
  have HR2 := Lib.hid (HR1.out.next hb)
  have HM2 := Lib.hid (HM1.out.next hb)
  have HB2 := Lib.hid (HB1.out.trans (hb.mono HB1.out.size))
  clear hb k0 k1
  have HRR : Hid (∀ W', Below w2.heap.size w2 W' → Mb (W.heap.size + 1) none 0 W') := fun W' h => HR2.out.next h
  have HALL : Hid (∀ W', Below w2.heap.size w2 W' → W'.cell? ⟨W.heap.size, 0, none⟩ = some (.pointer (some ⟨b, 0, none⟩)) ∧ W'.cell? ⟨W.heap.size, 1, none⟩ = some (.int .i64 size)) := fun W' h => ⟨(HM2.out.next h).c0, (HM2.out.next h).c1⟩
  have HST : Hid (∀ W' u v, Below w2.heap.size w2 W' → ((W'.setCell ⟨W.heap.size + 1, 0, none⟩ u).setCell ⟨W.heap.size + 1, 1, none⟩ v).cell? ⟨W.heap.size, 0, none⟩ = some (.pointer (some ⟨b, 0, none⟩)) ∧ ((W'.setCell ⟨W.heap.size + 1, 0, none⟩ u).setCell ⟨W.heap.size + 1, 1, none⟩ v).cell? ⟨W.heap.size, 1, none⟩ = some (.int .i64 size)) := fun W' u v h => ⟨((HM2.out.next h).other (by omega) u v).c0, ((HM2.out.next h).other (by omega) u v).c1⟩
  have HGL2 : Hid (∀ W', Below w2.heap.size w2 W' → Calls Try.prog 68 #[.pointer x, .agg #[.int .i64 lo, .int .i64 hi, .int .i64 tag], .pointer z] W' fun e w' => ∃ g, e = .returned (.pointer (some ⟨g, 0, none⟩)) ∧ Hid (Tr (put f lo hi tag) 0 size 8193 w' (some ⟨g, 0, none⟩)) ∧ Below w2.heap.size w2 w') := fun W' h => (HGL.out x z W' (HX.out.below h) (HZ.out.below h)).mono fun e w' ⟨g, he, ht, hB⟩ => ⟨g, he, ht, h.trans (hB.mono h.size)⟩
  have HWI2 : Hid (∀ g W', Below w2.heap.size w2 W' → Hid (Tr (put f lo hi tag) 0 size 8193 W' (some ⟨g, 0, none⟩)) → Calls Try.prog 67 #[.agg #[.pointer (some ⟨b, 0, none⟩), .int .i64 size], .pointer (some ⟨g, 0, none⟩)] W' fun e w' => ∃ q s e2, e = .returned (.tuple #[.agg #[.pointer q, .int .i64 s], .int .i64 e2]) ∧ Hid (Upd f (put f lo hi tag) size 0 q s e2 w') ∧ Below w2.heap.size w2 w') := fun g W' h ht => (HWI.out g W' ht.out).mono fun e w' ⟨q, s, e2, he, hu, hB⟩ => ⟨q, s, e2, he, hu, h.trans (hB.mono h.size)⟩
  have hs : Below w2.heap.size w2 w2 := Below.refl _ _
  have hs2 := hs.drew
  have hcl := HALL.out _ hs2
  have hc0 := HALL.out _ hs
  go_wp2_with fail
  go_region_held3 (fun W' : World => W'.cell? ⟨W.heap.size, 0, none⟩ = some (.pointer (some ⟨b, 0, none⟩)) ∧ W'.cell? ⟨W.heap.size, 1, none⟩ = some (.int .i64 size)) (first | assumption | (with_reducible exact HST.out _ _ _ (by assumption)) | fail) (first
    | (go_at_call 68; with_reducible refine (HGL2.out _ ?h).mono ?_; (case h => assumption); rintro e w' ⟨g, rfl, hgt, hs1'⟩; have hc1' := HALL.out _ hs1')
    | (go_at_call 67; with_reducible refine (HWI2.out _ _ ?h ?r).mono ?_; (case h => assumption); (case r => assumption); rintro e w' ⟨q, s, e2, rfl, hu, hs2'⟩; have hc2' := HALL.out _ hs2'; have hr' := HRR.out _ hs2'; have r0 := hr'.c0; have r1 := hr'.c1; have r2 := hr'.f0; have r3 := hr'.f1; have hp' := hr'.put q s; have v0 := hp'.c0; have v1 := hp'.c1) | fail)
  all_goals
    have HBF := Lib.hid (below_put (HB2.out.trans (hs2'.mono HB2.out.size)) (B := W.heap.size + 1) (by omega) (.pointer q) (.int .i64 s))
    have HUF := Lib.hid (hr'.upd hu.out (.pointer q) (.int .i64 s))
    clear hs hs2 hcl hc0 hs1' hc1' hs2' hc2' r0 r1 r2 r3 hp' hr' hu
    go_wp2_with fail
    refine bodyPost_ret (v := .tuple #[.agg #[.pointer q, .int .i64 s], .int .i64 e2]) (by simp [results, Try.results38, go_sem, v0, v1]) rfl ?_
    exact ⟨q, s, e2, rfl, HUF.out, HBF.out⟩
/-- Set, of a usable map -/
theorem Set_any {f : Int → Int} {size lo hi tag : Int} {W : World} {p : Option Addr} (h : IsM f size W p) :
    Calls Try.prog 38 #[.agg #[.pointer p, .int .i64 size], .int .i64 lo, .int .i64 hi, .int .i64 tag] W fun e w' => ∃ q s e2, e = .returned (.tuple #[.agg #[.pointer q, .int .i64 s], .int .i64 e2]) ∧ Hid (Upd f (put f lo hi tag) size (errOf size lo hi [tag]) q s e2 w') ∧ Below W.heap.size W w' := by
  by_cases her : errOf size lo hi [tag] = 0
  · by_cases hne : lo = hi
    · subst hne
      refine (Set_none h her).mono ?_
      rintro e w' ⟨rfl, hB⟩
      refine ⟨p, size, 0, rfl, ?_, hB⟩
      rw [her]
      exact Upd.same ((h.below hB).congr fun x => by simp only [put]; rw [if_neg (by omega)])
    · have := Set_ok h her hne
      rw [her]
      exact this
  · refine (Set_err h her).mono ?_
    rintro e w' ⟨rfl, hB⟩
    exact ⟨none, 0, _, rfl, .inl ⟨her, rfl, rfl, rfl⟩, hB⟩
end Go.Proofs.Ytjbenhmpeceaeaa
namespace Go.Proofs.Ytjbenhmpeceaeaa
open Go Go.RowKit Gs

theorem build_empty (a : Option Addr) (c : Nat) (W : World) : Calls Try.prog 56 #[.slice a 0 c] W fun e w' => e = .returned (.pointer none) ∧ W = w' := by
  go_enter Try.func56, Try.ntmps56
  go_wp2_with fail
  go_ret
  exact ⟨rfl, rfl⟩
set_option maxHeartbeats 1000000 in
theorem build_one (B : Nat) (size : Int) (W : World) (h1 : 1 ≤ size) (h2 : size ≤ 1099511627776) (hB : B < W.heap.size) (c0 : W.cell? ⟨B, 0, none⟩ = some (.int .i64 0)) (c1 : W.cell? ⟨B, 1, none⟩ = some (.int .i64 size)) (c2 : W.cell? ⟨B, 2, none⟩ = some (.int .i64 0)) :
    Calls Try.prog 56 #[.slice (some ⟨B, 0, none⟩) 1 1] W fun e w' => ∃ g, e = .returned (.pointer (some ⟨g, 0, none⟩)) ∧ Hid (IsT w' (.node .nil ⟨0, size, 0⟩ .nil) (.pointer (some ⟨g, 0, none⟩))) ∧ Below W.heap.size W w' := by
  have HBE := Lib.hid (fun a c W' => build_empty a c W')
  have HNN : Hid (∀ W', Below W.heap.size W W' → Calls Try.prog 74 #[.pointer none, .agg #[.int .i64 0, .int .i64 size, .int .i64 0], .pointer none] W' fun e w' => ∃ g, e = .returned (.pointer (some ⟨g, 0, none⟩)) ∧ Hid (IsT w' (.node .nil ⟨0, size, 0⟩ .nil) (.pointer (some ⟨g, 0, none⟩))) ∧ Below W.heap.size W w') := fun W' h =>
    (newNode_any .nil .nil 0 size 0 _ _ W' rfl rfl ⟨by simp [T.L], fun r hr => by
      simp only [T.L, List.nil_append, List.mem_singleton] at hr
      subst hr
      exact ⟨Int.le_refl 0, by show (0 : Int) < size; omega, h2, Int.le_refl 0, by show (0 : Int) < 16; omega⟩⟩).mono fun e w' ⟨g, he, ht, hB⟩ => ⟨g, he, ht, h.trans (hB.mono h.size)⟩
  have HALL : Hid (∀ W', Below W.heap.size W W' → W'.cell? ⟨B, 0, none⟩ = some (.int .i64 0) ∧ W'.cell? ⟨B, 1, none⟩ = some (.int .i64 size) ∧ W'.cell? ⟨B, 2, none⟩ = some (.int .i64 0)) := fun W' h => ⟨(h.cell (p := ⟨B, 0, none⟩) hB).trans c0, (h.cell (p := ⟨B, 1, none⟩) hB).trans c1, (h.cell (p := ⟨B, 2, none⟩) hB).trans c2⟩
  clear c0 c1 c2 h1 h2
  have hw1 : IntKind.i64.wrap ((0 : Int) + 1) = 1 := IntWalk.i64_in _ (by omega)
  have hw2 : IntKind.i64.wrap (1 : Int) = 1 := IntWalk.i64_in _ (by omega)
  have hs : Below W.heap.size W W := Below.refl _ _
  have hs2 := hs.drew
  have hcl := HALL.out _ hs2
  have hc0 := HALL.out _ hs
  go_enter Try.func56, Try.ntmps56
  go_wp2_with fail
  go_region_held3 (fun W' : World => W'.cell? ⟨B, 0, none⟩ = some (.int .i64 0) ∧ W'.cell? ⟨B, 1, none⟩ = some (.int .i64 size) ∧ W'.cell? ⟨B, 2, none⟩ = some (.int .i64 0)) (first | assumption | fail) (first
    | (go_at_call 56; with_reducible refine (HBE.out _ _ _).mono ?_; rintro e w' ⟨rfl, rfl⟩)
    | (go_at_call 74; with_reducible refine (HNN.out _ ?h).mono ?_; (case h => assumption); rintro e w' ⟨g, rfl, hgt, hs'⟩; have hc' := HALL.out _ hs') | fail)
  all_goals
    have HBF := Lib.hid hs'
    clear hs hs2 hcl hc0 hs' hc'
    go_wp2_with fail
    go_ret
    exact ⟨g, rfl, hgt, HBF.out⟩
set_option maxHeartbeats 1000000 in
theorem areRuns_one (B c : Nat) (size : Int) (W : World) (h1 : 1 ≤ size) (hB : B < W.heap.size) (c0 : W.cell? ⟨B, 0, none⟩ = some (.int .i64 0)) (c1 : W.cell? ⟨B, 1, none⟩ = some (.int .i64 size)) (c2 : W.cell? ⟨B, 2, none⟩ = some (.int .i64 0)) :
    Calls Try.prog 55 #[.int .i64 size, .slice (some ⟨B, 0, none⟩) 1 c] W fun e w' => e = .returned (.bool true) ∧ Below W.heap.size W w' := by
  have HTG : Hid (∀ W', Calls Try.prog 52 #[.int .i64 0] W' fun e w' => e = .returned (.bool true) ∧ W' = w') := fun W' => isTag_any 0 W'
  have HALL : Hid (∀ W', Below W.heap.size W W' → W'.cell? ⟨B, 0, none⟩ = some (.int .i64 0) ∧ W'.cell? ⟨B, 1, none⟩ = some (.int .i64 size) ∧ W'.cell? ⟨B, 2, none⟩ = some (.int .i64 0)) := fun W' h => ⟨(h.cell (p := ⟨B, 0, none⟩) hB).trans c0, (h.cell (p := ⟨B, 1, none⟩) hB).trans c1, (h.cell (p := ⟨B, 2, none⟩) hB).trans c2⟩
  clear c0 c1 c2
  have hle : ¬ size ≤ 0 := by omega
  have hm1 : ((0 : Int) == -1) = false := by decide
  go_enter Try.func55, Try.ntmps55
  go_wp2_with fail
  go_loopw [5, 6, 11] (fun s5 s6 s11 wr => ∃ j : Nat, j ≤ 1 ∧ s11 = .int .i64 j ∧ s5 = .int .i64 (if j = 0 then 0 else size) ∧ s6 = .int .i64 (if j = 0 then -1 else 0) ∧ Hid (Below W.heap.size W wr)) (fun _ _ i _ => 1 - (intOf i).toNat)
  case atStart => exact ⟨0, by omega, rfl, rfl, rfl, Below.refl _ _⟩
  case round =>
    obtain ⟨j, hj, rfl, rfl, rfl, HB⟩ := hrel
    have h01 : j = 0 ∨ j = 1 := by omega
    rcases h01 with rfl | rfl
    · obtain ⟨k0, k1, k2⟩ := HALL.out wr HB.out
      have hq : Bq wr 0 size 0 (wr.alloc (.cells #[.int .i64 0, .int .i64 size, .int .i64 0] 64)) := Bq.new _ _ _ _ _
      obtain ⟨w1, HW1⟩ : ∃ w1, w1 = wr.alloc (.cells #[.int .i64 0, .int .i64 size, .int .i64 0] 64) := ⟨_, rfl⟩
      rw [← HW1] at hq
      have HB1 : Hid (Below W.heap.size W w1) := HB.out.trans (hq.bel.mono HB.out.size)
      have q0 := hq.c0; have q1 := hq.c1; have q2 := hq.c2
      have HW := Lib.hid HW1
      clear HW1 hq
      go_wp2_with fail
      rw [← HW.out]
      refine (HTG.out _).mono ?_
      rintro e w2 ⟨rfl, rfl⟩
      go_wp2_with fail
      go_quiet (fail)
      go_wp2_with fail
      go_roundw
      case rel => exact ⟨1, by omega, by go_num, rfl, rfl, below_drewN HB1.out _⟩
      case measure => simp [intOf]
    · go_wp2_with fail
      go_ret
      exact ⟨rfl, HB.out⟩
set_option maxHeartbeats 1000000 in
theorem From_one (B : Nat) (size : Int) (W : World) (h1 : 1 ≤ size) (h2 : size ≤ 1099511627776) (hB : B < W.heap.size) (c0 : W.cell? ⟨B, 0, none⟩ = some (.int .i64 0)) (c1 : W.cell? ⟨B, 1, none⟩ = some (.int .i64 size)) (c2 : W.cell? ⟨B, 2, none⟩ = some (.int .i64 0)) :
    Calls Try.prog 27 #[.int .i64 size, .slice (some ⟨B, 0, none⟩) 1 1] W fun e w' => ∃ q, e = .returned (.tuple #[.agg #[.pointer q, .int .i64 size], .int .i64 0]) ∧ Hid (IsM (fun _ => 0) size w' q) ∧ Below W.heap.size W w' := by
  have HALL : Hid (∀ W', Below W.heap.size W W' → W'.cell? ⟨B, 0, none⟩ = some (.int .i64 0) ∧ W'.cell? ⟨B, 1, none⟩ = some (.int .i64 size) ∧ W'.cell? ⟨B, 2, none⟩ = some (.int .i64 0)) := fun W' h => ⟨(h.cell (p := ⟨B, 0, none⟩) hB).trans c0, (h.cell (p := ⟨B, 1, none⟩) hB).trans c1, (h.cell (p := ⟨B, 2, none⟩) hB).trans c2⟩
  obtain ⟨w0, HW⟩ : ∃ w0, w0 = W.alloc (.cells #[.pointer none, .int .i64 0] 27) := ⟨_, rfl⟩
  have hm : Mb W.heap.size none 0 w0 := by rw [HW]; exact Mb.new _ _ _ _
  have hb0 : Below W.heap.size W w0 := by rw [HW]; exact (Below.refl _ _).alloc (Nat.le_refl _) _
  have HAR : Hid (Calls Try.prog 55 #[.int .i64 size, .slice (some ⟨B, 0, none⟩) 1 1] w0 fun e w' => e = .returned (.bool true) ∧ Below w0.heap.size w0 w') := by
    obtain ⟨k0, k1, k2⟩ := HALL.out w0 hb0
    exact areRuns_one B 1 size w0 h1 (Nat.lt_of_lt_of_le hB hb0.size) k0 k1 k2
  have HBO : Hid (∀ W', Below W.heap.size W W' → Calls Try.prog 56 #[.slice (some ⟨B, 0, none⟩) 1 1] W' fun e w' => ∃ g, e = .returned (.pointer (some ⟨g, 0, none⟩)) ∧ Hid (IsT w' (.node .nil ⟨0, size, 0⟩ .nil) (.pointer (some ⟨g, 0, none⟩))) ∧ Below W'.heap.size W' w') := fun W' hb => by
    obtain ⟨k0, k1, k2⟩ := HALL.out W' hb
    exact build_one B size W' h1 h2 (Nat.lt_of_lt_of_le hB hb.size) k0 k1 k2
  have HIM : Hid (∀ w' q, IsT w' (.node .nil ⟨0, size, 0⟩ .nil) (.pointer q) → IsM (fun _ => 0) size w' q) := fun w' q h =>
    ⟨h1, ⟨Int.le_refl 0, h2, fun _ _ _ => ⟨Int.le_refl 0, by show (0 : Int) < 16; omega⟩⟩, .node .nil ⟨0, size, 0⟩ .nil, h, Gs.Can.one (f := fun _ => 0) (r := ⟨0, size, 0⟩) (by show (0 : Int) < size; omega) (fun _ _ _ => rfl), by simp [T.sz]⟩
  have HM := Lib.hid hm; have HB := Lib.hid hb0; have HW' := Lib.hid HW
  have q1 : ¬ size < 1 := by omega
  have q2 : ¬ size > 1099511627776 := by omega
  clear c0 c1 c2 hm hb0 HW h1 h2
  go_enter Try.func27, Try.ntmps27
  go_wp2_with fail
  rw [← HW'.out]
  refine HAR.out.mono ?_
  rintro e w1 ⟨rfl, hb⟩
  have HM1 := Lib.hid (HM.out.next hb)
  have HB1 := Lib.hid (HB.out.trans (hb.mono HB.out.size))
  clear hb
  go_wp2_with fail
  refine (HBO.out _ HB1.out).mono ?_
  rintro e w2 ⟨g, rfl, HT, hb⟩
  have HM2 := Lib.hid (HM1.out.next hb)
  have HB2 := Lib.hid (HB1.out.trans (hb.mono HB1.out.size))
  have d0 := HM2.out.c0; have d1 := HM2.out.c1; have d2 := HM2.out.f0; have d3 := HM2.out.f1
  obtain ⟨u0, u1⟩ : _ ∧ _ := ⟨(HM2.out.put (some ⟨g, 0, none⟩) size).c0, (HM2.out.put (some ⟨g, 0, none⟩) size).c1⟩
  clear hb
  go_wp2_with fail
  refine bodyPost_ret (v := .tuple #[.agg #[.pointer (some ⟨g, 0, none⟩), .int .i64 size], .int .i64 0]) (by simp [results, Try.results27, go_sem, u0, u1]) rfl ?_
  have hi := HIM.out w2 _ HT.out
  exact ⟨_, rfl, ⟨hi.lo, hi.ctx, HM2.out.tr hi.tr _ _⟩, below_put HB2.out (B := W.heap.size) (Nat.le_refl _) (.pointer (some ⟨g, 0, none⟩)) (.int .i64 size)⟩
theorem From_bad (a : Option Addr) (n c : Nat) (size : Int) (W : World) (h : size < 1 ∨ size > 1099511627776) :
    Calls Try.prog 27 #[.int .i64 size, .slice a n c] W fun e w' => e = .returned (.tuple #[.agg #[.pointer none, .int .i64 0], .int .i64 2]) ∧ Below W.heap.size W w' := by
  have HB : Hid (Below W.heap.size W (W.alloc (.cells #[.pointer none, .int .i64 0] 27))) := (Below.refl _ _).alloc (Nat.le_refl _) _
  by_cases h1 : size < 1
  · clear h
    go_enter Try.func27, Try.ntmps27
    go_wp2_with fail
    refine bodyPost_ret (v := .tuple #[.agg #[.pointer none, .int .i64 0], .int .i64 2]) (by simp [results, Try.results27, go_sem]) rfl ?_
    exact ⟨rfl, HB.out⟩
  · have h2 : size > 1099511627776 := by omega
    clear h
    go_enter Try.func27, Try.ntmps27
    go_wp2_with fail
    refine bodyPost_ret (v := .tuple #[.agg #[.pointer none, .int .i64 0], .int .i64 2]) (by simp [results, Try.results27, go_sem]) rfl ?_
    exact ⟨rfl, HB.out⟩
set_option maxHeartbeats 1000000 in
/-- New: a map, all of whose pieces have the tag 0, or ErrArg -/
theorem New_any (size : Int) (W : World) : Calls Try.prog 13 #[.int .i64 size] W fun e w' => ∃ q s e2, e = .returned (.tuple #[.agg #[.pointer q, .int .i64 s], .int .i64 e2]) ∧ Hid ((e2 = 0 ∧ s = size ∧ IsM (fun _ => 0) size w' q) ∨ (e2 = 2 ∧ q = none ∧ s = 0 ∧ (size < 1 ∨ 1099511627776 < size))) ∧ Below W.heap.size W w' := by
  obtain ⟨w0, HW⟩ : ∃ w0, w0 = (W.alloc (.cells #[.pointer none, .int .i64 0] 27)).alloc (.cells #[.int .i64 0, .int .i64 size, .int .i64 0] 64) := ⟨_, rfl⟩
  have hm1 := Mb.new W none 0 27
  have hm : Mb W.heap.size none 0 w0 := by rw [HW]; exact hm1.next ((Below.refl _ _).alloc (Nat.le_refl _) _)
  have hb0 : Below W.heap.size W w0 := by rw [HW]; exact ((Below.refl _ _).alloc (Nat.le_refl _) _).alloc (by simp) _
  have hlt : W.heap.size + 1 < w0.heap.size := by rw [HW]; simp
  have c0 : w0.cell? ⟨W.heap.size + 1, 0, none⟩ = some (.int .i64 0) := by rw [HW]; exact World.cell?_alloc_at _ _ _ _ (by simp)
  have c1 : w0.cell? ⟨W.heap.size + 1, 1, none⟩ = some (.int .i64 size) := by rw [HW]; exact World.cell?_alloc_at _ _ _ _ (by simp)
  have c2 : w0.cell? ⟨W.heap.size + 1, 2, none⟩ = some (.int .i64 0) := by rw [HW]; exact World.cell?_alloc_at _ _ _ _ (by simp)
  have HFR : Hid (Calls Try.prog 27 #[.int .i64 size, .slice (some ⟨W.heap.size + 1, 0, none⟩) 1 1] w0 fun e w' => ∃ q s e2, e = .returned (.tuple #[.agg #[.pointer q, .int .i64 s], .int .i64 e2]) ∧ Hid ((e2 = 0 ∧ s = size ∧ IsM (fun _ => 0) size w' q) ∨ (e2 = 2 ∧ q = none ∧ s = 0 ∧ (size < 1 ∨ 1099511627776 < size))) ∧ Below w0.heap.size w0 w') := by
    by_cases h : size < 1 ∨ size > 1099511627776
    · refine (From_bad _ 1 1 size w0 h).mono ?_
      rintro e w' ⟨rfl, hB⟩
      exact ⟨none, 0, 2, rfl, .inr ⟨rfl, rfl, rfl, h⟩, hB⟩
    · refine (From_one (W.heap.size + 1) size w0 (by omega) (by omega) hlt c0 c1 c2).mono ?_
      rintro e w' ⟨q, rfl, hq, hB⟩
      exact ⟨q, size, 0, rfl, .inl ⟨rfl, rfl, hq.out⟩, hB⟩
  have HM := Lib.hid hm; have HB := Lib.hid hb0; have HW' := Lib.hid HW
  clear hm1 hm hb0 hlt c0 c1 c2 HW
  go_enter Try.func13, Try.ntmps13
  go_wp2_with fail
  rw [← HW'.out]
  refine HFR.out.mono ?_
  rintro e w1 ⟨q, s, e2, rfl, HQ, hb⟩
  have HM1 := Lib.hid (HM.out.next hb)
  have HB1 := Lib.hid (HB.out.trans (hb.mono HB.out.size))
  have d0 := HM1.out.c0; have d1 := HM1.out.c1; have d2 := HM1.out.f0; have d3 := HM1.out.f1
  obtain ⟨u0, u1⟩ : _ ∧ _ := ⟨(HM1.out.put q s).c0, (HM1.out.put q s).c1⟩
  clear hb
  go_wp2_with fail
  refine bodyPost_ret (v := .tuple #[.agg #[.pointer q, .int .i64 s], .int .i64 e2]) (by simp [results, Try.results13, go_sem, u0, u1]) rfl ?_
  refine ⟨q, s, e2, rfl, ?_, below_put HB1.out (B := W.heap.size) (Nat.le_refl _) (.pointer q) (.int .i64 s)⟩
  rcases HQ.out with ⟨h1, h2, h3⟩ | h
  · exact .inl ⟨h1, h2, h3.lo, h3.ctx, HM1.out.tr h3.tr _ _⟩
  · exact .inr h
end Go.Proofs.Ytjbenhmpeceaeaa
namespace Go.Proofs.Ytjbenhmpeceaeaa
open Go Go.RowKit Gs

theorem Size_any (p : Option Addr) (size : Int) (W : World) : Calls Try.prog 40 #[.agg #[.pointer p, .int .i64 size]] W fun e w' => e = .returned (.int .i64 size) ∧ Below W.heap.size W w' := by
  have HB : Hid (∀ o, Below W.heap.size W (W.alloc o)) := fun o => (Below.refl _ _).alloc (Nat.le_refl _) _
  go_enter Try.func40, Try.ntmps40
  go_wp2_with fail
  go_ret
  exact ⟨rfl, HB.out _⟩
theorem Len_any {f : Int → Int} {size s : Int} {n : Nat} {W : World} {p : Option Addr} (h : Tr f 0 size n W p) : ∃ L, Gs.Can f 0 L size ∧ L.length ≤ n ∧ Calls Try.prog 41 #[.agg #[.pointer p, .int .i64 s]] W fun e w' => e = .returned (.int .i64 L.length) ∧ Below W.heap.size W w' := by
  obtain ⟨t, t1, t2, t3⟩ := h
  refine ⟨t.L, t2, by rw [← T.sz_eq]; exact t3, ?_⟩
  have HB : Hid (∀ o, Below W.heap.size W (W.alloc o)) := fun o => (Below.refl _ _).alloc (Nat.le_refl _) _
  have HLN : Hid (∀ o, Calls Try.prog 71 #[.pointer p] (W.alloc o) fun e w' => e = .returned (.int .i64 t.sz) ∧ W.alloc o = w') := fun o => len_any t _ _ (IsT.below ((Below.refl _ _).alloc (Nat.le_refl _) _) t1)
  have HE : Hid (t.sz = t.L.length) := t.sz_eq
  clear t1 t2 t3
  generalize t.L.length = n2 at *
  generalize t.sz = n1 at *
  go_enter Try.func41, Try.ntmps41
  go_wp2_with fail
  refine (HLN.out _).mono ?_
  rintro e w1 ⟨rfl, rfl⟩
  go_wp2_with fail
  go_ret
  exact ⟨by rw [← HE.out]; rfl, HB.out _⟩
theorem few_any (a : Option Addr) (n c : Nat) (W : World) : Calls Try.prog 11 #[.slice a n c] W fun e w' => e = .returned (.bool (decide (n ≤ 60))) ∧ W = w' := by
  by_cases h : n ≤ 60
  · have h1 : (n : Int) ≤ 60 := by omega
    have HE : Hid (decide (n ≤ 60) = true) := decide_eq_true h
    clear h
    generalize decide (n ≤ 60) = d at *
    go_enter Try.func11, Try.ntmps11
    go_wp2_with fail
    go_ret
    exact ⟨by rw [HE.out]; rfl, rfl⟩
  · have h1 : ¬ (n : Int) ≤ 60 := by omega
    have HE : Hid (decide (n ≤ 60) = false) := decide_eq_false h
    clear h
    generalize decide (n ≤ 60) = d at *
    go_enter Try.func11, Try.ntmps11
    go_wp2_with fail
    go_ret
    exact ⟨by rw [HE.out]; rfl, rfl⟩
/-- the map of awake -/
def fA : Int → Int := put (fun _ => 0) 2 5 1
def LA : List R := [⟨0, 2, 0⟩, ⟨2, 5, 1⟩, ⟨5, 10, 0⟩]
theorem can_A : Gs.Can fA 0 LA 10 := by
  refine ⟨⟨rfl, by decide, fun p h1 h2 => ?_, rfl, by decide, fun p h1 h2 => ?_, rfl, by decide, fun p h1 h2 => ?_, rfl⟩, by decide, by decide, trivial⟩
  · have h2 : p < 2 := h2
    show (if 2 ≤ p ∧ p < 5 then (1 : Int) else 0) = 0
    rw [if_neg (by omega)]
  · have h1 : 2 ≤ p := h1
    have h2 : p < 5 := h2
    show (if 2 ≤ p ∧ p < 5 then (1 : Int) else 0) = 1
    rw [if_pos ⟨h1, h2⟩]
  · have h1 : 5 ≤ p := h1
    show (if 2 ≤ p ∧ p < 5 then (1 : Int) else 0) = 0
    rw [if_neg (by omega)]
theorem find_A {x : Int} (h0 : 0 ≤ x) (h1 : x < 10) (hf : fA x = 1) (hc : cb x 1 LA = 2) : x = 4 := by
  have : x = 0 ∨ x = 1 ∨ x = 2 ∨ x = 3 ∨ x = 4 ∨ x = 5 ∨ x = 6 ∨ x = 7 ∨ x = 8 ∨ x = 9 := by omega
  rcases this with rfl | rfl | rfl | rfl | rfl | rfl | rfl | rfl | rfl | rfl <;> first | rfl | (revert hf hc; decide)
set_option maxHeartbeats 2000000 in
theorem awake_any (W : World) : Calls Try.prog 12 #[] W fun e w' => e = .returned (.bool true) ∧ Below W.heap.size W w' := by
  have HN := Lib.hid (New_any 10 W)
  go_enter Try.func12, Try.ntmps12
  go_wp2_with fail
  refine HN.out.mono ?_
  rintro e w1 ⟨q, s, e2, rfl, HQ, hb⟩
  have HB1 := Lib.hid hb
  clear hb
  rcases HQ.out with ⟨rfl, rfl, hq⟩ | ⟨_, _, _, h⟩
  · have HI := Lib.hid hq
    clear hq
    obtain ⟨w2, HW2⟩ : ∃ w2, w2 = w1.alloc (.cells #[.pointer q, .int .i64 10] 27) := ⟨_, rfl⟩
    have hb2 : Below w1.heap.size w1 w2 := by rw [HW2]; exact (Below.refl _ _).alloc (Nat.le_refl _) _
    have HB2 := Lib.hid (HB1.out.trans (hb2.mono HB1.out.size))
    have HS := Lib.hid (Set_any (lo := 2) (hi := 5) (tag := 1) (HI.out.below hb2))
    have HW := Lib.hid HW2
    clear hb2 HW2
    go_wp2_with fail
    rw [← HW.out]
    refine HS.out.mono ?_
    rintro e w3 ⟨q2, s2, e3, rfl, HU, hb⟩
    have HB3 := Lib.hid (HB2.out.trans (hb.mono HB2.out.size))
    clear hb HW
    rcases HU.out with ⟨h, _⟩ | ⟨_, _, _, _, L, hL, hlen⟩ | ⟨_, rfl, rfl, hq⟩
    · exact absurd (by decide) h
    · have := Gs.Can.same hL can_A
      subst this
      exact absurd hlen (by decide)
    · obtain ⟨w4, HW4⟩ : ∃ w4, w4 = w3.alloc (.cells #[.pointer q2, .int .i64 10] 27) := ⟨_, rfl⟩
      have hm4 : Mb w3.heap.size q2 10 w4 := by rw [HW4]; exact Mb.new _ _ _ _
      have hb4 : Below w3.heap.size w3 w4 := by rw [HW4]; exact (Below.refl _ _).alloc (Nat.le_refl _) _
      have HB4 := Lib.hid (HB3.out.trans (hb4.mono HB3.out.size))
      have HI4 := Lib.hid (hq.below hb4)
      have HM4 := Lib.hid hm4
      have HW := Lib.hid HW4
      obtain ⟨L, hL, hcount⟩ := Count_ok (k := 1) (lo := 0) (hi := 4) HI4.out (by decide) (by decide) (by decide) (by decide)
      have e := Gs.Can.same hL can_A
      subst e
      have HC : Hid (Calls Try.prog 22 #[.agg #[.pointer q2, .int .i64 10], .int .i64 0, .int .i64 4, .int .i64 1] w4 fun e w' => e = .returned (.tuple #[.int .i64 2, .int .i64 0]) ∧ Below w4.heap.size w4 w') := hcount
      clear hL hcount hq hm4 hb4 HW4
      go_wp2_with fail
      rw [← HW.out]
      refine HC.out.mono ?_
      rintro e w5 ⟨rfl, hb⟩
      have HB5 := Lib.hid (HB4.out.trans (hb.mono HB4.out.size))
      have HI5 := Lib.hid (HI4.out.below hb)
      have HM5 := Lib.hid (HM4.out.next hb)
      obtain ⟨L, hL, hfind⟩ := Find_any (tag := 1) (k := 2) HI5.out
      have e := Gs.Can.same hL can_A
      subst e
      have HF := Lib.hid hfind
      have k0 := HM5.out.c0; have k1 := HM5.out.c1
      clear hb hL hfind
      go_wp2_with fail
      refine HF.out.mono ?_
      rintro e w6 ⟨x, is, rfl, HX, hb⟩
      have HB6 := Lib.hid (HB5.out.trans (hb.mono HB5.out.size))
      have HI6 := Lib.hid (HI5.out.below hb)
      have HM6 := Lib.hid (HM5.out.next hb)
      obtain ⟨L, hL, _, hlen⟩ := Len_any (s := 10) HI6.out.tr
      have e := Gs.Can.same hL can_A
      subst e
      have HL : Hid (Calls Try.prog 41 #[.agg #[.pointer q2, .int .i64 10]] w6 fun e w' => e = .returned (.int .i64 3) ∧ Below w6.heap.size w6 w') := hlen
      clear hb hL hlen k0 k1
      have k0 := HM6.out.c0; have k1 := HM6.out.c1
      rcases HX.out with ⟨rfl, _, _, _, h1, h2, h3, h4⟩ | ⟨_, _, h⟩
      · obtain rfl := find_A h1 h2 h3 h4
        clear h1 h2 h3 h4
        go_wp2_with fail
        refine HL.out.mono ?_
        rintro e w7 ⟨rfl, hb⟩
        have HB7 := Lib.hid (HB6.out.trans (hb.mono HB6.out.size))
        clear hb k0 k1
        go_wp2_with fail
        go_ret
        exact ⟨rfl, HB7.out⟩
      · exfalso
        rcases h with h | h | h
        · exact absurd h (by decide)
        · exact absurd h (by decide)
        · exact absurd h (by decide)
  · omega
end Go.Proofs.Ytjbenhmpeceaeaa
namespace Go.Proofs.Ytjbenhmpeceaeaa
open Go Go.RowKit Gs

/-- what ref.New answers -/
def RNP (size : Int) (B : Nat) (s : Int) (v : Value) (e : Int) (W : World) : Prop :=
  (e = 0 ∧ s = size ∧ 1 ≤ size ∧ size ≤ 1099511627776 ∧ IsRs B W v [⟨0, size, 0⟩]) ∨ (e = 2 ∧ s = 0 ∧ v = .slice none 0 0 ∧ (size < 1 ∨ 1099511627776 < size))
set_option maxHeartbeats 1000000 in
/-- ref.New: the map with one run, or ErrArg -/
theorem RNew_any (size : Int) (W : World) : Calls Try.prog 14 #[.int .i64 size] W fun e w' => ∃ s v e2, e = .returned (.tuple #[.agg #[.int .i64 s, v], .int .i64 e2]) ∧ Hid (RNP size W.heap.size s v e2 w') ∧ Below W.heap.size W w' := by
  obtain ⟨w0, HW⟩ : ∃ w0, w0 = W.alloc (.cells #[.int .i64 0, .slice none 0 0] 33) := ⟨_, rfl⟩
  have hr : M2 W.heap.size (.int .i64 0) (.slice none 0 0) w0 := by rw [HW]; exact M2.new _ _ _ _
  have hb : Below W.heap.size W w0 := by rw [HW]; exact (Below.refl _ _).alloc (Nat.le_refl _) _
  have HR := Lib.hid hr; have HB := Lib.hid hb; have HW' := Lib.hid HW
  have d0 := HR.out.c0; have d1 := HR.out.c1; have d2 := HR.out.f0; have d3 := HR.out.f1
  by_cases h1 : size < 1
  · obtain ⟨u0, u1⟩ : _ ∧ _ := ⟨(HR.out.put (.int .i64 0) (.slice none 0 0)).c0, (HR.out.put (.int .i64 0) (.slice none 0 0)).c1⟩
    clear hr hb HW
    go_enter Try.func14, Try.ntmps14
    go_upto_region 1 with fail
    rw [← HW'.out]
    go_wp2_with fail
    refine bodyPost_ret (v := .tuple #[.agg #[.int .i64 0, .slice none 0 0], .int .i64 2]) (by simp [results, Try.results14, go_sem, u0, u1]) rfl ?_
    have HBF := below_put HB.out (B := W.heap.size) (Nat.le_refl _) (.int .i64 0) (.slice none 0 0)
    have HRN : ∀ W', RNP size W.heap.size 0 (.slice none 0 0) 2 W' := fun W' => Or.inr ⟨rfl, rfl, rfl, .inl h1⟩
    first
    | exact ⟨0, _, 2, rfl, HRN _, HB.out⟩
    | exact ⟨0, _, 2, rfl, HRN _, HBF⟩
  · by_cases h2 : size > 1099511627776
    · obtain ⟨u0, u1⟩ : _ ∧ _ := ⟨(HR.out.put (.int .i64 0) (.slice none 0 0)).c0, (HR.out.put (.int .i64 0) (.slice none 0 0)).c1⟩
      clear hr hb HW
      go_enter Try.func14, Try.ntmps14
      go_upto_region 1 with fail
      rw [← HW'.out]
      go_wp2_with fail
      refine bodyPost_ret (v := .tuple #[.agg #[.int .i64 0, .slice none 0 0], .int .i64 2]) (by simp [results, Try.results14, go_sem, u0, u1]) rfl ?_
      have HBF := below_put HB.out (B := W.heap.size) (Nat.le_refl _) (.int .i64 0) (.slice none 0 0)
      have HRN : ∀ W', RNP size W.heap.size 0 (.slice none 0 0) 2 W' := fun W' => Or.inr ⟨rfl, rfl, rfl, .inr h2⟩
      first
      | exact ⟨0, _, 2, rfl, HRN _, HB.out⟩
      | exact ⟨0, _, 2, rfl, HRN _, HBF⟩
    · clear hr hb HW HR HB HW' d0 d1 d2 d3
      obtain ⟨w1, HW1⟩ : ∃ w1, w1 = W.alloc (.cells #[.int .i64 size, .slice (some ⟨W.heap.size + 1, 0, none⟩) 1 1] 33) := ⟨_, rfl⟩
      obtain ⟨w2, HW2⟩ : ∃ w2, w2 = w1.alloc (.cells #[.int .i64 0, .int .i64 size, .int .i64 0] 64) := ⟨_, rfl⟩
      have b1 : Below W.heap.size W w1 := by rw [HW1]; exact (Below.refl _ _).alloc (Nat.le_refl _) _
      have b2 : Below w1.heap.size w1 w2 := by rw [HW2]; exact (Below.refl _ _).alloc (Nat.le_refl _) _
      have s1 : w1.heap.size = W.heap.size + 1 := by rw [HW1]; simp
      have hm : M2 W.heap.size (.int .i64 size) (.slice (some ⟨W.heap.size + 1, 0, none⟩) 1 1) w2 := by
        have : M2 W.heap.size (.int .i64 size) (.slice (some ⟨W.heap.size + 1, 0, none⟩) 1 1) w1 := by rw [HW1]; exact M2.new _ _ _ _
        exact this.next b2
      have hrb : Rb w2 w1.heap.size ⟨0, size, 0⟩ := by rw [HW2]; exact Rb.new w1 ⟨0, size, 0⟩
      rw [s1] at hrb
      have hrs : IsRs W.heap.size w2 (.slice (some ⟨W.heap.size + 1, 0, none⟩) 1 1) [⟨0, size, 0⟩] := by
        obtain ⟨c0, c1, c2⟩ := hrb.cells
        refine ⟨_, 1, rfl, fun _ => ⟨W.heap.size + 1, rfl, ⟨by omega, hrb.lt⟩, fun j hj => ?_⟩⟩
        obtain rfl : j = 0 := by simp at hj; exact hj
        exact ⟨c0, c1, c2⟩
      have HRN : Hid (RNP size W.heap.size size (.slice (some ⟨W.heap.size + 1, 0, none⟩) 1 1) 0 w2) := Or.inl ⟨rfl, rfl, by omega, by omega, hrs⟩
      have HB2 := Lib.hid (b1.trans (b2.mono b1.size))
      have u0 := hm.c0; have u1 := hm.c1
      rw [HW1] at HW2
      have HW2' := Lib.hid HW2
      clear HW1 HW2 b1 b2 s1 hm hrb hrs
      go_enter Try.func14, Try.ntmps14
      go_wp2_with fail
      rw [← HW2'.out]
      refine bodyPost_ret (v := .tuple #[.agg #[.int .i64 size, .slice (some ⟨W.heap.size + 1, 0, none⟩) 1 1], .int .i64 0]) (by simp [results, Try.results14, go_sem, u0, u1]) rfl ?_
      exact ⟨size, _, 0, rfl, HRN.out, HB2.out⟩
set_option maxHeartbeats 1000000 in
/-- ref.Alike, of two lists that are the same -/
theorem RAlike_same {B1 B2 : Nat} {W : World} {u v : Value} {L : List R} (h1 : IsRs B1 W u L) (h2 : IsRs B2 W v L) (hlen : L.length ≤ 100000) : Calls Try.prog 26 #[u, v] W fun e w' => e = .returned (.bool true) ∧ Hid (Below W.heap.size W w') := by
  have HU := Lib.hid h1; have HV := Lib.hid h2
  obtain ⟨a, c, rfl, -⟩ := h1
  obtain ⟨a', c', rfl, -⟩ := h2
  obtain ⟨n, hn⟩ : ∃ n, n = L.length := ⟨_, rfl⟩
  rw [← hn] at HU HV ⊢
  have hnb : n ≤ 100000 := by omega
  have HN := Lib.hid hn
  clear hn hlen
  go_enter Try.func26, Try.ntmps26
  go_wp2_with fail
  go_loopw [5] (fun iv wr => ∃ j : Nat, j ≤ n ∧ iv = .int .i64 j ∧ Hid (Below W.heap.size W wr)) (fun i _ => n - (intOf i).toNat)
  case atStart => exact ⟨0, by omega, rfl, Below.refl _ _⟩
  case round =>
    obtain ⟨j, hj, rfl, HB⟩ := hrel
    by_cases hlt : j < n
    · have hj2 : (j : Int) < n := by omega
      have hj0 : (0 : Int) ≤ (j : Int) := by omega
      have hjl : j < L.length := by rw [← HN.out]; exact hlt
      obtain ⟨b, d, hv, hcs⟩ := HU.out.below HB.out
      injection hv with hv1 hv2 hv3
      clear hv2 hv3
      subst hv1
      obtain ⟨G, e1, -, hcs2⟩ := hcs (by omega)
      clear hcs
      subst e1
      obtain ⟨c0, c1, c2⟩ := hcs2 j hjl
      clear hcs2
      obtain ⟨b', d', hv, hcs⟩ := HV.out.below HB.out
      injection hv with hv1 hv2 hv3
      clear hv2 hv3
      subst hv1
      obtain ⟨G', e1, -, hcs2⟩ := hcs (by omega)
      clear hcs
      subst e1
      obtain ⟨d0, d1, d2⟩ := hcs2 j hjl
      clear hcs2
      generalize L[j] = x at *
      obtain ⟨xa, xb, xc⟩ := x
      simp only at c0 c1 c2 d0 d1 d2
      go_wp2_with fail
      go_quiet (fail)
      rename_i nq
      have HBn : Hid (Below W.heap.size W (World.drewN wr nq)) := below_drewN HB.out nq
      clear c0 c1 c2 d0 d1 d2
      generalize hw : World.drewN _ nq = w2 at HBn ⊢
      clear hw
      go_wp2_with fail
      go_roundw
      case rel => exact ⟨j + 1, by omega, by go_num, HBn.out⟩
      case measure => simp [intOf]; omega
    · have hj2 : ¬ (j : Int) < n := by omega
      go_wp2_with fail
      go_ret
      exact ⟨rfl, HB.out⟩
end Go.Proofs.Ytjbenhmpeceaeaa
namespace Go.Proofs.Ytjbenhmpeceaeaa
open Go Go.RowKit Gs

theorem Get_un (size x : Int) (W : World) : Calls Try.prog 18 #[.agg #[.pointer none, .int .i64 size], .int .i64 x] W fun e w' => e = .returned (.tuple #[.int .i64 0, .int .i64 1]) ∧ Below W.heap.size W w' := by
  have HUS := Lib.hid (fun W' => isUsable_none size W')
  have HB : Hid (∀ o, Below W.heap.size W (W.alloc o)) := fun o => (Below.refl _ _).alloc (Nat.le_refl _) _
  go_enter Try.func18, Try.ntmps18
  go_wp2_with fail
  refine (HUS.out _).mono ?_
  rintro e w1 ⟨rfl, hb⟩
  have HB1 := Lib.hid ((HB.out _).trans (hb.mono (HB.out _).size))
  clear hb
  go_wp2_with fail
  refine bodyPost_ret (v := .tuple #[.int .i64 0, .int .i64 1]) (by simp [results, Try.results18, go_sem]) rfl ?_
  exact ⟨rfl, HB1.out⟩
theorem Count_un (size lo hi tag : Int) (W : World) : Calls Try.prog 22 #[.agg #[.pointer none, .int .i64 size], .int .i64 lo, .int .i64 hi, .int .i64 tag] W fun e w' => e = .returned (.tuple #[.int .i64 0, .int .i64 1]) ∧ Below W.heap.size W w' := by
  have HCK := Lib.hid (fun a n c W' => check_none size lo hi a n c W')
  obtain ⟨w0, HW⟩ : ∃ w0, w0 = (W.alloc (.cells #[.pointer none, .int .i64 size] 27)).alloc (.cells #[.int .i64 tag] 3) := ⟨_, rfl⟩
  have HB : Hid (Below W.heap.size W w0) := by rw [HW]; exact ((Below.refl _ _).alloc (Nat.le_refl _) _).alloc (by simp) _
  have HW' := Lib.hid HW
  clear HW
  go_enter Try.func22, Try.ntmps22
  go_wp2_with fail
  rw [← HW'.out]
  refine (HCK.out _ _ _ _).mono ?_
  rintro e w1 ⟨rfl, hb⟩
  have HB1 := Lib.hid (HB.out.trans (hb.mono HB.out.size))
  clear hb
  go_wp2_with fail
  refine bodyPost_ret (v := .tuple #[.int .i64 0, .int .i64 1]) (by simp [results, Try.results22, go_sem]) rfl ?_
  exact ⟨rfl, HB1.out⟩
theorem Set_un (size lo hi tag : Int) (W : World) : Calls Try.prog 38 #[.agg #[.pointer none, .int .i64 size], .int .i64 lo, .int .i64 hi, .int .i64 tag] W fun e w' => e = .returned (.tuple #[.agg #[.pointer none, .int .i64 0], .int .i64 1]) ∧ Below W.heap.size W w' := by
  have HCK := Lib.hid (fun a n c W' => check_none size lo hi a n c W')
  obtain ⟨w0, HW, hm, hr, hc, hlt, hb⟩ := boxes3 W none size 27 #[.int .i64 tag] 3
  have HR := Lib.hid hr; have HB := Lib.hid hb; have HW' := Lib.hid HW
  clear hm hr hb HW hc hlt
  go_enter Try.func38, Try.ntmps38
  go_wp2_with fail
  rw [← HW'.out]
  refine (HCK.out _ _ _ _).mono ?_
  rintro e w1 ⟨rfl, hb⟩
  have HR1 := Lib.hid (HR.out.next hb)
  have HB1 := Lib.hid (HB.out.trans (hb.mono HB.out.size))
  have d0 := HR1.out.c0; have d1 := HR1.out.c1; have d2 := HR1.out.f0; have d3 := HR1.out.f1
  obtain ⟨u0, u1⟩ : _ ∧ _ := ⟨(HR1.out.put none 0).c0, (HR1.out.put none 0).c1⟩
  clear hb
  go_wp2_with fail
  refine bodyPost_ret (v := .tuple #[.agg #[.pointer none, .int .i64 0], .int .i64 1]) (by simp [results, Try.results38, go_sem, u0, u1]) rfl ?_
  have HBF := below_put HB1.out (B := W.heap.size + 1) (by omega) (.pointer none) (.int .i64 0)
  exact ⟨rfl, by first | exact HB1.out | exact HBF⟩
theorem Swap_un (size lo hi fr tag : Int) (W : World) : Calls Try.prog 39 #[.agg #[.pointer none, .int .i64 size], .int .i64 lo, .int .i64 hi, .int .i64 fr, .int .i64 tag] W fun e w' => e = .returned (.tuple #[.agg #[.pointer none, .int .i64 0], .int .i64 0, .int .i64 1]) ∧ Below W.heap.size W w' := by
  have HCK := Lib.hid (fun a n c W' => check_none size lo hi a n c W')
  obtain ⟨w0, HW, hm, hr, hc, hlt, hb⟩ := boxes3 W none size 27 #[.int .i64 fr, .int .i64 tag] 3
  have HR := Lib.hid hr; have HB := Lib.hid hb; have HW' := Lib.hid HW
  clear hm hr hb HW hc hlt
  go_enter Try.func39, Try.ntmps39
  go_wp2_with fail
  rw [← HW'.out]
  refine (HCK.out _ _ _ _).mono ?_
  rintro e w1 ⟨rfl, hb⟩
  have HR1 := Lib.hid (HR.out.next hb)
  have HB1 := Lib.hid (HB.out.trans (hb.mono HB.out.size))
  have d0 := HR1.out.c0; have d1 := HR1.out.c1; have d2 := HR1.out.f0; have d3 := HR1.out.f1
  obtain ⟨u0, u1⟩ : _ ∧ _ := ⟨(HR1.out.put none 0).c0, (HR1.out.put none 0).c1⟩
  clear hb
  go_wp2_with fail
  refine bodyPost_ret (v := .tuple #[.agg #[.pointer none, .int .i64 0], .int .i64 0, .int .i64 1]) (by simp [results, Try.results39, go_sem, u0, u1]) rfl ?_
  have HBF := below_put HB1.out (B := W.heap.size + 1) (by omega) (.pointer none) (.int .i64 0)
  exact ⟨rfl, by first | exact HB1.out | exact HBF⟩
theorem Find_un (size tag k : Int) (W : World) : Calls Try.prog 24 #[.agg #[.pointer none, .int .i64 size], .int .i64 tag, .int .i64 k] W fun e w' => e = .returned (.tuple #[.int .i64 0, .bool false]) ∧ Below W.heap.size W w' := by
  obtain ⟨w0, HW⟩ : ∃ w0, w0 = W.alloc (.cells #[.pointer none, .int .i64 size] 27) := ⟨_, rfl⟩
  have hq : Mq W none size w0 := by rw [HW]; exact Mq.new _ _ _ _
  have HTG := Lib.hid (isTag_any tag w0)
  have HQ := Lib.hid hq
  have HW' := Lib.hid HW
  by_cases g1 : isT tag = true
  · obtain ⟨e1, e2⟩ : 0 ≤ tag ∧ tag < 16 := of_decide_eq_true g1
    obtain ⟨j, rfl⟩ : ∃ j : Nat, tag = j := ⟨tag.toNat, by omega⟩
    have hj : j < 16 := by omega
    have HCN : Hid (Calls Try.prog 53 #[.pointer none, .int .i64 j] w0 fun e w' => e = .returned (.int .i64 0) ∧ w0 = w') := count_any .nil (.pointer none) w0 j hj rfl
    rw [g1] at HTG
    clear hq HW g1
    by_cases g2 : k < 0
    · go_enter Try.func24, Try.ntmps24
      go_wp2_with fail
      rw [← HW'.out]
      refine HTG.out.mono ?_
      rintro e w1 ⟨rfl, rfl⟩
      go_wp2_with fail
      refine bodyPost_ret (v := .tuple #[.int .i64 0, .bool false]) (by simp [results, Try.results24, go_sem]) rfl ?_
      exact ⟨rfl, HQ.out.bel⟩
    · have g4 : k ≥ 0 := by omega
      have k0 := HQ.out.c0; have k1 := HQ.out.c1
      go_enter Try.func24, Try.ntmps24
      go_wp2_with fail
      rw [← HW'.out]
      refine HTG.out.mono ?_
      rintro e w1 ⟨rfl, rfl⟩
      go_wp2_with fail
      refine HCN.out.mono ?_
      rintro e w1 ⟨rfl, rfl⟩
      go_wp2_with fail
      refine bodyPost_ret (v := .tuple #[.int .i64 0, .bool false]) (by simp [results, Try.results24, go_sem]) rfl ?_
      exact ⟨rfl, HQ.out.bel⟩
  · rw [Bool.eq_false_iff.2 g1] at HTG
    clear hq HW g1
    go_enter Try.func24, Try.ntmps24
    go_wp2_with fail
    rw [← HW'.out]
    refine HTG.out.mono ?_
    rintro e w1 ⟨rfl, rfl⟩
    go_wp2_with fail
    refine bodyPost_ret (v := .tuple #[.int .i64 0, .bool false]) (by simp [results, Try.results24, go_sem]) rfl ?_
    exact ⟨rfl, HQ.out.bel⟩
theorem Len_un (size : Int) (W : World) : Calls Try.prog 41 #[.agg #[.pointer none, .int .i64 size]] W fun e w' => e = .returned (.int .i64 0) ∧ Below W.heap.size W w' := by
  have HB : Hid (∀ o, Below W.heap.size W (W.alloc o)) := fun o => (Below.refl _ _).alloc (Nat.le_refl _) _
  have HLN : Hid (∀ o, Calls Try.prog 71 #[.pointer none] (W.alloc o) fun e w' => e = .returned (.int .i64 0) ∧ W.alloc o = w') := fun o => len_any .nil (.pointer none) _ rfl
  go_enter Try.func41, Try.ntmps41
  go_wp2_with fail
  refine (HLN.out _).mono ?_
  rintro e w1 ⟨rfl, rfl⟩
  go_wp2_with fail
  go_ret
  exact ⟨rfl, HB.out _⟩
theorem Apply_un (size : Int) (a : Option Addr) (n c : Nat) (W : World) : Calls Try.prog 34 #[.agg #[.pointer none, .int .i64 size], .slice a n c] W fun e w' => e = .returned (.tuple #[.agg #[.pointer none, .int .i64 0], .int .i64 1]) ∧ Below W.heap.size W w' := by
  have HUS := Lib.hid (fun W' => isUsable_none size W')
  obtain ⟨w0, HW, hm, hr, hb⟩ := boxes2 W none size 27
  have HR := Lib.hid hr; have HB := Lib.hid hb; have HW' := Lib.hid HW
  clear hm hr hb HW
  go_enter Try.func34, Try.ntmps34
  go_wp2_with fail
  rw [← HW'.out]
  refine (HUS.out _).mono ?_
  rintro e w1 ⟨rfl, hb⟩
  have HR1 := Lib.hid (HR.out.next hb)
  have HB1 := Lib.hid (HB.out.trans (hb.mono HB.out.size))
  have d0 := HR1.out.c0; have d1 := HR1.out.c1; have d2 := HR1.out.f0; have d3 := HR1.out.f1
  obtain ⟨u0, u1⟩ : _ ∧ _ := ⟨(HR1.out.put none 0).c0, (HR1.out.put none 0).c1⟩
  clear hb
  go_wp2_with fail
  refine bodyPost_ret (v := .tuple #[.agg #[.pointer none, .int .i64 0], .int .i64 1]) (by simp [results, Try.results34, go_sem, u0, u1]) rfl ?_
  have HBF := below_put HB1.out (B := W.heap.size + 1) (by omega) (.pointer none) (.int .i64 0)
  exact ⟨rfl, by first | exact HB1.out | exact HBF⟩
end Go.Proofs.Ytjbenhmpeceaeaa
namespace Go.Proofs.Ytjbenhmpeceaeaa
open Go Go.RowKit Gs

/-- a map as a value: the block of its root, and its size -/
abbrev MV := Option Nat × Int
def MV.p (m : MV) : Option Addr := m.1.map fun b => ⟨b, 0, none⟩
def MV.v (m : MV) : Value := .agg #[.pointer m.p, .int .i64 m.2]
/-- one of the maps is unusable -/
theorem checkSizes_bad (B c : Nat) (ms : List MV) (W : World) (hB : B < W.heap.size) (hc : ∀ j (h : j < ms.length), W.cell? ⟨B, j * 2, none⟩ = some (.pointer ms[j].p) ∧ W.cell? ⟨B, j * 2 + 1, none⟩ = some (.int .i64 ms[j].2)) (hn : ms.length ≤ 4) (hbad : ∃ m ∈ ms, m.1 = none) :
    Calls Try.prog 57 #[.slice (some ⟨B, 0, none⟩) ms.length c] W fun e w' => e = .returned (.int .i64 1) ∧ Below W.heap.size W w' := by
  have HUS := Lib.hid (fun b size W' => isUsable_any b size W')
  have HUN := Lib.hid (fun size W' => isUsable_none size W')
  have HC : Hid (∀ W' j (h : j < ms.length), Below W.heap.size W W' → W'.cell? ⟨B, j * 2, none⟩ = some (.pointer ms[j].p) ∧ W'.cell? ⟨B, j * 2 + 1, none⟩ = some (.int .i64 ms[j].2)) := fun W' j h hb => ⟨(hb.cell (p := ⟨B, j * 2, none⟩) hB).trans (hc j h).1, (hb.cell (p := ⟨B, j * 2 + 1, none⟩) hB).trans (hc j h).2⟩
  have HBAD := Lib.hid hbad
  have HA : Hid (∀ (W' : World) o, Below W'.heap.size W' (W'.alloc o)) := fun W' o => (Below.refl _ _).alloc (Nat.le_refl _) _
  clear hc hbad
  obtain ⟨n, hnn⟩ : ∃ n, n = ms.length := ⟨_, rfl⟩
  have HN := Lib.hid hnn
  rw [← hnn] at hn ⊢
  clear hnn
  go_enter Try.func57, Try.ntmps57
  go_wp2_with fail
  go_loopw [9] (fun i wr => ∃ j : Nat, j ≤ n ∧ i = .int .i64 j ∧ Hid (∀ k (h : k < ms.length), k < j → ms[k].1 ≠ none) ∧ Hid (Below W.heap.size W wr)) (fun i _ => n - (intOf i).toNat)
  case atStart => exact ⟨0, by omega, rfl, fun k _ h => absurd h (by omega), Below.refl _ _⟩
  case round =>
    obtain ⟨j, hj, rfl, HK, HB⟩ := hrel
    by_cases hlt : j < n
    · have hj2 : (j : Int) < n := by omega
      have hjn : j < ms.length := by rw [← HN.out]; exact hlt
      obtain ⟨hc0, hc1⟩ := HC.out wr j hjn HB.out
      rcases hm : ms[j] with ⟨mp, s⟩
      rw [hm] at hc0 hc1
      cases mp with
      | none =>
        have hc0 : wr.cell? ⟨B, j * 2, none⟩ = some (.pointer none) := hc0
        simp only at hc1
        clear hm HK
        go_wp2_with fail
        refine (HUN.out _ _).mono ?_
        rintro e w3 ⟨rfl, hb⟩
        have HB3 := Lib.hid (HB.out.trans ((((HA.out _ _).trans (hb.mono (HA.out _ _).size)).mono HB.out.size)))
        clear hb
        go_wp2_with fail
        go_ret
        exact ⟨rfl, HB3.out⟩
      | some b =>
        have hc0 : wr.cell? ⟨B, j * 2, none⟩ = some (.pointer (some ⟨b, 0, none⟩)) := hc0
        simp only at hc1
        have HK2 : Hid (∀ k (h : k < ms.length), k < j + 1 → ms[k].1 ≠ none) := fun k h hk => by
          by_cases e : k = j
          · subst e; rw [hm]; exact fun h => by cases h
          · exact HK.out k h (by omega)
        clear hm HK
        go_wp2_with fail
        refine (HUS.out _ _ _).mono ?_
        rintro e w3 ⟨rfl, hb⟩
        have HB3 := Lib.hid (HB.out.trans ((((HA.out _ _).trans (hb.mono (HA.out _ _).size)).mono HB.out.size)))
        clear hb
        go_wp2_with fail
        go_roundw
        case rel => exact ⟨j + 1, by omega, by go_num, HK2, HB3⟩
        case measure => simp [intOf]; omega
    · exfalso
      obtain ⟨m, hm, he⟩ := HBAD.out
      obtain ⟨k, hk, rfl⟩ := List.getElem_of_mem hm
      exact HK.out k hk (by have := HN.out; omega) he
/-- the boxes of Diff's two maps, and their list -/
theorem two_maps (W : World) (x y : MV) (Ty Tl : TypeId) : ∃ w0, w0 = ((W.alloc (.cells #[.pointer x.p, .int .i64 x.2] Ty)).alloc (.cells #[.pointer y.p, .int .i64 y.2] Ty)).alloc (.cells #[.pointer x.p, .int .i64 x.2, .pointer y.p, .int .i64 y.2] Tl) ∧ Mb W.heap.size x.p x.2 w0 ∧ Mb (W.heap.size + 1) y.p y.2 w0 ∧ (∀ i v, #[Value.pointer x.p, .int .i64 x.2, .pointer y.p, .int .i64 y.2][i]? = some v → w0.cell? ⟨W.heap.size + 1 + 1, i, none⟩ = some v) ∧ W.heap.size + 1 + 1 < w0.heap.size ∧ Below W.heap.size W w0 := by
  have h1 := Mb.new W x.p x.2 Ty
  have h2 := Mb.new (W.alloc (.cells #[.pointer x.p, .int .i64 x.2] Ty)) y.p y.2 Ty
  rw [show (W.alloc (.cells #[.pointer x.p, .int .i64 x.2] Ty)).heap.size = W.heap.size + 1 by simp] at h2
  refine ⟨_, rfl, (h1.next ((Below.refl _ _).alloc (Nat.le_refl _) _)).next ((Below.refl _ _).alloc (Nat.le_refl _) _), h2.next ((Below.refl _ _).alloc (Nat.le_refl _) _), fun i v hv => (World.cell?_alloc_at _ _ _ _ (by simp)).trans hv, by simp, (((Below.refl _ _).alloc (Nat.le_refl _) _).alloc (by simp) _).alloc (by simp; omega) _⟩
theorem Diff_un (x y : MV) (W : World) (h : x.1 = none ∨ y.1 = none) :
    Calls Try.prog 29 #[x.v, y.v] W fun e w' => e = .returned (.tuple #[.slice none 0 0, .int .i64 1]) ∧ Below W.heap.size W w' := by
  obtain ⟨w0, HW, hm, hr, hc, hlt, hb⟩ := two_maps W x y 27 27
  have HCK : Hid (Calls Try.prog 57 #[.slice (some ⟨W.heap.size + 1 + 1, 0, none⟩) 2 2] w0 fun e w' => e = .returned (.int .i64 1) ∧ Below w0.heap.size w0 w') :=
    checkSizes_bad (W.heap.size + 1 + 1) 2 [x, y] w0 hlt (fun j hj => by
      have : j = 0 ∨ j = 1 := by simp at hj; omega
      rcases this with rfl | rfl
      · exact ⟨hc 0 _ rfl, hc 1 _ rfl⟩
      · exact ⟨hc 2 _ rfl, hc 3 _ rfl⟩) (by simp) (by rcases h with h | h <;> simp [h])
  have HB := Lib.hid hb; have HW' := Lib.hid HW
  clear hm hr hc hlt hb HW h
  unfold MV.v
  obtain ⟨xp, hxp⟩ : ∃ xp, xp = x.p := ⟨_, rfl⟩
  obtain ⟨yp, hyp⟩ : ∃ yp, yp = y.p := ⟨_, rfl⟩
  rw [← hxp, ← hyp] at HW' ⊢
  clear hxp hyp
  go_enter Try.func29, Try.ntmps29
  go_wp2_with fail
  rw [← HW'.out]
  refine HCK.out.mono ?_
  rintro e w1 ⟨rfl, hb⟩
  have HB1 := Lib.hid (HB.out.trans (hb.mono HB.out.size))
  clear hb
  go_wp2_with fail
  refine bodyPost_ret (v := .tuple #[.slice none 0 0, .int .i64 1]) (by simp [results, Try.results29, go_sem]) rfl ?_
  exact ⟨rfl, HB1.out⟩
theorem Runs_un (size lo hi most : Int) (W : World) : Calls Try.prog 20 #[.agg #[.pointer none, .int .i64 size], .int .i64 lo, .int .i64 hi, .int .i64 most] W fun e w' => e = .returned (.tuple #[.slice none 0 0, .int .i64 1]) ∧ Below W.heap.size W w' := by
  have HCK := Lib.hid (fun a n c W' => check_none size lo hi a n c W')
  have HB : Hid (∀ o o2, Below W.heap.size W ((W.alloc o).alloc o2)) := fun o o2 => ((Below.refl _ _).alloc (Nat.le_refl _) _).alloc (by simp) _
  go_enter Try.func20, Try.ntmps20
  go_wp2_with fail
  refine (HCK.out _ _ _ _).mono ?_
  rintro e w1 ⟨rfl, hb⟩
  have HB1 := Lib.hid ((HB.out _ _).trans (hb.mono (HB.out _ _).size))
  clear hb
  go_wp2_with fail
  refine bodyPost_ret (v := .tuple #[.slice none 0 0, .int .i64 1]) (by simp [results, Try.results20, go_sem]) rfl ?_
  exact ⟨rfl, HB1.out⟩
/-- the boxes of Merge's three maps, its result's, and the list of the maps -/
theorem three_maps (W : World) (x y z : MV) (Ty Tl : TypeId) : ∃ w0, w0 = ((((W.alloc (.cells #[.pointer x.p, .int .i64 x.2] Ty)).alloc (.cells #[.pointer y.p, .int .i64 y.2] Ty)).alloc (.cells #[.pointer z.p, .int .i64 z.2] Ty)).alloc (.cells #[.pointer none, .int .i64 0] Ty)).alloc (.cells #[.pointer x.p, .int .i64 x.2, .pointer y.p, .int .i64 y.2, .pointer z.p, .int .i64 z.2] Tl) ∧ Mb W.heap.size x.p x.2 w0 ∧ Mb (W.heap.size + 1) y.p y.2 w0 ∧ Mb (W.heap.size + 1 + 1) z.p z.2 w0 ∧ Mb (W.heap.size + 1 + 1 + 1) none 0 w0 ∧ (∀ i v, #[Value.pointer x.p, .int .i64 x.2, .pointer y.p, .int .i64 y.2, .pointer z.p, .int .i64 z.2][i]? = some v → w0.cell? ⟨W.heap.size + 1 + 1 + 1 + 1, i, none⟩ = some v) ∧ W.heap.size + 1 + 1 + 1 + 1 < w0.heap.size ∧ Below W.heap.size W w0 := by
  obtain ⟨w1, h1⟩ : ∃ w1, w1 = W.alloc (.cells #[.pointer x.p, .int .i64 x.2] Ty) := ⟨_, rfl⟩
  obtain ⟨w2, h2⟩ : ∃ w2, w2 = w1.alloc (.cells #[.pointer y.p, .int .i64 y.2] Ty) := ⟨_, rfl⟩
  obtain ⟨w3, h3⟩ : ∃ w3, w3 = w2.alloc (.cells #[.pointer z.p, .int .i64 z.2] Ty) := ⟨_, rfl⟩
  obtain ⟨w4, h4⟩ : ∃ w4, w4 = w3.alloc (.cells #[.pointer none, .int .i64 0] Ty) := ⟨_, rfl⟩
  have e1 : w1.heap.size = W.heap.size + 1 := by rw [h1]; simp
  have e2 : w2.heap.size = W.heap.size + 1 + 1 := by rw [h2, World.size_alloc, e1]
  have e3 : w3.heap.size = W.heap.size + 1 + 1 + 1 := by rw [h3, World.size_alloc, e2]
  have e4 : w4.heap.size = W.heap.size + 1 + 1 + 1 + 1 := by rw [h4, World.size_alloc, e3]
  have m1 : Mb W.heap.size x.p x.2 w1 := by rw [h1]; exact Mb.new _ _ _ _
  have m2 : Mb (W.heap.size + 1) y.p y.2 w2 := by rw [← e1, h2]; exact Mb.new _ _ _ _
  have m3 : Mb (W.heap.size + 1 + 1) z.p z.2 w3 := by rw [← e2, h3]; exact Mb.new _ _ _ _
  have m4 : Mb (W.heap.size + 1 + 1 + 1) none 0 w4 := by rw [← e3, h4]; exact Mb.new _ _ _ _
  have b1 : Below W.heap.size W w1 := by rw [h1]; exact (Below.refl _ _).alloc (Nat.le_refl _) _
  have b2 : Below w1.heap.size w1 w2 := by rw [h2]; exact (Below.refl _ _).alloc (Nat.le_refl _) _
  have b3 : Below w2.heap.size w2 w3 := by rw [h3]; exact (Below.refl _ _).alloc (Nat.le_refl _) _
  have b4 : Below w3.heap.size w3 w4 := by rw [h4]; exact (Below.refl _ _).alloc (Nat.le_refl _) _
  have b5 : ∀ o, Below w4.heap.size w4 (w4.alloc o) := fun o => (Below.refl _ _).alloc (Nat.le_refl _) _
  rw [← h1, ← h2, ← h3, ← h4]
  exact ⟨_, rfl, (((m1.next b2).next b3).next b4).next (b5 _), ((m2.next b3).next b4).next (b5 _), (m3.next b4).next (b5 _), m4.next (b5 _), fun i v hv => (World.cell?_alloc_at _ _ _ _ e4.symm).trans hv, by simp [e4], b1.trans ((b2.trans ((b3.trans ((b4.trans ((b5 _).mono b4.size)).mono b3.size)).mono b2.size)).mono b1.size)⟩
theorem Merge_un (x y z : MV) (W : World) (h : x.1 = none ∨ y.1 = none ∨ z.1 = none) :
    Calls Try.prog 36 #[x.v, y.v, z.v] W fun e w' => e = .returned (.tuple #[.agg #[.pointer none, .int .i64 0], .slice none 0 0, .int .i64 1]) ∧ Below W.heap.size W w' := by
  obtain ⟨w0, HW, -, -, -, hr, hc, hlt, hb⟩ := three_maps W x y z 27 27
  have HCK : Hid (Calls Try.prog 57 #[.slice (some ⟨W.heap.size + 1 + 1 + 1 + 1, 0, none⟩) 3 3] w0 fun e w' => e = .returned (.int .i64 1) ∧ Below w0.heap.size w0 w') :=
    checkSizes_bad (W.heap.size + 1 + 1 + 1 + 1) 3 [x, y, z] w0 hlt (fun j hj => by
      have : j = 0 ∨ j = 1 ∨ j = 2 := by simp at hj; omega
      rcases this with rfl | rfl | rfl
      · exact ⟨hc 0 _ rfl, hc 1 _ rfl⟩
      · exact ⟨hc 2 _ rfl, hc 3 _ rfl⟩
      · exact ⟨hc 4 _ rfl, hc 5 _ rfl⟩) (by simp) (by rcases h with h | h | h <;> simp [h])
  have HR := Lib.hid hr; have HB := Lib.hid hb; have HW' := Lib.hid HW
  clear hr hc hlt hb HW h
  unfold MV.v
  obtain ⟨xp, hxp⟩ : ∃ xp, xp = x.p := ⟨_, rfl⟩
  obtain ⟨yp, hyp⟩ : ∃ yp, yp = y.p := ⟨_, rfl⟩
  obtain ⟨zp, hzp⟩ : ∃ zp, zp = z.p := ⟨_, rfl⟩
  rw [← hxp, ← hyp, ← hzp] at HW' ⊢
  clear hxp hyp hzp
  go_enter Try.func36, Try.ntmps36
  go_wp2_with fail
  rw [← HW'.out]
  refine HCK.out.mono ?_
  rintro e w1 ⟨rfl, hb⟩
  have HR1 := Lib.hid (HR.out.next hb)
  have HB1 := Lib.hid (HB.out.trans (hb.mono HB.out.size))
  have d0 := HR1.out.c0; have d1 := HR1.out.c1; have d2 := HR1.out.f0; have d3 := HR1.out.f1
  obtain ⟨u0, u1⟩ : _ ∧ _ := ⟨(HR1.out.put none 0).c0, (HR1.out.put none 0).c1⟩
  clear hb
  go_wp2_with fail
  refine bodyPost_ret (v := .tuple #[.agg #[.pointer none, .int .i64 0], .slice none 0 0, .int .i64 1]) (by simp [results, Try.results36, go_sem, u0, u1]) rfl ?_
  have HBF := below_put HB1.out (B := W.heap.size + 1 + 1 + 1) (by omega) (.pointer none) (.int .i64 0)
  exact ⟨rfl, by first | exact HB1.out | exact HBF⟩
end Go.Proofs.Ytjbenhmpeceaeaa
namespace Go.Proofs.Ytjbenhmpeceaeaa
open Go Go.RowKit Gs

theorem Runs_full {f : Int → Int} {size : Int} {W : World} {p : Option Addr} {L : List R} (h : IsM f size W p) (hL : Gs.Can f 0 L size) :
    L.length ≤ 4096 ∧ Calls Try.prog 20 #[.agg #[.pointer p, .int .i64 size], .int .i64 0, .int .i64 size, .int .i64 1048576] W fun e w' => ∃ v, e = .returned (.tuple #[v, .int .i64 0]) ∧ Hid (IsRs W.heap.size w' v L) ∧ Below W.heap.size W w' := by
  have hs := h.lo
  obtain ⟨L', h4, h5, h6⟩ := Runs_any (most := 1048576) h (Int.le_refl 0) (by omega) (Int.le_refl size)
  have e := Gs.Can.same h4 hL
  subst e
  have e2 := Gs.Can.same (clip_can h4 (Int.le_refl 0) (by omega) (Int.le_refl size)) h4
  refine ⟨h5, h6.mono ?_⟩
  rintro e w' ⟨v, he, hr, hb⟩
  rw [e2] at hr
  have e1 : L'.take (1048576 : Int).toNat = L' := List.take_of_length_le (Nat.le_trans h5 (by decide))
  rw [e1] at hr
  exact ⟨v, he, IsRs.of_row hr.out, hb⟩
theorem Len_same {f : Int → Int} {size : Int} {W : World} {p : Option Addr} {L : List R} (h : IsM f size W p) (hL : Gs.Can f 0 L size) : Calls Try.prog 41 #[.agg #[.pointer p, .int .i64 size]] W fun e w' => e = .returned (.int .i64 L.length) ∧ Below W.heap.size W w' := by
  obtain ⟨L', h1, _, h2⟩ := Len_any (s := size) h.tr
  have e := Gs.Can.same h1 hL
  subst e
  exact h2
set_option maxHeartbeats 2000000 in
theorem same_ok {f : Int → Int} {size : Int} {W : World} {p : Option Addr} {B : Nat} {v : Value} {L : List R} (h : IsM f size W p) (hL : Gs.Can f 0 L size) (hr : IsRs B W v L) :
    Calls Try.prog 15 #[.agg #[.pointer p, .int .i64 size], .agg #[.int .i64 size, v]] W fun e w' => e = .returned (.bool true) ∧ Hid (Below W.heap.size W w') := by
  have HI := Lib.hid h; have HL := Lib.hid hL; have HRS := Lib.hid hr
  have hlen := (Runs_full h hL).1
  have hne : 0 < L.length := by
    rcases fits_cut hL.1 with ⟨_, e⟩ | ⟨r, k, rfl⟩
    · have := h.lo; omega
    · simp
  obtain ⟨a, c, rfl, -⟩ := hr
  obtain ⟨n, hn⟩ : ∃ n, n = L.length := ⟨_, rfl⟩
  rw [← hn] at HRS hne ⊢
  have HN := Lib.hid hn
  obtain ⟨w0, HW⟩ : ∃ w0, w0 = (W.alloc (.cells #[.pointer p, .int .i64 size] 27)).alloc (.cells #[.int .i64 size, .slice a n c] 33) := ⟨_, rfl⟩
  have hb : Below W.heap.size W w0 := by rw [HW]; exact ((Below.refl _ _).alloc (Nat.le_refl _) _).alloc (by simp) _
  have hm : Mb W.heap.size p size w0 := by rw [HW]; exact (Mb.new W p size 27).next ((Below.refl _ _).alloc (Nat.le_refl _) _)
  have hv : M2 (W.heap.size + 1) (.int .i64 size) (.slice a n c) w0 := by
    have := M2.new (W.alloc (.cells #[.pointer p, .int .i64 size] 27)) (.int .i64 size) (.slice a n c) 33
    rw [← HW, World.size_alloc] at this
    exact this
  have HB := Lib.hid hb; have HM := Lib.hid hm; have HV := Lib.hid hv; have HW' := Lib.hid HW
  have HSZ : Hid (∀ W', Below W.heap.size W W' → Calls Try.prog 40 #[.agg #[.pointer p, .int .i64 size]] W' fun e w' => e = .returned (.int .i64 size) ∧ Below W'.heap.size W' w') := fun W' _ => Size_any p size W'
  have HLN : Hid (∀ W', Below W.heap.size W W' → Calls Try.prog 41 #[.agg #[.pointer p, .int .i64 size]] W' fun e w' => e = .returned (.int .i64 n) ∧ Below W'.heap.size W' w') := fun W' h => by rw [HN.out]; exact Len_same (HI.out.below h) HL.out
  have HRN : Hid (∀ W', Below W.heap.size W W' → Calls Try.prog 20 #[.agg #[.pointer p, .int .i64 size], .int .i64 0, .int .i64 size, .int .i64 1048576] W' fun e w' => ∃ v, e = .returned (.tuple #[v, .int .i64 0]) ∧ Hid (IsRs W'.heap.size w' v L) ∧ Below W'.heap.size W' w') := fun W' h => (Runs_full (HI.out.below h) HL.out).2
  have HUS : Hid (∀ W', Calls Try.prog 42 #[.agg #[.int .i64 size, .slice a n c]] W' fun e w' => e = .returned (.bool true) ∧ Below W'.heap.size W' w') := fun W' => by
    have := RUsable_any size a n c W'
    rwa [decide_eq_true hne] at this
  have HLH := Lib.hid hlen
  clear h hL hlen hne hn hb hm hv HW
  have k0 := HM.out.c0; have k1 := HM.out.c1; have k2 := HV.out.c0; have k3 := HV.out.c1
  go_enter Try.func15, Try.ntmps15
  go_upto_region 1 with fail
  rw [← HW'.out]
  have HALL : Hid (∀ W', Below w0.heap.size w0 W' → W'.cell? ⟨W.heap.size, 0, none⟩ = some (.pointer p) ∧ W'.cell? ⟨W.heap.size, 1, none⟩ = some (.int .i64 size) ∧ W'.cell? ⟨W.heap.size + 1, 0, none⟩ = some (.int .i64 size) ∧ W'.cell? ⟨W.heap.size + 1, 1, none⟩ = some (.slice a n c)) := fun W' h => ⟨(HM.out.next h).c0, (HM.out.next h).c1, (HV.out.next h).c0, (HV.out.next h).c1⟩
  have HSZ2 : Hid (∀ W', Below w0.heap.size w0 W' → Calls Try.prog 40 #[.agg #[.pointer p, .int .i64 size]] W' fun e w' => e = .returned (.int .i64 size) ∧ Below w0.heap.size w0 w') := fun W' h => (HSZ.out W' (HB.out.trans (h.mono HB.out.size))).mono fun e w' ⟨he, hB⟩ => ⟨he, h.trans (hB.mono h.size)⟩
  have HLN2 : Hid (∀ W', Below w0.heap.size w0 W' → Calls Try.prog 41 #[.agg #[.pointer p, .int .i64 size]] W' fun e w' => e = .returned (.int .i64 n) ∧ Below w0.heap.size w0 w') := fun W' h => (HLN.out W' (HB.out.trans (h.mono HB.out.size))).mono fun e w' ⟨he, hB⟩ => ⟨he, h.trans (hB.mono h.size)⟩
  clear k0 k1 k2 k3
  have hs : Below w0.heap.size w0 w0 := Below.refl _ _
  have hs2 := hs.drew
  have hcl := HALL.out _ hs2
  have hc0 := HALL.out _ hs
  go_wp2_with fail
  go_region_held3 (fun W' : World => W'.cell? ⟨W.heap.size, 0, none⟩ = some (.pointer p) ∧ W'.cell? ⟨W.heap.size, 1, none⟩ = some (.int .i64 size) ∧ W'.cell? ⟨W.heap.size + 1, 0, none⟩ = some (.int .i64 size) ∧ W'.cell? ⟨W.heap.size + 1, 1, none⟩ = some (.slice a n c)) (first | assumption | fail) (first
    | (go_at_call 40; with_reducible refine (HSZ2.out _ ?h).mono ?_; (case h => assumption); rintro e w' ⟨rfl, hs1'⟩; have hc1' := HALL.out _ hs1')
    | (go_at_call 41; with_reducible refine (HLN2.out _ ?h).mono ?_; (case h => assumption); rintro e w' ⟨rfl, hs2'⟩; have hc2' := HALL.out _ hs2') | fail)
  have HRN2 : Hid (∀ W', Below w0.heap.size w0 W' → Calls Try.prog 20 #[.agg #[.pointer p, .int .i64 size], .int .i64 0, .int .i64 size, .int .i64 1048576] W' fun e w' => ∃ v, e = .returned (.tuple #[v, .int .i64 0]) ∧ Hid (∃ b, IsRs b w' v L) ∧ Below w0.heap.size w0 w') := fun W' h => (HRN.out W' (HB.out.trans (h.mono HB.out.size))).mono fun e w' ⟨v, he, hr, hB⟩ => ⟨v, he, ⟨_, hr.out⟩, h.trans (hB.mono h.size)⟩
  have HB1 := Lib.hid hs2'
  clear hs hs2 hcl hc0 hs1' hc1' hc2' hs2'
  have hs := HB1.out
  have hs2 := hs.drew
  have hcl := HALL.out _ hs2
  have hc0 := HALL.out _ hs
  go_wp2_with fail
  go_region_held3 (fun W' : World => W'.cell? ⟨W.heap.size, 0, none⟩ = some (.pointer p) ∧ W'.cell? ⟨W.heap.size, 1, none⟩ = some (.int .i64 size) ∧ W'.cell? ⟨W.heap.size + 1, 0, none⟩ = some (.int .i64 size) ∧ W'.cell? ⟨W.heap.size + 1, 1, none⟩ = some (.slice a n c)) (first | assumption | fail) (first
    | (go_at_call 40; with_reducible refine (HSZ2.out _ ?h).mono ?_; (case h => assumption); rintro e w' ⟨rfl, hs1'⟩; have hc1' := HALL.out _ hs1')
    | (go_at_call 20; with_reducible refine (HRN2.out _ ?h).mono ?_; (case h => assumption); rintro e w' ⟨v5, rfl, hr5, hs3'⟩; have hc2' := HALL.out _ hs3') | fail)
  have HB3 := Lib.hid hs3'
  obtain ⟨b5, h5⟩ := hr5.out
  have HR5 := Lib.hid h5
  obtain ⟨a5, c5, rfl, -⟩ := h5
  clear hs hs2 hcl hc0 hs1' hc1' hc2' hs3' hr5
  obtain ⟨k0, k1, k2, k3⟩ := HALL.out _ HB3.out
  have HRV : Hid (IsRs B w' (.slice a n c) L) := HRS.out.below (HB.out.trans (HB3.out.mono HB.out.size))
  go_wp2_with fail
  refine (HUS.out _).mono ?_
  rintro e w6 ⟨rfl, hb⟩
  have HB6 := Lib.hid (HB3.out.trans (hb.mono HB3.out.size))
  have HAK := Lib.hid (RAlike_same (HR5.out.below hb) (HRV.out.below hb) (Nat.le_trans HLH.out (by decide)))
  clear hb k0 k1 k2 k3
  obtain ⟨k0, k1, k2, k3⟩ := HALL.out _ HB6.out
  go_wp2_with fail
  refine HAK.out.mono ?_
  rintro e w7 ⟨rfl, hb⟩
  have HF : Hid (Below W.heap.size W w7) := HB.out.trans ((HB6.out.trans (hb.out.mono HB6.out.size)).mono HB.out.size)
  clear k0 k1 k2 k3
  go_wp2_with fail
  go_ret
  exact ⟨rfl, HF.out⟩
set_option maxHeartbeats 2000000 in
/-- both are unusable -/
theorem same_un (W : World) : Calls Try.prog 15 #[.agg #[.pointer none, .int .i64 0], .agg #[.int .i64 0, .slice none 0 0]] W fun e w' => e = .returned (.bool true) ∧ Hid (Below W.heap.size W w') := by
  obtain ⟨w0, HW⟩ : ∃ w0, w0 = (W.alloc (.cells #[.pointer none, .int .i64 0] 27)).alloc (.cells #[.int .i64 0, .slice none 0 0] 33) := ⟨_, rfl⟩
  have hb : Below W.heap.size W w0 := by rw [HW]; exact ((Below.refl _ _).alloc (Nat.le_refl _) _).alloc (by simp) _
  have hm : Mb W.heap.size none 0 w0 := by rw [HW]; exact (Mb.new W none 0 27).next ((Below.refl _ _).alloc (Nat.le_refl _) _)
  have hv : M2 (W.heap.size + 1) (.int .i64 0) (.slice none 0 0) w0 := by
    have := M2.new (W.alloc (.cells #[.pointer none, .int .i64 0] 27)) (.int .i64 0) (.slice none 0 0) 33
    rw [← HW, World.size_alloc] at this
    exact this
  have HB := Lib.hid hb; have HM := Lib.hid hm; have HV := Lib.hid hv; have HW' := Lib.hid HW
  have HUS : Hid (∀ W', Calls Try.prog 42 #[.agg #[.int .i64 0, .slice none 0 0]] W' fun e w' => e = .returned (.bool false) ∧ Below W'.heap.size W' w') := fun W' => RUsable_any 0 none 0 0 W'
  clear hb hm hv HW
  have HALL : Hid (∀ W', Below w0.heap.size w0 W' → W'.cell? ⟨W.heap.size, 0, none⟩ = some (.pointer none) ∧ W'.cell? ⟨W.heap.size, 1, none⟩ = some (.int .i64 0) ∧ W'.cell? ⟨W.heap.size + 1, 0, none⟩ = some (.int .i64 0) ∧ W'.cell? ⟨W.heap.size + 1, 1, none⟩ = some (.slice none 0 0)) := fun W' h => ⟨(HM.out.next h).c0, (HM.out.next h).c1, (HV.out.next h).c0, (HV.out.next h).c1⟩
  have HSZ2 : Hid (∀ W', Below w0.heap.size w0 W' → Calls Try.prog 40 #[.agg #[.pointer none, .int .i64 0]] W' fun e w' => e = .returned (.int .i64 0) ∧ Below w0.heap.size w0 w') := fun W' h => (Size_any none 0 W').mono fun e w' ⟨he, hB⟩ => ⟨he, h.trans (hB.mono h.size)⟩
  have HLN2 : Hid (∀ W', Below w0.heap.size w0 W' → Calls Try.prog 41 #[.agg #[.pointer none, .int .i64 0]] W' fun e w' => e = .returned (.int .i64 0) ∧ Below w0.heap.size w0 w') := fun W' h => (Len_un 0 W').mono fun e w' ⟨he, hB⟩ => ⟨he, h.trans (hB.mono h.size)⟩
  have HRN2 : Hid (∀ W', Below w0.heap.size w0 W' → Calls Try.prog 20 #[.agg #[.pointer none, .int .i64 0], .int .i64 0, .int .i64 0, .int .i64 1048576] W' fun e w' => e = .returned (.tuple #[.slice none 0 0, .int .i64 1]) ∧ Below w0.heap.size w0 w') := fun W' h => (Runs_un 0 0 0 1048576 W').mono fun e w' ⟨he, hB⟩ => ⟨he, h.trans (hB.mono h.size)⟩
  go_enter Try.func15, Try.ntmps15
  go_upto_region 1 with fail
  rw [← HW'.out]
  have hs : Below w0.heap.size w0 w0 := Below.refl _ _
  have hs2 := hs.drew
  have hcl := HALL.out _ hs2
  have hc0 := HALL.out _ hs
  go_wp2_with fail
  go_region_held3 (fun W' : World => W'.cell? ⟨W.heap.size, 0, none⟩ = some (.pointer none) ∧ W'.cell? ⟨W.heap.size, 1, none⟩ = some (.int .i64 0) ∧ W'.cell? ⟨W.heap.size + 1, 0, none⟩ = some (.int .i64 0) ∧ W'.cell? ⟨W.heap.size + 1, 1, none⟩ = some (.slice none 0 0)) (first | assumption | fail) (first
    | (go_at_call 40; with_reducible refine (HSZ2.out _ ?h).mono ?_; (case h => assumption); rintro e w' ⟨rfl, hs1'⟩; have hc1' := HALL.out _ hs1')
    | (go_at_call 41; with_reducible refine (HLN2.out _ ?h).mono ?_; (case h => assumption); rintro e w' ⟨rfl, hs2'⟩; have hc2' := HALL.out _ hs2') | fail)
  have HB1 := Lib.hid hs2'
  clear hs hs2 hcl hc0 hs1' hc1' hc2' hs2'
  have hs := HB1.out
  have hs2 := hs.drew
  have hcl := HALL.out _ hs2
  have hc0 := HALL.out _ hs
  go_wp2_with fail
  go_region_held3 (fun W' : World => W'.cell? ⟨W.heap.size, 0, none⟩ = some (.pointer none) ∧ W'.cell? ⟨W.heap.size, 1, none⟩ = some (.int .i64 0) ∧ W'.cell? ⟨W.heap.size + 1, 0, none⟩ = some (.int .i64 0) ∧ W'.cell? ⟨W.heap.size + 1, 1, none⟩ = some (.slice none 0 0)) (first | assumption | fail) (first
    | (go_at_call 40; with_reducible refine (HSZ2.out _ ?h).mono ?_; (case h => assumption); rintro e w' ⟨rfl, hs1'⟩; have hc1' := HALL.out _ hs1')
    | (go_at_call 20; with_reducible refine (HRN2.out _ ?h).mono ?_; (case h => assumption); rintro e w' ⟨rfl, hs3'⟩; have hc2' := HALL.out _ hs3') | fail)
  have HB3 := Lib.hid hs3'
  clear hs hs2 hcl hc0 hs1' hc1' hc2' hs3'
  obtain ⟨k0, k1, k2, k3⟩ := HALL.out _ HB3.out
  go_wp2_with fail
  refine (HUS.out _).mono ?_
  rintro e w6 ⟨rfl, hb⟩
  have HF : Hid (Below W.heap.size W w6) := HB.out.trans ((HB3.out.trans (hb.mono HB3.out.size)).mono HB.out.size)
  clear hb k0 k1 k2 k3
  go_wp2_with fail
  go_ret
  exact ⟨rfl, HF.out⟩
end Go.Proofs.Ytjbenhmpeceaeaa
namespace Go.Proofs.Ytjbenhmpeceaeaa
open Go Go.RowKit Gs

/-- what the document's Swap answers, where nothing is refused -/
def RU (f : Int → Int) (size lo hi fr tt : Int) (any : Bool) (L : List R) (B : Nat) (s : Int) (v : Value) (n e : Int) (W : World) : Prop :=
  ∃ L', Gs.Can (gS f lo hi fr tt any) 0 L' size ∧ ((4096 < L'.length ∧ s = 0 ∧ v = .slice none 0 0 ∧ n = 0 ∧ e = 5) ∨ (L'.length ≤ 4096 ∧ s = size ∧ e = 0 ∧ IsRs B W v L' ∧ (any = false → n = cnt fr (clip lo hi L))))
theorem Rb.keep {W W' : World} {B : Nat} {r : R} (h : Rb W B r) (e : W'.heap[B]? = W.heap[B]?) : Rb W' B r := e.trans h
theorem IsRs.mono {base base' : Nat} {W : World} {v : Value} {l : List R} (h : IsRs base W v l) (hb : base' ≤ base) : IsRs base' W v l := by
  obtain ⟨ao, c, hv, h⟩ := h
  exact ⟨ao, c, hv, fun hl => by obtain ⟨B, e, h1, h2⟩ := h hl; exact ⟨B, e, ⟨Nat.le_trans hb h1.1, h1.2⟩, h2⟩⟩
theorem JP.box {W W' : World} {base k : Nat} {v v' : Value} {l : List R} {r : R} (h : JP W base v l v' W') (hb : Rb W k r) (hv : ∀ g, v.ownBlock = some g → g ≠ k) : Rb W' k r ∧ ∀ g, v'.ownBlock = some g → g ≠ k := by
  refine ⟨hb.keep (h.keep k hb.lt (fun e => hv k e.symm rfl)), fun g hg e => ?_⟩
  subst e
  rcases h.at' _ hg with h1 | h1
  · exact hv _ h1 rfl
  · exact absurd hb.lt (by omega)
set_option maxRecDepth 100000 in
set_option maxHeartbeats 4000000 in
theorem RSwap_any {f : Int → Int} {size lo hi fr tt : Int} {base : Nat} {v : Value} {L : List R} {W : World} (hrs : IsRs base W v L) (hL : Gs.Can f 0 L size) (hx : Ctx f 0 size) (hne : 0 < L.length) (hlen : L.length ≤ 4096) (h1 : 0 ≤ lo) (h2 : lo ≤ hi) (h3 : hi ≤ size) (htt : isT tt = true) :
    Calls Try.prog 43 #[.agg #[.int .i64 size, v], .int .i64 lo, .int .i64 hi, .int .i64 fr, .int .i64 tt, .bool true] W fun e w' => ∃ s v' n e2, e = .returned (.tuple #[.agg #[.int .i64 s, v'], .int .i64 n, .int .i64 e2]) ∧ Hid (RU f size lo hi fr tt true L W.heap.size s v' n e2 w') ∧ Below W.heap.size W w' := by
  have HRS := Lib.hid hrs
  obtain ⟨a, c, rfl, -⟩ := hrs
  obtain ⟨n, hn⟩ : ∃ n, n = L.length := ⟨_, rfl⟩
  rw [← hn] at HRS hne ⊢
  have hnb : n ≤ 4096 := by omega
  have HN := Lib.hid hn
  obtain ⟨w0, HW, hm, hr, hb⟩ := boxesR W size (.slice a n c) 33
  have HUS : Hid (∀ W', Calls Try.prog 42 #[.agg #[.int .i64 size, .slice a n c]] W' fun e w' => e = .returned (.bool true) ∧ Below W'.heap.size W' w') := fun W' => by
    have := RUsable_any size a n c W'
    rwa [decide_eq_true hne] at this
  have HVA : Hid (∀ W', Calls Try.prog 48 #[.agg #[.int .i64 size, .slice a n c], .int .i64 lo, .int .i64 hi] W' fun e w' => e = .returned (.bool true) ∧ Below W'.heap.size W' w') := fun W' => by
    have := Rvalid_any size lo hi (.slice a n c) W'
    rwa [decide_eq_true (p := 0 ≤ lo ∧ lo ≤ hi ∧ hi ≤ size) ⟨h1, h2, h3⟩] at this
  have HTT : Hid (∀ W', Calls Try.prog 51 #[.int .i64 tt] W' fun e w' => e = .returned (.bool true) ∧ W' = w') := fun W' => by
    have := RTag_any tt W'
    rwa [htt] at this
  have HJN : Hid (∀ (B0 : Nat) (u : Value) (l : List R) (x : R) (W' : World), rowR W' B0 u l → B0 ≤ W'.heap.size → l.length ≤ 100000 → Calls Try.prog 49 #[u, .agg #[.int .i64 x.lo, .int .i64 x.hi, .int .i64 x.tag]] W' fun e w' => ∃ v', e = .returned v' ∧ Hid (JP W' B0 u (joinL l x) v' w')) := fun B0 u l x W' h hb hl => Join_any x h hb hl
  have HM := Lib.hid hm; have HR := Lib.hid hr; have HB := Lib.hid hb; have HW' := Lib.hid HW
  have HL := Lib.hid hL; have HX := Lib.hid hx
  have HLH : Hid (0 ≤ lo ∧ lo ≤ hi ∧ hi ≤ size ∧ size ≤ 1099511627776) := ⟨h1, h2, h3, hx.2.1⟩
  have k0 := HM.out.c0; have k1 := HM.out.c1
  have hmx : ∀ p q : Int, (if p < q then q else p) = max p q := fun p q => by split <;> omega
  have hmn : ∀ p q : Int, (if p < q then p else q) = min p q := fun p q => by split <;> omega
  clear hL hx HW hm hr hb hn hlen h1 h2 h3 htt
  go_enter Try.func43, Try.ntmps43
  go_upto_region 1 with fail
  rw [← HW'.out]
  go_wp2_with fail
  refine (HUS.out _).mono ?_
  rintro e w1 ⟨rfl, hb⟩
  have HM1 := Lib.hid (HM.out.next hb); have HR1 := Lib.hid (HR.out.next hb)
  have HB1 := Lib.hid (HB.out.trans (hb.mono HB.out.size))
  clear hb k0 k1
  have k0 := HM1.out.c0; have k1 := HM1.out.c1
  go_wp2_with fail
  refine (HVA.out _).mono ?_
  rintro e w2 ⟨rfl, hb⟩
  have HM2 := Lib.hid (HM1.out.next hb); have HR2 := Lib.hid (HR1.out.next hb)
  have HB2 := Lib.hid (HB1.out.trans (hb.mono HB1.out.size))
  clear hb k0 k1
  go_wp2_with fail
  refine (HTT.out _).mono ?_
  rintro e w3 ⟨rfl, rfl⟩
  go_wp2_with fail
  go_loopw [15, 16, 17] (fun ov nv iv wr => ∃ (j : Nat) (m nn : Int) (lst : List R), j ≤ n ∧ iv = .int .i64 j ∧ nv = .int .i64 nn ∧ Hid (rowR wr w2.heap.size ov lst ∧ Gs.Can (gS f lo hi fr tt true) 0 lst m ∧ lst.length ≤ 3 * j) ∧ Hid (Gs.Can f m (L.drop j) size ∧ 0 ≤ m) ∧ Hid (0 ≤ nn ∧ nn ≤ m ∧ (true = false → nn = cnt fr (clip lo hi (L.take j)))) ∧ Hid (Below w2.heap.size w2 wr)) (fun _ _ i _ => n - (intOf i).toNat)
  case atStart => exact ⟨0, 0, 0, [], by omega, rfl, rfl, ⟨World.ownsRow_nil _ _ _ _, Gs.Can.nil _ _, Nat.le_refl _⟩, ⟨HL.out, Int.le_refl _⟩, ⟨Int.le_refl _, Int.le_refl _, fun _ => rfl⟩, Below.refl _ _⟩
  case round =>
    obtain ⟨j, m, nn, lst, hj, rfl, rfl, HROW, HCJ, HNN, HBr⟩ := hrel
    have hm := HM2.out.next HBr.out
    have k0 := hm.c0; have k1 := hm.c1
    clear hm
    by_cases hlt : j < n
    · have hj2 : (j : Int) < n := by omega
      have hjl : j < L.length := by rw [← HN.out]; exact hlt
      obtain ⟨a', c', hv, hcs⟩ := HRS.out.below (HB2.out.trans (HBr.out.mono HB2.out.size))
      injection hv with hv1 hv2 hv3
      clear hv2 hv3
      subst hv1
      obtain ⟨G, e1, -, hcs2⟩ := hcs (by omega)
      clear hcs
      subst e1
      obtain ⟨c0, c1, c2⟩ := hcs2 j hjl
      clear hcs2
      have hdr : L.drop j = L[j] :: L.drop (j + 1) := List.drop_eq_getElem_cons hjl
      have htk : L.take (j + 1) = L.take j ++ [L[j]] := by rw [List.take_add_one, List.getElem?_eq_getElem hjl]; rfl
      have hcan := HCJ.out.1
      rw [hdr] at hcan
      obtain ⟨⟨xlo, xhi, xtag⟩, hx⟩ : ∃ x, x = L[j] := ⟨_, rfl⟩
      rw [← hx] at hcan c0 c1 c2 htk
      simp only at c0 c1 c2
      obtain ⟨e1, e2, e3, e4⟩ := hcan.1
      simp only at e1 e2 e3 e4
      subst e1
      have hle4 := e4.le
      have HCAN2 : Hid (Gs.Can f xhi (L.drop (j + 1)) size ∧ 0 ≤ xhi) := ⟨⟨e4, hcan.2.tail⟩, by have := HCJ.out.2; omega⟩
      have HST : Hid (Gs.Can (gS f lo hi fr tt true) 0 (stepL lst ⟨xlo, xhi, xtag⟩ lo hi fr tt true) xhi) := step_can HROW.out.2.1 rfl e2 e3 HLH.out.2.1
      have HLN : Hid ((stepL lst ⟨xlo, xhi, xtag⟩ lo hi fr tt true).length ≤ 3 * (j + 1)) := Nat.le_trans (stepL_len _ _ _ _ _ _ _) (by have := HROW.out.2.2; omega)
      have HCN : Hid (cnt fr (clip lo hi (L.take (j + 1))) = cnt fr (clip lo hi (L.take j)) + if xtag = fr then max 0 (stepB ⟨xlo, xhi, xtag⟩ hi - stepA ⟨xlo, xhi, xtag⟩ lo) else 0) := by
        show _ = _
        rw [htk, clip_app, cnt_append, clip_cons, clip_nil, List.append_nil, step_cnt _ _ _ _ e2 HLH.out.2.1]
      obtain ⟨A, hA⟩ : ∃ A, A = max xlo (min xhi lo) := ⟨_, rfl⟩
      obtain ⟨B, hB⟩ : ∃ B, B = min (max hi xlo) xhi := ⟨_, rfl⟩
      have hab : xlo ≤ A ∧ A ≤ xhi ∧ xlo ≤ B ∧ B ≤ xhi ∧ A ≤ B := by have := HLH.out; omega
      have hN := HNN.out
      have hxm := HCJ.out.2
      have hsz := HLH.out.2.2.2
      obtain ⟨d, hd⟩ : ∃ d, d = max 0 (B - A) := ⟨_, rfl⟩
      have hd2 : 0 ≤ d ∧ d ≤ xhi - xlo := by omega
      have hw1 : IntKind.i64.wrap (B - A) = B - A := IntWalk.i64_in _ (by omega)
      have hw2 : IntKind.i64.wrap (nn + d) = nn + d := IntWalk.i64_in _ (by omega)
      have HD := Lib.hid hd
      have HBD : Hid ((B - A = d ∧ (if 0 ≤ B - A then B - A else 0) = d) ∧ (0 ≤ nn ∧ 0 ≤ d ∧ nn + d ≤ 1099511627776)) := by
        refine ⟨⟨by omega, ?_⟩, by omega⟩
        split <;> omega
      have HAH : Hid (A = stepA ⟨xlo, xhi, xtag⟩ lo) := by show A = max xlo (min lo xhi); omega
      have HBH : Hid (B = stepB ⟨xlo, xhi, xtag⟩ hi) := by show B = min xhi (max hi xlo); omega
      have HA2 := Lib.hid hA
      have HB3 := Lib.hid hB
      have HMAB : Hid (max A B = B) := by show _ = _; omega
      have HN2 : Hid (0 ≤ nn + d ∧ nn + d ≤ xhi) := by show _ ∧ _; omega
      have HN3 : Hid (0 ≤ nn ∧ nn ≤ xhi) := by show _ ∧ _; omega
      have HL1 : Hid (lst.length ≤ 12288) := by show _ ≤ _; have := HROW.out.2.2; omega
      obtain ⟨wx, HWX⟩ : ∃ wx, wx = wr.alloc (.cells #[.int .i64 xlo, .int .i64 xhi, .int .i64 xtag] 64) := ⟨_, rfl⟩
      have bx : Below wr.heap.size wr wx := by rw [HWX]; exact (Below.refl _ _).alloc (Nat.le_refl _) _
      have HRB : Hid (Rb wx wr.heap.size ⟨xlo, xhi, xtag⟩) := by rw [HWX]; exact Rb.new wr ⟨xlo, xhi, xtag⟩
      have HROWX : Hid (rowR wx w2.heap.size u15 lst) := by rw [HWX]; exact HROW.out.1.alloc _
      have HLTO := Lib.hid HROW.out.1.lt
      have HBx := Lib.hid (HBr.out.trans (bx.mono HBr.out.size))
      obtain ⟨r0, r1, r2⟩ := HRB.out.cells
      simp only at r0 r1 r2
      have HSX : Hid (wr.heap.size < wx.heap.size) := HRB.out.lt
      have HWX' := Lib.hid HWX
      clear hdr htk hcan hx e2 e3 e4 hle4 hA hB hab hN hxm hsz hd hd2 HWX bx
      go_upto_region 13 with fail
      rw [← HWX'.out]
      clear c0 c1 c2 k0 k1
      go_cut [19, 20] from 59 to 72 (fun s19 s20 wz => s19 = .int .i64 (max xlo (min xhi lo)) ∧ s20 = .int .i64 (min (max hi xlo) xhi) ∧ wz = wx.drew)
      case first =>
        go_region
        go_wp2_with fail
        go_meet
        first | exact ⟨rfl, rfl, rfl⟩ | (case rel => exact ⟨rfl, rfl, rfl⟩)
      case rest =>
        obtain ⟨rfl, rfl, rfl⟩ := hcut
        rw [← HA2.out, ← HB3.out]
        obtain ⟨wz, HWZ⟩ : ∃ wz, wz = wx.drew := ⟨_, rfl⟩
        have HRZ : Hid (Rb wz wr.heap.size ⟨xlo, xhi, xtag⟩) := by rw [HWZ]; exact HRB.out
        have HROWZ : Hid (rowR wz w2.heap.size u15 lst) := by rw [HWZ]; exact HROWX.out
        have HBz : Hid (Below w2.heap.size w2 wz) := by rw [HWZ]; exact HBx.out.drew
        have HJ1 := Lib.hid (HJN.out w2.heap.size u15 lst ⟨xlo, A, xtag⟩ wz HROWZ.out HBz.out.size (by have := HL1.out; omega))
        rw [← HWZ]
        clear HWZ r0 r1 r2
        obtain ⟨r0, r1, r2⟩ := HRZ.out.cells
        simp only at r0 r1 r2
        have hw2b : IntKind.i64.wrap (nn + (B - A)) = nn + (B - A) := IntWalk.i64_in _ (by have := HBD.out.2; have := HBD.out.1.1; omega)
        have hw2c : IntKind.i64.wrap nn = nn := IntWalk.i64_in _ (by have := HBD.out.2; omega)
        have hab0 : (0 : Int) ≤ B - A := by have := HBD.out.2; have := HBD.out.1.1; omega
        have hwd1 : (if (0 : Int) < B - A then B - A else 0) = d := (hmx 0 (B - A)).trans HD.out.symm
        have hwd2 : max 0 (B - A) = d := HD.out.symm
        have hmab1 : (if A < B then B else A) = B := (hmx A B).trans HMAB.out
        have hmab2 : max A B = B := HMAB.out
        clear hmx hmn
        by_cases hpos : 0 < B - A
        · skip
          go_wp2_with fail
          refine HJ1.out.mono ?_
          rintro e y1 ⟨v1, rfl, HP1⟩
          have hk1 := HP1.out.box HRZ.out (fun g hg => Nat.ne_of_lt (HLTO.out g hg).2)
          have HK1 := Lib.hid hk1
          clear r0 r1 r2 hk1
          obtain ⟨r0, r1, r2⟩ := HK1.out.1.cells
          simp only at r0 r1 r2
          have HB1' := Lib.hid (HBz.out.trans HP1.out.bel)
          have HJ2 := Lib.hid (HJN.out w2.heap.size v1 _ ⟨A, B, tt⟩ y1 HP1.out.own HB1'.out.size (Nat.le_trans (joinL_len _ _) (by have := HL1.out; omega)))
          go_wp2_with fail
          refine HJ2.out.mono ?_
          rintro e y2 ⟨v2, rfl, HP2⟩
          have hk2 := HP2.out.box HK1.out.1 HK1.out.2
          have HK2 := Lib.hid hk2
          clear r0 r1 r2 hk2
          obtain ⟨r0, r1, r2⟩ := HK2.out.1.cells
          simp only at r0 r1 r2
          have HB2' := Lib.hid (HB1'.out.trans HP2.out.bel)
          have HJ3 : Hid (Calls Try.prog 49 #[v2, .agg #[.int .i64 B, .int .i64 xhi, .int .i64 xtag]] y2 fun e w' => ∃ v', e = .returned v' ∧ Hid (JP y2 w2.heap.size v2 (joinL (joinL (joinL lst ⟨xlo, A, xtag⟩) ⟨A, B, tt⟩) ⟨B, xhi, xtag⟩) v' w')) := HJN.out w2.heap.size v2 _ ⟨B, xhi, xtag⟩ y2 HP2.out.own HB2'.out.size (Nat.le_trans (joinL_len _ _) (by have := HL1.out; have := joinL_len lst ⟨xlo, A, xtag⟩; omega))
          go_wp2_with fail
          refine HJ3.out.mono ?_
          rintro e y3 ⟨v3, rfl, HP3⟩
          have HB3' := Lib.hid (HB2'.out.trans HP3.out.bel)
          have HF3 : Hid (rowR y3 w2.heap.size v3 (stepL lst ⟨xlo, xhi, xtag⟩ lo hi fr tt true)) := by
            have e0 := HP3.out.own
            have e1 : stepT ⟨xlo, xhi, xtag⟩ fr tt true = tt := if_pos (.inl rfl)
            show rowR y3 w2.heap.size v3 (joinL (joinL (joinL lst ⟨xlo, stepA ⟨xlo, xhi, xtag⟩ lo, xtag⟩) ⟨stepA ⟨xlo, xhi, xtag⟩ lo, stepB ⟨xlo, xhi, xtag⟩ hi, stepT ⟨xlo, xhi, xtag⟩ fr tt true⟩) ⟨max (stepA ⟨xlo, xhi, xtag⟩ lo) (stepB ⟨xlo, xhi, xtag⟩ hi), xhi, xtag⟩)
            rw [← HAH.out, ← HBH.out, e1, HMAB.out]
            exact e0
          clear r0 r1 r2
          go_wp2_with fail
          go_roundw
          case rel => exact ⟨j + 1, xhi, nn + d, _, by omega, by go_num, (by have z1 := HBD.out.1.1; have z3 := HBD.out.2; first | rfl | (rw [z1]) | (rw [show d = 0 by omega, Int.add_zero]) | (clear hwd1 hwd2 hmab1 hmab2; go_num)), ⟨HF3.out, HST.out, HLN.out⟩, HCAN2.out, ⟨HN2.out.1, HN2.out.2, fun h => by cases h⟩, HB3'.out⟩
          case measure => simp [intOf]; omega
        · have hAB : B = A := by omega
          subst hAB
          go_wp2_with fail
          refine HJ1.out.mono ?_
          rintro e y1 ⟨v1, rfl, HP1⟩
          have hk1 := HP1.out.box HRZ.out (fun g hg => Nat.ne_of_lt (HLTO.out g hg).2)
          have HK1 := Lib.hid hk1
          clear r0 r1 r2 hk1
          obtain ⟨r0, r1, r2⟩ := HK1.out.1.cells
          simp only at r0 r1 r2
          have HB1' := Lib.hid (HBz.out.trans HP1.out.bel)
          have HJ2 := Lib.hid (HJN.out w2.heap.size v1 _ ⟨B, B, tt⟩ y1 HP1.out.own HB1'.out.size (Nat.le_trans (joinL_len _ _) (by have := HL1.out; omega)))
          go_wp2_with fail
          refine HJ2.out.mono ?_
          rintro e y2 ⟨v2, rfl, HP2⟩
          have hk2 := HP2.out.box HK1.out.1 HK1.out.2
          have HK2 := Lib.hid hk2
          clear r0 r1 r2 hk2
          obtain ⟨r0, r1, r2⟩ := HK2.out.1.cells
          simp only at r0 r1 r2
          have HB2' := Lib.hid (HB1'.out.trans HP2.out.bel)
          have HJ3 : Hid (Calls Try.prog 49 #[v2, .agg #[.int .i64 B, .int .i64 xhi, .int .i64 xtag]] y2 fun e w' => ∃ v', e = .returned v' ∧ Hid (JP y2 w2.heap.size v2 (joinL (joinL (joinL lst ⟨xlo, B, xtag⟩) ⟨B, B, tt⟩) ⟨B, xhi, xtag⟩) v' w')) := HJN.out w2.heap.size v2 _ ⟨B, xhi, xtag⟩ y2 HP2.out.own HB2'.out.size (Nat.le_trans (joinL_len _ _) (by have := HL1.out; have := joinL_len lst ⟨xlo, B, xtag⟩; omega))
          go_wp2_with fail
          refine HJ3.out.mono ?_
          rintro e y3 ⟨v3, rfl, HP3⟩
          have HB3' := Lib.hid (HB2'.out.trans HP3.out.bel)
          have HF3 : Hid (rowR y3 w2.heap.size v3 (stepL lst ⟨xlo, xhi, xtag⟩ lo hi fr tt true)) := by
            have e0 := HP3.out.own
            have e1 : stepT ⟨xlo, xhi, xtag⟩ fr tt true = tt := if_pos (.inl rfl)
            show rowR y3 w2.heap.size v3 (joinL (joinL (joinL lst ⟨xlo, stepA ⟨xlo, xhi, xtag⟩ lo, xtag⟩) ⟨stepA ⟨xlo, xhi, xtag⟩ lo, stepB ⟨xlo, xhi, xtag⟩ hi, stepT ⟨xlo, xhi, xtag⟩ fr tt true⟩) ⟨max (stepA ⟨xlo, xhi, xtag⟩ lo) (stepB ⟨xlo, xhi, xtag⟩ hi), xhi, xtag⟩)
            rw [← HAH.out, ← HBH.out, e1, HMAB.out]
            exact e0
          clear r0 r1 r2
          go_wp2_with fail
          go_roundw
          case rel => exact ⟨j + 1, xhi, nn + d, _, by omega, by go_num, (by have z1 := HBD.out.1.1; have z3 := HBD.out.2; first | rfl | (rw [z1]) | (rw [show d = 0 by omega, Int.add_zero]) | (clear hwd1 hwd2 hmab1 hmab2; go_num)), ⟨HF3.out, HST.out, HLN.out⟩, HCAN2.out, ⟨HN2.out.1, HN2.out.2, fun h => by cases h⟩, HB3'.out⟩
          case measure => simp [intOf]; omega
    · have hlt3 : ¬ (j : Int) < n := by omega
      have hjn : j = n := by omega
      have hdr : L.drop j = [] := List.drop_eq_nil_of_le (by have := HN.out; omega)
      have htk : L.take j = L := List.take_of_length_le (by have := HN.out; omega)
      have hms : m = size := by have := HCJ.out.1.1; rw [hdr] at this; exact this
      have HCN : Hid (true = false → nn = cnt fr (clip lo hi L)) := by have := HNN.out.2.2; rw [htk] at this; exact this
      have HC9 : Hid (Gs.Can (gS f lo hi fr tt true) 0 lst size) := by rw [← hms]; exact HROW.out.2.1
      have HI9 : Hid (IsRs w2.heap.size wr u15 lst) := IsRs.of_row HROW.out.1
      obtain ⟨ra, rc, hv⟩ := own_slice HROW.out.1
      subst hv
      obtain ⟨ln, hln⟩ : ∃ ln, ln = lst.length := ⟨_, rfl⟩
      rw [← hln] at HI9 ⊢
      have HLN := Lib.hid hln
      have HFU := Lib.hid (fun u => Rfull_any size u ra ln rc wr)
      have HRr := Lib.hid (HR2.out.next HBr.out)
      have HWr := Lib.hid (HB2.out.trans (HBr.out.mono HB2.out.size))
      have HGE : Hid (W.heap.size + 1 < w2.heap.size) := HR2.out.lt
      have HGW : Hid (w2.heap.size ≤ wr.heap.size) := HBr.out.size
      clear hmx hmn hdr htk hms hln hjn
      go_wp2_with fail
      refine (HFU.out _).mono ?_
      rintro e w6 ⟨s', v', e2, rfl, HQ, hb, -⟩
      have HR6 := Lib.hid (HRr.out.next hb)
      have HB6 := Lib.hid (HWr.out.trans (hb.mono HWr.out.size))
      have HI6 := Lib.hid (HI9.out.below hb)
      clear hb k0 k1
      obtain ⟨w7, HW7⟩ : ∃ w7, w7 = w6.alloc (.cells #[.int .i64 s', v'] 33) := ⟨_, rfl⟩
      have b7 : Below w6.heap.size w6 w7 := by rw [HW7]; exact (Below.refl _ _).alloc (Nat.le_refl _) _
      have HM7 : Hid (M2 w6.heap.size (.int .i64 s') v' w7) := by rw [HW7]; exact M2.new _ _ _ _
      have HR7 := Lib.hid (HR6.out.next b7)
      have HB7 := Lib.hid (HB6.out.trans (b7.mono HB6.out.size))
      have HI7 := Lib.hid (HI6.out.below b7)
      have HW7' := Lib.hid HW7
      clear HW7 b7
      rcases HQ.out with ⟨q1, rfl, rfl, rfl⟩ | ⟨q1, rfl, rfl, rfl⟩
      · have d0 := HR7.out.c0; have d1 := HR7.out.c1; have d2 := HR7.out.f0; have d3 := HR7.out.f1
        obtain ⟨u0, u1⟩ : _ ∧ _ := ⟨(HR7.out.put (.int .i64 0) (.slice none 0 0)).c0, (HR7.out.put (.int .i64 0) (.slice none 0 0)).c1⟩
        go_upto_region 22 with fail
        rw [← HW7'.out]
        go_wp2_with fail
        refine bodyPost_ret (v := .tuple #[.agg #[.int .i64 0, .slice none 0 0], .int .i64 0, .int .i64 5]) (by simp [results, Try.results43, go_sem, u0, u1]) rfl ?_
        have HBF := below_put HB7.out (B := W.heap.size + 1) (by omega) (.int .i64 0) (.slice none 0 0)
        have HRU : ∀ W', RU f size lo hi fr tt true L W.heap.size 0 (.slice none 0 0) 0 5 W' := fun W' => ⟨lst, HC9.out, .inl ⟨by rw [← HLN.out]; exact q1, rfl, rfl, rfl, rfl⟩⟩
        first
        | exact ⟨0, _, 0, 5, rfl, HRU _, HB7.out⟩
        | exact ⟨0, _, 0, 5, rfl, HRU _, HBF⟩
      · have d0 := HR7.out.c0; have d1 := HR7.out.c1; have d2 := HR7.out.f0; have d3 := HR7.out.f1
        have k0 := HM7.out.c0; have k1 := HM7.out.c1
        obtain ⟨u0, u1⟩ : _ ∧ _ := ⟨(HR7.out.put (.int .i64 s') (.slice ra ln rc)).c0, (HR7.out.put (.int .i64 s') (.slice ra ln rc)).c1⟩
        go_upto_region 22 with fail
        rw [← HW7'.out]
        go_wp2_with fail
        refine bodyPost_ret (v := .tuple #[.agg #[.int .i64 s', .slice ra ln rc], .int .i64 nn, .int .i64 0]) (by simp [results, Try.results43, go_sem, u0, u1]) rfl ?_
        have HBF := below_put HB7.out (B := W.heap.size + 1) (by omega) (.int .i64 s') (.slice ra ln rc)
        have HIF := ((HI7.out.set ⟨W.heap.size + 1, 0, none⟩ (by have := HGE.out; show W.heap.size + 1 < _; omega) (.int .i64 s')).set ⟨W.heap.size + 1, 1, none⟩ (by have := HGE.out; show W.heap.size + 1 < _; omega) (.slice ra ln rc)).mono (base' := W.heap.size) (by have := HGE.out; omega)
        exact ⟨s', _, nn, 0, rfl, ⟨lst, HC9.out, .inr ⟨by rw [← HLN.out]; exact q1, rfl, rfl, HIF, fun h => HCN.out (by first | exact h | trivial | cases h)⟩⟩, HBF⟩
end Go.Proofs.Ytjbenhmpeceaeaa
