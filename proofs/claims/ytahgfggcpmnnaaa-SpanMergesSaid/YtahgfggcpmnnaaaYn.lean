/- The contract of glue: NN, ND, NS. -/
import Derived.Test.YtahgfggcpmnnaaaYm
import Derived.BigQuiet
import Derived.Deep.QuietTactic
import Derived.Deep.RegionWith
namespace Go.Proofs.Ytahgfggcpmnnaaa
open Go Go.RowKit Gs

set_option maxRecDepth 100000 in
set_option maxHeartbeats 1000000 in
theorem glue_NN (f : Int → Int) (a b lo hi tag : Int) (n m : Nat) (p q : Option Addr) (W : World) (hl : Tr f a lo n W p) (hk : Tr f hi b m W q) (hx : Ctx f a b) (hn : n + m ≤ 40000) (h1 : lo < hi) (h2 : ∀ x, lo ≤ x → x < hi → f x = tag)
    (ep : p = none) (ea : a = lo)
    (eq : q = none) (eb : hi = b) :
    Calls Try.prog 68 #[.pointer p, .agg #[.int .i64 lo, .int .i64 hi, .int .i64 tag], .pointer q] W fun e w' => ∃ g, e = .returned (.pointer (some ⟨g, 0, none⟩)) ∧ Hid (Tr f a b (n + m + 1) w' (some ⟨g, 0, none⟩)) ∧ Below W.heap.size W w' := by
  have q1 := hl.le; have q2 := hk.le
  subst ep
  subst eq
  have HF : Hid (∀ x, lo ≤ x → x < hi → f x = tag) := by
    intro x x1 x2
    exact h2 x (by omega) (by omega)
  have HA : Hid (a < lo → f (lo - 1) ≠ f lo) := by
    intro h; omega
  have HZ : Hid (hi < b → f (hi - 1) ≠ f hi) := by
    intro h; omega
  have HL := Lib.hid hl; have HK := Lib.hid hk; have HX := Lib.hid hx
  have HJ : Hid (∀ x y W', Bq W lo hi tag W' → Tr f a lo n W' x → Tr f hi b m W' y → Calls Try.prog 78 #[.pointer x, .agg #[.int .i64 lo, .int .i64 hi, .int .i64 tag], .pointer y] W' fun e w' => ∃ g, e = .returned (.pointer (some ⟨g, 0, none⟩)) ∧ Hid (Tr f a b (n + m + 1) w' (some ⟨g, 0, none⟩)) ∧ Below W.heap.size W w') := fun x y W' h hX hY =>
    (hX.join hY hx (by omega) (by omega) HF.out HA.out HZ.out).mono fun e w' ⟨g, he, ht, hB⟩ => ⟨g, he, ht, h.bel.trans (hB.mono h.bel.size)⟩
  have HBQ : Hid (Bq W lo hi tag (W.alloc (.cells #[.int .i64 lo, .int .i64 hi, .int .i64 tag] 64))) := Bq.new W lo hi tag _
  clear hl hk hx hn h1 h2 q1 q2 ea eb
  go_enter Try.func68, Try.ntmps68
  go_wp2_with fail
  obtain ⟨w1, HW1⟩ : ∃ w1, w1 = W.alloc (.cells #[.int .i64 lo, .int .i64 hi, .int .i64 tag] 64) := ⟨_, rfl⟩
  rw [← HW1] at HBQ ⊢
  clear HW1
  have hq := HBQ.out
  have k2 := hq.c2
  go_quiet (fail)
  rename_i nq
  have hq' := hq.drewN nq
  clear hq k2
  generalize hw : World.drewN _ nq = w2 at hq' ⊢
  clear hw
  have hq := hq'
  clear hq'
  have k2 := hq.c2
  go_wp2_with fail
  go_quiet (fail)
  rename_i nq
  have hq' := hq.drewN nq
  clear hq k2
  generalize hw : World.drewN _ nq = w2 at hq' ⊢
  clear hw
  have hq := hq'
  clear hq'
  have k0 := hq.c0
  have k1 := hq.c1
  have k2 := hq.c2
  go_wp2_with fail
  refine (HJ.out _ _ _ hq (HL.out.below hq.bel) (HK.out.below hq.bel)).mono ?_
  rintro e w' ⟨g, rfl, HG, hb⟩
  have HB := Lib.hid hb
  clear hb hq k0 k1 k2
  go_wp2_with fail
  go_ret
  exact ⟨g, rfl, HG, HB.out⟩
set_option maxRecDepth 100000 in
set_option maxHeartbeats 1000000 in
theorem glue_ND (f : Int → Int) (a b lo hi tag : Int) (n m : Nat) (p q : Option Addr) (W : World) (hl : Tr f a lo n W p) (hk : Tr f hi b m W q) (hx : Ctx f a b) (hn : n + m ≤ 40000) (h1 : lo < hi) (h2 : ∀ x, lo ≤ x → x < hi → f x = tag)
    (ep : p = none) (ea : a = lo)
    (br : Nat) (zhi ztag : Int) (eq : q = some ⟨br, 0, none⟩) (hfirst : ∀ W', Below W.heap.size W W' → Calls Try.prog 77 #[.pointer (some ⟨br, 0, none⟩)] W' fun e w' => e = .returned (.agg #[.int .i64 hi, .int .i64 zhi, .int .i64 ztag]) ∧ Below W'.heap.size W' w') (z1 : hi < zhi) (_z2 : zhi ≤ b) (z3 : ∀ x, hi ≤ x → x < zhi → f x = ztag) (_z4 : zhi < b → f (zhi - 1) ≠ f zhi) (ze : ztag ≠ tag) :
    Calls Try.prog 68 #[.pointer p, .agg #[.int .i64 lo, .int .i64 hi, .int .i64 tag], .pointer q] W fun e w' => ∃ g, e = .returned (.pointer (some ⟨g, 0, none⟩)) ∧ Hid (Tr f a b (n + m + 1) w' (some ⟨g, 0, none⟩)) ∧ Below W.heap.size W w' := by
  have q1 := hl.le; have q2 := hk.le
  subst ep
  subst eq
  have HF : Hid (∀ x, lo ≤ x → x < hi → f x = tag) := by
    intro x x1 x2
    exact h2 x (by omega) (by omega)
  have HA : Hid (a < lo → f (lo - 1) ≠ f lo) := by
    intro h; omega
  have HZ : Hid (hi < b → f (hi - 1) ≠ f hi) := by
    intro _; rw [z3 hi (by omega) (by omega), h2 (hi - 1) (by omega) (by omega)]; exact fun h => ze h.symm
  have HL := Lib.hid hl; have HK := Lib.hid hk; have HX := Lib.hid hx
  have HFS : Hid (∀ u v W', Bq W u v tag W' → Calls Try.prog 77 #[.pointer (some ⟨br, 0, none⟩)] W' fun e w' => e = .returned (.agg #[.int .i64 hi, .int .i64 zhi, .int .i64 ztag]) ∧ Hid (Below W'.heap.size W' w') ∧ Bq W u v tag w') := fun u v W' h => (hfirst W' h.bel).mono fun e w' ⟨he, hB⟩ => ⟨he, hB, h.next hB⟩
  have HJ : Hid (∀ x y W', Bq W lo hi tag W' → Tr f a lo n W' x → Tr f hi b m W' y → Calls Try.prog 78 #[.pointer x, .agg #[.int .i64 lo, .int .i64 hi, .int .i64 tag], .pointer y] W' fun e w' => ∃ g, e = .returned (.pointer (some ⟨g, 0, none⟩)) ∧ Hid (Tr f a b (n + m + 1) w' (some ⟨g, 0, none⟩)) ∧ Below W.heap.size W w') := fun x y W' h hX hY =>
    (hX.join hY hx (by omega) (by omega) HF.out HA.out HZ.out).mono fun e w' ⟨g, he, ht, hB⟩ => ⟨g, he, ht, h.bel.trans (hB.mono h.bel.size)⟩
  have re : (ztag == tag) = false := by exact beq_eq_false_iff_ne.2 ze
  have hfl0 : ∀ (x y z : Int) (w : World), (Instr.field 64 (.agg #[.int .i64 x, .int .i64 y, .int .i64 z]) 0).run Try.prog w = .ok (.int .i64 x) w := fun _ _ _ _ => rfl
  have hfl1 : ∀ (x y z : Int) (w : World), (Instr.field 64 (.agg #[.int .i64 x, .int .i64 y, .int .i64 z]) 1).run Try.prog w = .ok (.int .i64 y) w := fun _ _ _ _ => rfl
  have hfl2 : ∀ (x y z : Int) (w : World), (Instr.field 64 (.agg #[.int .i64 x, .int .i64 y, .int .i64 z]) 2).run Try.prog w = .ok (.int .i64 z) w := fun _ _ _ _ => rfl
  have HBQ : Hid (Bq W lo hi tag (W.alloc (.cells #[.int .i64 lo, .int .i64 hi, .int .i64 tag] 64))) := Bq.new W lo hi tag _
  clear hl hk hx hn h1 h2 q1 q2 ea hfirst z1 _z2 z3 _z4 ze
  go_enter Try.func68, Try.ntmps68
  go_wp2_with fail
  obtain ⟨w1, HW1⟩ : ∃ w1, w1 = W.alloc (.cells #[.int .i64 lo, .int .i64 hi, .int .i64 tag] 64) := ⟨_, rfl⟩
  rw [← HW1] at HBQ ⊢
  clear HW1
  have hq := HBQ.out
  have k2 := hq.c2
  go_quiet (fail)
  rename_i nq
  have hq' := hq.drewN nq
  clear hq k2
  generalize hw : World.drewN _ nq = w2 at hq' ⊢
  clear hw
  have hq := hq'
  clear hq'
  have k2 := hq.c2
  go_wp2_with fail
  go_region_with ((go_at_call 77; with_reducible refine (HFS.out lo hi _ ?h).mono ?_; (case h => (first | assumption | exact Bq.drew (by assumption) | fail)); rintro e w' ⟨rfl, hbf, hq'⟩; have kc' := hq'.c2))
  all_goals
    clear hq k2 kc'
    have hq := hq'
    clear hq'
    have k0 := hq.c0
    have k1 := hq.c1
    have k2 := hq.c2
    go_wp2_with fail
    refine (HJ.out _ _ _ hq (HL.out.below hq.bel) (HK.out.below hq.bel)).mono ?_
    rintro e w' ⟨g, rfl, HG, hb⟩
    have HB := Lib.hid hb
    clear hb hq k0 k1 k2
    go_wp2_with fail
    go_ret
    exact ⟨g, rfl, HG, HB.out⟩
set_option maxRecDepth 100000 in
set_option maxHeartbeats 1000000 in
theorem glue_NS (f : Int → Int) (a b lo hi tag : Int) (n m : Nat) (p q : Option Addr) (W : World) (hl : Tr f a lo n W p) (hk : Tr f hi b m W q) (hx : Ctx f a b) (hn : n + m ≤ 40000) (h1 : lo < hi) (h2 : ∀ x, lo ≤ x → x < hi → f x = tag)
    (ep : p = none) (ea : a = lo)
    (br : Nat) (zhi ztag : Int) (eq : q = some ⟨br, 0, none⟩) (hfirst : ∀ W', Below W.heap.size W W' → Calls Try.prog 77 #[.pointer (some ⟨br, 0, none⟩)] W' fun e w' => e = .returned (.agg #[.int .i64 hi, .int .i64 zhi, .int .i64 ztag]) ∧ Below W'.heap.size W' w') (z1 : hi < zhi) (z2 : zhi ≤ b) (z3 : ∀ x, hi ≤ x → x < zhi → f x = ztag) (z4 : zhi < b → f (zhi - 1) ≠ f zhi) (ze : tag = ztag) :
    Calls Try.prog 68 #[.pointer p, .agg #[.int .i64 lo, .int .i64 hi, .int .i64 tag], .pointer q] W fun e w' => ∃ g, e = .returned (.pointer (some ⟨g, 0, none⟩)) ∧ Hid (Tr f a b (n + m + 1) w' (some ⟨g, 0, none⟩)) ∧ Below W.heap.size W w' := by
  have q1 := hl.le; have q2 := hk.le
  subst ep
  subst eq
  subst ze
  have HF : Hid (∀ x, lo ≤ x → x < zhi → f x = tag) := by
    intro x x1 x2
    by_cases g2 : hi ≤ x
    · exact z3 x g2 x2
    exact h2 x (by omega) (by omega)
  have HA : Hid (a < lo → f (lo - 1) ≠ f lo) := by
    intro h; omega
  have HZ : Hid (zhi < b → f (zhi - 1) ≠ f zhi) := by
    exact z4
  have HL := Lib.hid hl; have HK := Lib.hid hk; have HX := Lib.hid hx
  have HFS : Hid (∀ u v W', Bq W u v tag W' → Calls Try.prog 77 #[.pointer (some ⟨br, 0, none⟩)] W' fun e w' => e = .returned (.agg #[.int .i64 hi, .int .i64 zhi, .int .i64 tag]) ∧ Hid (Below W'.heap.size W' w') ∧ Bq W u v tag w') := fun u v W' h => (hfirst W' h.bel).mono fun e w' ⟨he, hB⟩ => ⟨he, hB, h.next hB⟩
  have HSR : Hid (∀ u v W', Bq W u v tag W' → Calls Try.prog 75 #[.pointer (some ⟨br, 0, none⟩), .int .i64 zhi] W' fun e w' => ∃ x y, e = .returned (.tuple #[.pointer x, .pointer y]) ∧ Hid (Tr f zhi b m w' y) ∧ Hid (Below W'.heap.size W' w') ∧ Bq W u v tag w') := fun u v W' h =>
    ((hk.below h.bel).split (hx.sub (by omega) (by omega)) (by omega) (by omega) z2).mono fun e w' ⟨x, y, he, hX, hY, hB⟩ => ⟨x, y, he, hY, hB, h.next hB⟩
  have HJ : Hid (∀ x y W', Bq W lo zhi tag W' → Tr f a lo n W' x → Tr f zhi b m W' y → Calls Try.prog 78 #[.pointer x, .agg #[.int .i64 lo, .int .i64 zhi, .int .i64 tag], .pointer y] W' fun e w' => ∃ g, e = .returned (.pointer (some ⟨g, 0, none⟩)) ∧ Hid (Tr f a b (n + m + 1) w' (some ⟨g, 0, none⟩)) ∧ Below W.heap.size W w') := fun x y W' h hX hY =>
    (hX.join hY hx (by omega) (by omega) HF.out HA.out HZ.out).mono fun e w' ⟨g, he, ht, hB⟩ => ⟨g, he, ht, h.bel.trans (hB.mono h.bel.size)⟩
  have hfl0 : ∀ (x y z : Int) (w : World), (Instr.field 64 (.agg #[.int .i64 x, .int .i64 y, .int .i64 z]) 0).run Try.prog w = .ok (.int .i64 x) w := fun _ _ _ _ => rfl
  have hfl1 : ∀ (x y z : Int) (w : World), (Instr.field 64 (.agg #[.int .i64 x, .int .i64 y, .int .i64 z]) 1).run Try.prog w = .ok (.int .i64 y) w := fun _ _ _ _ => rfl
  have hfl2 : ∀ (x y z : Int) (w : World), (Instr.field 64 (.agg #[.int .i64 x, .int .i64 y, .int .i64 z]) 2).run Try.prog w = .ok (.int .i64 z) w := fun _ _ _ _ => rfl
  have HBQ : Hid (Bq W lo hi tag (W.alloc (.cells #[.int .i64 lo, .int .i64 hi, .int .i64 tag] 64))) := Bq.new W lo hi tag _
  clear hl hk hx hn h1 h2 q1 q2 ea hfirst z1 z2 z3 z4
  go_enter Try.func68, Try.ntmps68
  go_wp2_with fail
  obtain ⟨w1, HW1⟩ : ∃ w1, w1 = W.alloc (.cells #[.int .i64 lo, .int .i64 hi, .int .i64 tag] 64) := ⟨_, rfl⟩
  rw [← HW1] at HBQ ⊢
  clear HW1
  have hq := HBQ.out
  have k2 := hq.c2
  go_quiet (fail)
  rename_i nq
  have hq' := hq.drewN nq
  clear hq k2
  generalize hw : World.drewN _ nq = w2 at hq' ⊢
  clear hw
  have hq := hq'
  clear hq'
  have k2 := hq.c2
  go_wp2_with fail
  go_region_with ((go_at_call 77; with_reducible refine (HFS.out lo hi _ ?h).mono ?_; (case h => (first | assumption | exact Bq.drew (by assumption) | fail)); rintro e w' ⟨rfl, hbf, hq'⟩; have kc' := hq'.c2))
  all_goals
    clear hq k2 kc'
    have hq := hq'
    clear hq'
    go_wp2_with fail
    refine (HFS.out _ _ _ hq).mono ?_
    rintro e w7 ⟨rfl, hb7, hq3⟩
    clear hq
    have j0 := hq3.c1
    have j1 := hq3.f1
    have hq4 := hq3.put1 zhi
    have j2 := hq4.c1
    go_wp2_with fail
    refine (HSR.out _ _ _ hq4).mono ?_
    rintro e w9 ⟨y', y, rfl, HTY, hb9, hq⟩
    clear j0 j1 j2
    have k0 := hq.c0
    have k1 := hq.c1
    have k2 := hq.c2
    go_wp2_with fail
    refine (HJ.out _ _ _ hq (HL.out.below hq.bel) HTY.out).mono ?_
    rintro e w' ⟨g, rfl, HG, hb⟩
    have HB := Lib.hid hb
    clear hb hq k0 k1 k2
    go_wp2_with fail
    go_ret
    exact ⟨g, rfl, HG, HB.out⟩
end Go.Proofs.Ytahgfggcpmnnaaa
