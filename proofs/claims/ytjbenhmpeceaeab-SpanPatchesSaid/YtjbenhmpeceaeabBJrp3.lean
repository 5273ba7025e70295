/- Contracts and lemmas (several texts merged into one). -/
import Derived.Test.YtjbenhmpeceaeabBJrp2
import Derived.BigQuiet
import Derived.Deep.QuietTactic
import Derived.Deep.RegionWith
import Derived.Test.YtjbenhmpeceaeabBJrp1
import Derived.WalkSmall
namespace Go.Proofs.Ytjbenhmpeceaeab
open Go Go.RowKit Gs

set_option maxRecDepth 100000 in
set_option maxHeartbeats 1000000 in
theorem glue_SN (f : Int → Int) (a b lo hi tag : Int) (n m : Nat) (p q : Option Addr) (W : World) (hl : Tr f a lo n W p) (hk : Tr f hi b m W q) (hx : Ctx f a b) (hn : n + m ≤ 40000) (h1 : lo < hi) (h2 : ∀ x, lo ≤ x → x < hi → f x = tag)
    (bl : Nat) (ylo ytag : Int) (ep : p = some ⟨bl, 0, none⟩) (hlast : ∀ W', Below W.heap.size W W' → Calls Try.prog 53 #[.pointer (some ⟨bl, 0, none⟩)] W' fun e w' => e = .returned (.agg #[.int .i64 ylo, .int .i64 lo, .int .i64 ytag]) ∧ Below W'.heap.size W' w') (y1 : ylo < lo) (y2 : a ≤ ylo) (y3 : ∀ x, ylo ≤ x → x < lo → f x = ytag) (y4 : a < ylo → f (ylo - 1) ≠ f ylo) (ye : tag = ytag)
    (eq : q = none) (eb : hi = b) :
    Calls Try.prog 37 #[.pointer p, .agg #[.int .i64 lo, .int .i64 hi, .int .i64 tag], .pointer q] W fun e w' => ∃ g, e = .returned (.pointer (some ⟨g, 0, none⟩)) ∧ Hid (Tr f a b (n + m + 1) w' (some ⟨g, 0, none⟩)) ∧ Below W.heap.size W w' := by
  have q1 := hl.le; have q2 := hk.le
  subst ep
  subst eq
  subst ye
  have HF : Hid (∀ x, ylo ≤ x → x < hi → f x = tag) := by
    intro x x1 x2
    by_cases g1 : x < lo
    · exact y3 x x1 g1
    exact h2 x (by omega) (by omega)
  have HA : Hid (a < ylo → f (ylo - 1) ≠ f ylo) := by
    exact y4
  have HZ : Hid (hi < b → f (hi - 1) ≠ f hi) := by
    intro h; omega
  have HL := Lib.hid hl; have HK := Lib.hid hk; have HX := Lib.hid hx
  have HLS : Hid (∀ u v W', Bq W u v tag W' → Calls Try.prog 53 #[.pointer (some ⟨bl, 0, none⟩)] W' fun e w' => e = .returned (.agg #[.int .i64 ylo, .int .i64 lo, .int .i64 tag]) ∧ Bq W u v tag w') := fun u v W' h => (hlast W' h.bel).mono fun e w' ⟨he, hB⟩ => ⟨he, h.next hB⟩
  have HSL : Hid (∀ u v W', Bq W u v tag W' → Calls Try.prog 51 #[.pointer (some ⟨bl, 0, none⟩), .int .i64 ylo] W' fun e w' => ∃ x y, e = .returned (.tuple #[.pointer x, .pointer y]) ∧ Hid (Tr f a ylo n w' x) ∧ Bq W u v tag w') := fun u v W' h =>
    ((hl.below h.bel).split (hx.sub (by omega) (by omega)) (by omega) y2 (by omega)).mono fun e w' ⟨x, y, he, hX, hY, hB⟩ => ⟨x, y, he, hX, h.next hB⟩
  have HJ : Hid (∀ x y W', Bq W ylo hi tag W' → Tr f a ylo n W' x → Tr f hi b m W' y → Calls Try.prog 54 #[.pointer x, .agg #[.int .i64 ylo, .int .i64 hi, .int .i64 tag], .pointer y] W' fun e w' => ∃ g, e = .returned (.pointer (some ⟨g, 0, none⟩)) ∧ Hid (Tr f a b (n + m + 1) w' (some ⟨g, 0, none⟩)) ∧ Below W.heap.size W w') := fun x y W' h hX hY =>
    (hX.join hY hx (by omega) (by omega) HF.out HA.out HZ.out).mono fun e w' ⟨g, he, ht, hB⟩ => ⟨g, he, ht, h.bel.trans (hB.mono h.bel.size)⟩
  have hfl0 : ∀ (x y z : Int) (w : World), (Instr.field 46 (.agg #[.int .i64 x, .int .i64 y, .int .i64 z]) 0).run Try.prog w = .ok (.int .i64 x) w := fun _ _ _ _ => rfl
  have hfl1 : ∀ (x y z : Int) (w : World), (Instr.field 46 (.agg #[.int .i64 x, .int .i64 y, .int .i64 z]) 1).run Try.prog w = .ok (.int .i64 y) w := fun _ _ _ _ => rfl
  have hfl2 : ∀ (x y z : Int) (w : World), (Instr.field 46 (.agg #[.int .i64 x, .int .i64 y, .int .i64 z]) 2).run Try.prog w = .ok (.int .i64 z) w := fun _ _ _ _ => rfl
  have HBQ : Hid (Bq W lo hi tag (W.alloc (.cells #[.int .i64 lo, .int .i64 hi, .int .i64 tag] 46))) := Bq.new W lo hi tag _
  clear hl hk hx hn h1 h2 q1 q2 hlast y1 y2 y3 y4 eb
  go_enter Try.func37, Try.ntmps37
  go_wp2_with fail
  obtain ⟨w1, HW1⟩ : ∃ w1, w1 = W.alloc (.cells #[.int .i64 lo, .int .i64 hi, .int .i64 tag] 46) := ⟨_, rfl⟩
  rw [← HW1] at HBQ ⊢
  clear HW1
  have hq := HBQ.out
  have k2 := hq.c2
  go_region_with ((go_at_call 53; with_reducible refine (HLS.out lo hi _ ?h).mono ?_; (case h => (first | assumption | exact Bq.drew (by assumption) | fail)); rintro e w' ⟨rfl, hq'⟩; have kc' := hq'.c2))
  all_goals
    clear hq k2 kc'
    have hq := hq'
    clear hq'
    go_wp2_with fail
    refine (HLS.out _ _ _ hq).mono ?_
    rintro e w3 ⟨rfl, hq3⟩
    clear hq
    have j0 := hq3.c0
    have j1 := hq3.f0
    have hq4 := hq3.put ylo
    have j2 := hq4.c0
    clear hq3
    go_wp2_with fail
    refine (HSL.out _ _ _ hq4).mono ?_
    rintro e w5 ⟨x, x', rfl, HTX, hq⟩
    clear j0 j1 j2 hq4
    have k2 := hq.c2
    go_wp2_with fail
    go_quiet (fail)
    rename_i nq
    have hq' := hq.drewN nq
    clear hq k2
    have HTX2 := Lib.hid (HTX.out.below (below_drewN (Below.refl _ _) nq))
    clear HTX
    generalize hw : World.drewN _ nq = w2 at hq' HTX2 ⊢
    clear hw
    have hq := hq'
    clear hq'
    have k0 := hq.c0
    have k1 := hq.c1
    have k2 := hq.c2
    go_wp2_with fail
    refine (HJ.out _ _ _ hq HTX2.out (HK.out.below hq.bel)).mono ?_
    rintro e w' ⟨g, rfl, HG, hb⟩
    have HB := Lib.hid hb
    clear hb hq k0 k1 k2
    go_wp2_with fail
    go_ret
    exact ⟨g, rfl, HG, HB.out⟩
set_option maxRecDepth 100000 in
set_option maxHeartbeats 1000000 in
theorem glue_SD (f : Int → Int) (a b lo hi tag : Int) (n m : Nat) (p q : Option Addr) (W : World) (hl : Tr f a lo n W p) (hk : Tr f hi b m W q) (hx : Ctx f a b) (hn : n + m ≤ 40000) (h1 : lo < hi) (h2 : ∀ x, lo ≤ x → x < hi → f x = tag)
    (bl : Nat) (ylo ytag : Int) (ep : p = some ⟨bl, 0, none⟩) (hlast : ∀ W', Below W.heap.size W W' → Calls Try.prog 53 #[.pointer (some ⟨bl, 0, none⟩)] W' fun e w' => e = .returned (.agg #[.int .i64 ylo, .int .i64 lo, .int .i64 ytag]) ∧ Below W'.heap.size W' w') (y1 : ylo < lo) (y2 : a ≤ ylo) (y3 : ∀ x, ylo ≤ x → x < lo → f x = ytag) (y4 : a < ylo → f (ylo - 1) ≠ f ylo) (ye : tag = ytag)
    (br : Nat) (zhi ztag : Int) (eq : q = some ⟨br, 0, none⟩) (hfirst : ∀ W', Below W.heap.size W W' → Calls Try.prog 52 #[.pointer (some ⟨br, 0, none⟩)] W' fun e w' => e = .returned (.agg #[.int .i64 hi, .int .i64 zhi, .int .i64 ztag]) ∧ Below W'.heap.size W' w') (z1 : hi < zhi) (_z2 : zhi ≤ b) (z3 : ∀ x, hi ≤ x → x < zhi → f x = ztag) (_z4 : zhi < b → f (zhi - 1) ≠ f zhi) (ze : ztag ≠ tag) :
    Calls Try.prog 37 #[.pointer p, .agg #[.int .i64 lo, .int .i64 hi, .int .i64 tag], .pointer q] W fun e w' => ∃ g, e = .returned (.pointer (some ⟨g, 0, none⟩)) ∧ Hid (Tr f a b (n + m + 1) w' (some ⟨g, 0, none⟩)) ∧ Below W.heap.size W w' := by
  have q1 := hl.le; have q2 := hk.le
  subst ep
  subst eq
  subst ye
  have HF : Hid (∀ x, ylo ≤ x → x < hi → f x = tag) := by
    intro x x1 x2
    by_cases g1 : x < lo
    · exact y3 x x1 g1
    exact h2 x (by omega) (by omega)
  have HA : Hid (a < ylo → f (ylo - 1) ≠ f ylo) := by
    exact y4
  have HZ : Hid (hi < b → f (hi - 1) ≠ f hi) := by
    intro _; rw [z3 hi (by omega) (by omega), h2 (hi - 1) (by omega) (by omega)]; exact fun h => ze h.symm
  have HL := Lib.hid hl; have HK := Lib.hid hk; have HX := Lib.hid hx
  have HLS : Hid (∀ u v W', Bq W u v tag W' → Calls Try.prog 53 #[.pointer (some ⟨bl, 0, none⟩)] W' fun e w' => e = .returned (.agg #[.int .i64 ylo, .int .i64 lo, .int .i64 tag]) ∧ Bq W u v tag w') := fun u v W' h => (hlast W' h.bel).mono fun e w' ⟨he, hB⟩ => ⟨he, h.next hB⟩
  have HSL : Hid (∀ u v W', Bq W u v tag W' → Calls Try.prog 51 #[.pointer (some ⟨bl, 0, none⟩), .int .i64 ylo] W' fun e w' => ∃ x y, e = .returned (.tuple #[.pointer x, .pointer y]) ∧ Hid (Tr f a ylo n w' x) ∧ Bq W u v tag w') := fun u v W' h =>
    ((hl.below h.bel).split (hx.sub (by omega) (by omega)) (by omega) y2 (by omega)).mono fun e w' ⟨x, y, he, hX, hY, hB⟩ => ⟨x, y, he, hX, h.next hB⟩
  have HFS : Hid (∀ u v W', Bq W u v tag W' → Calls Try.prog 52 #[.pointer (some ⟨br, 0, none⟩)] W' fun e w' => e = .returned (.agg #[.int .i64 hi, .int .i64 zhi, .int .i64 ztag]) ∧ Hid (Below W'.heap.size W' w') ∧ Bq W u v tag w') := fun u v W' h => (hfirst W' h.bel).mono fun e w' ⟨he, hB⟩ => ⟨he, hB, h.next hB⟩
  have HJ : Hid (∀ x y W', Bq W ylo hi tag W' → Tr f a ylo n W' x → Tr f hi b m W' y → Calls Try.prog 54 #[.pointer x, .agg #[.int .i64 ylo, .int .i64 hi, .int .i64 tag], .pointer y] W' fun e w' => ∃ g, e = .returned (.pointer (some ⟨g, 0, none⟩)) ∧ Hid (Tr f a b (n + m + 1) w' (some ⟨g, 0, none⟩)) ∧ Below W.heap.size W w') := fun x y W' h hX hY =>
    (hX.join hY hx (by omega) (by omega) HF.out HA.out HZ.out).mono fun e w' ⟨g, he, ht, hB⟩ => ⟨g, he, ht, h.bel.trans (hB.mono h.bel.size)⟩
  have re : (ztag == tag) = false := by exact beq_eq_false_iff_ne.2 ze
  have hfl0 : ∀ (x y z : Int) (w : World), (Instr.field 46 (.agg #[.int .i64 x, .int .i64 y, .int .i64 z]) 0).run Try.prog w = .ok (.int .i64 x) w := fun _ _ _ _ => rfl
  have hfl1 : ∀ (x y z : Int) (w : World), (Instr.field 46 (.agg #[.int .i64 x, .int .i64 y, .int .i64 z]) 1).run Try.prog w = .ok (.int .i64 y) w := fun _ _ _ _ => rfl
  have hfl2 : ∀ (x y z : Int) (w : World), (Instr.field 46 (.agg #[.int .i64 x, .int .i64 y, .int .i64 z]) 2).run Try.prog w = .ok (.int .i64 z) w := fun _ _ _ _ => rfl
  have HBQ : Hid (Bq W lo hi tag (W.alloc (.cells #[.int .i64 lo, .int .i64 hi, .int .i64 tag] 46))) := Bq.new W lo hi tag _
  clear hl hk hx hn h1 h2 q1 q2 hlast y1 y2 y3 y4 hfirst z1 _z2 z3 _z4 ze
  go_enter Try.func37, Try.ntmps37
  go_wp2_with fail
  obtain ⟨w1, HW1⟩ : ∃ w1, w1 = W.alloc (.cells #[.int .i64 lo, .int .i64 hi, .int .i64 tag] 46) := ⟨_, rfl⟩
  rw [← HW1] at HBQ ⊢
  clear HW1
  have hq := HBQ.out
  have k2 := hq.c2
  go_region_with ((go_at_call 53; with_reducible refine (HLS.out lo hi _ ?h).mono ?_; (case h => (first | assumption | exact Bq.drew (by assumption) | fail)); rintro e w' ⟨rfl, hq'⟩; have kc' := hq'.c2))
  all_goals
    clear hq k2 kc'
    have hq := hq'
    clear hq'
    go_wp2_with fail
    refine (HLS.out _ _ _ hq).mono ?_
    rintro e w3 ⟨rfl, hq3⟩
    clear hq
    have j0 := hq3.c0
    have j1 := hq3.f0
    have hq4 := hq3.put ylo
    have j2 := hq4.c0
    clear hq3
    go_wp2_with fail
    refine (HSL.out _ _ _ hq4).mono ?_
    rintro e w5 ⟨x, x', rfl, HTX, hq⟩
    clear j0 j1 j2 hq4
    have k2 := hq.c2
    go_wp2_with fail
    go_region_with ((go_at_call 52; with_reducible refine (HFS.out ylo hi _ ?h).mono ?_; (case h => (first | assumption | exact Bq.drew (by assumption) | fail)); rintro e w' ⟨rfl, hbf, hq'⟩; have kc' := hq'.c2))
    all_goals
      have HTX2 := Lib.hid ((HTX.out.below (Below.refl _ _).drew).below hbf.out)
      clear hq k2 kc'
      have hq := hq'
      clear hq'
      have k0 := hq.c0
      have k1 := hq.c1
      have k2 := hq.c2
      go_wp2_with fail
      refine (HJ.out _ _ _ hq HTX2.out (HK.out.below hq.bel)).mono ?_
      rintro e w' ⟨g, rfl, HG, hb⟩
      have HB := Lib.hid hb
      clear hb hq k0 k1 k2
      go_wp2_with fail
      go_ret
      exact ⟨g, rfl, HG, HB.out⟩
set_option maxRecDepth 100000 in
set_option maxHeartbeats 1000000 in
theorem glue_SS (f : Int → Int) (a b lo hi tag : Int) (n m : Nat) (p q : Option Addr) (W : World) (hl : Tr f a lo n W p) (hk : Tr f hi b m W q) (hx : Ctx f a b) (hn : n + m ≤ 40000) (h1 : lo < hi) (h2 : ∀ x, lo ≤ x → x < hi → f x = tag)
    (bl : Nat) (ylo ytag : Int) (ep : p = some ⟨bl, 0, none⟩) (hlast : ∀ W', Below W.heap.size W W' → Calls Try.prog 53 #[.pointer (some ⟨bl, 0, none⟩)] W' fun e w' => e = .returned (.agg #[.int .i64 ylo, .int .i64 lo, .int .i64 ytag]) ∧ Below W'.heap.size W' w') (y1 : ylo < lo) (y2 : a ≤ ylo) (y3 : ∀ x, ylo ≤ x → x < lo → f x = ytag) (y4 : a < ylo → f (ylo - 1) ≠ f ylo) (ye : tag = ytag)
    (br : Nat) (zhi ztag : Int) (eq : q = some ⟨br, 0, none⟩) (hfirst : ∀ W', Below W.heap.size W W' → Calls Try.prog 52 #[.pointer (some ⟨br, 0, none⟩)] W' fun e w' => e = .returned (.agg #[.int .i64 hi, .int .i64 zhi, .int .i64 ztag]) ∧ Below W'.heap.size W' w') (z1 : hi < zhi) (z2 : zhi ≤ b) (z3 : ∀ x, hi ≤ x → x < zhi → f x = ztag) (z4 : zhi < b → f (zhi - 1) ≠ f zhi) (ze : tag = ztag) :
    Calls Try.prog 37 #[.pointer p, .agg #[.int .i64 lo, .int .i64 hi, .int .i64 tag], .pointer q] W fun e w' => ∃ g, e = .returned (.pointer (some ⟨g, 0, none⟩)) ∧ Hid (Tr f a b (n + m + 1) w' (some ⟨g, 0, none⟩)) ∧ Below W.heap.size W w' := by
  have q1 := hl.le; have q2 := hk.le
  subst ep
  subst eq
  subst ye
  subst ze
  have HF : Hid (∀ x, ylo ≤ x → x < zhi → f x = tag) := by
    intro x x1 x2
    by_cases g1 : x < lo
    · exact y3 x x1 g1
    by_cases g2 : hi ≤ x
    · exact z3 x g2 x2
    exact h2 x (by omega) (by omega)
  have HA : Hid (a < ylo → f (ylo - 1) ≠ f ylo) := by
    exact y4
  have HZ : Hid (zhi < b → f (zhi - 1) ≠ f zhi) := by
    exact z4
  have HL := Lib.hid hl; have HK := Lib.hid hk; have HX := Lib.hid hx
  have HLS : Hid (∀ u v W', Bq W u v tag W' → Calls Try.prog 53 #[.pointer (some ⟨bl, 0, none⟩)] W' fun e w' => e = .returned (.agg #[.int .i64 ylo, .int .i64 lo, .int .i64 tag]) ∧ Bq W u v tag w') := fun u v W' h => (hlast W' h.bel).mono fun e w' ⟨he, hB⟩ => ⟨he, h.next hB⟩
  have HSL : Hid (∀ u v W', Bq W u v tag W' → Calls Try.prog 51 #[.pointer (some ⟨bl, 0, none⟩), .int .i64 ylo] W' fun e w' => ∃ x y, e = .returned (.tuple #[.pointer x, .pointer y]) ∧ Hid (Tr f a ylo n w' x) ∧ Bq W u v tag w') := fun u v W' h =>
    ((hl.below h.bel).split (hx.sub (by omega) (by omega)) (by omega) y2 (by omega)).mono fun e w' ⟨x, y, he, hX, hY, hB⟩ => ⟨x, y, he, hX, h.next hB⟩
  have HFS : Hid (∀ u v W', Bq W u v tag W' → Calls Try.prog 52 #[.pointer (some ⟨br, 0, none⟩)] W' fun e w' => e = .returned (.agg #[.int .i64 hi, .int .i64 zhi, .int .i64 tag]) ∧ Hid (Below W'.heap.size W' w') ∧ Bq W u v tag w') := fun u v W' h => (hfirst W' h.bel).mono fun e w' ⟨he, hB⟩ => ⟨he, hB, h.next hB⟩
  have HSR : Hid (∀ u v W', Bq W u v tag W' → Calls Try.prog 51 #[.pointer (some ⟨br, 0, none⟩), .int .i64 zhi] W' fun e w' => ∃ x y, e = .returned (.tuple #[.pointer x, .pointer y]) ∧ Hid (Tr f zhi b m w' y) ∧ Hid (Below W'.heap.size W' w') ∧ Bq W u v tag w') := fun u v W' h =>
    ((hk.below h.bel).split (hx.sub (by omega) (by omega)) (by omega) (by omega) z2).mono fun e w' ⟨x, y, he, hX, hY, hB⟩ => ⟨x, y, he, hY, hB, h.next hB⟩
  have HJ : Hid (∀ x y W', Bq W ylo zhi tag W' → Tr f a ylo n W' x → Tr f zhi b m W' y → Calls Try.prog 54 #[.pointer x, .agg #[.int .i64 ylo, .int .i64 zhi, .int .i64 tag], .pointer y] W' fun e w' => ∃ g, e = .returned (.pointer (some ⟨g, 0, none⟩)) ∧ Hid (Tr f a b (n + m + 1) w' (some ⟨g, 0, none⟩)) ∧ Below W.heap.size W w') := fun x y W' h hX hY =>
    (hX.join hY hx (by omega) (by omega) HF.out HA.out HZ.out).mono fun e w' ⟨g, he, ht, hB⟩ => ⟨g, he, ht, h.bel.trans (hB.mono h.bel.size)⟩
  have hfl0 : ∀ (x y z : Int) (w : World), (Instr.field 46 (.agg #[.int .i64 x, .int .i64 y, .int .i64 z]) 0).run Try.prog w = .ok (.int .i64 x) w := fun _ _ _ _ => rfl
  have hfl1 : ∀ (x y z : Int) (w : World), (Instr.field 46 (.agg #[.int .i64 x, .int .i64 y, .int .i64 z]) 1).run Try.prog w = .ok (.int .i64 y) w := fun _ _ _ _ => rfl
  have hfl2 : ∀ (x y z : Int) (w : World), (Instr.field 46 (.agg #[.int .i64 x, .int .i64 y, .int .i64 z]) 2).run Try.prog w = .ok (.int .i64 z) w := fun _ _ _ _ => rfl
  have HBQ : Hid (Bq W lo hi tag (W.alloc (.cells #[.int .i64 lo, .int .i64 hi, .int .i64 tag] 46))) := Bq.new W lo hi tag _
  clear hl hk hx hn h1 h2 q1 q2 hlast y1 y2 y3 y4 hfirst z1 z2 z3 z4
  go_enter Try.func37, Try.ntmps37
  go_wp2_with fail
  obtain ⟨w1, HW1⟩ : ∃ w1, w1 = W.alloc (.cells #[.int .i64 lo, .int .i64 hi, .int .i64 tag] 46) := ⟨_, rfl⟩
  rw [← HW1] at HBQ ⊢
  clear HW1
  have hq := HBQ.out
  have k2 := hq.c2
  go_region_with ((go_at_call 53; with_reducible refine (HLS.out lo hi _ ?h).mono ?_; (case h => (first | assumption | exact Bq.drew (by assumption) | fail)); rintro e w' ⟨rfl, hq'⟩; have kc' := hq'.c2))
  all_goals
    clear hq k2 kc'
    have hq := hq'
    clear hq'
    go_wp2_with fail
    refine (HLS.out _ _ _ hq).mono ?_
    rintro e w3 ⟨rfl, hq3⟩
    clear hq
    have j0 := hq3.c0
    have j1 := hq3.f0
    have hq4 := hq3.put ylo
    have j2 := hq4.c0
    clear hq3
    go_wp2_with fail
    refine (HSL.out _ _ _ hq4).mono ?_
    rintro e w5 ⟨x, x', rfl, HTX, hq⟩
    clear j0 j1 j2 hq4
    have k2 := hq.c2
    go_wp2_with fail
    go_region_with ((go_at_call 52; with_reducible refine (HFS.out ylo hi _ ?h).mono ?_; (case h => (first | assumption | exact Bq.drew (by assumption) | fail)); rintro e w' ⟨rfl, hbf, hq'⟩; have kc' := hq'.c2))
    all_goals
      have HTX2 := Lib.hid ((HTX.out.below (Below.refl _ _).drew).below hbf.out)
      clear hq k2 kc'
      have hq := hq'
      clear hq'
      go_wp2_with fail
      refine (HFS.out _ _ _ hq).mono ?_
      rintro e w7 ⟨rfl, hb7, hq3⟩
      clear hq
      have j0 := hq3.c1
      have j1 := hq3.f1
      have hq4 := hq3.put1 zhi
      have j2 := hq4.c1
      go_wp2_with fail
      refine (HSR.out _ _ _ hq4).mono ?_
      rintro e w9 ⟨y', y, rfl, HTY, hb9, hq⟩
      have HTX3 := Lib.hid (((HTX2.out.below hb7.out).set hq3.c22 (.int .i64 zhi)).below hb9.out)
      clear j0 j1 j2
      have k0 := hq.c0
      have k1 := hq.c1
      have k2 := hq.c2
      go_wp2_with fail
      refine (HJ.out _ _ _ hq HTX3.out HTY.out).mono ?_
      rintro e w' ⟨g, rfl, HG, hb⟩
      have HB := Lib.hid hb
      clear hb hq k0 k1 k2
      go_wp2_with fail
      go_ret
      exact ⟨g, rfl, HG, HB.out⟩
end Go.Proofs.Ytjbenhmpeceaeab
namespace Go.Proofs.Ytjbenhmpeceaeab
open Go Go.RowKit Gs

theorem Tr.glue {f : Int → Int} {a b lo hi tag : Int} {n m : Nat} {W : World} {p q : Option Addr} (hl : Tr f a lo n W p) (hk : Tr f hi b m W q) (hx : Ctx f a b) (hn : n + m ≤ 40000) (h1 : lo < hi) (h2 : ∀ x, lo ≤ x → x < hi → f x = tag) :
    Calls Try.prog 37 #[.pointer p, .agg #[.int .i64 lo, .int .i64 hi, .int .i64 tag], .pointer q] W fun e w' => ∃ g, e = .returned (.pointer (some ⟨g, 0, none⟩)) ∧ Hid (Tr f a b (n + m + 1) w' (some ⟨g, 0, none⟩)) ∧ Below W.heap.size W w' := by
  rcases hl.last with ⟨ep, ea⟩ | ⟨bl, ylo, ytag, ep, hlast, y1, y2, y3, y4⟩
  · rcases hk.first with ⟨eq, eb⟩ | ⟨br, zhi, ztag, eq, hfirst, z1, z2, z3, z4⟩
    · exact glue_NN f a b lo hi tag n m p q W hl hk hx hn h1 h2 ep ea eq eb
    · by_cases ze : ztag = tag
      · exact glue_NS f a b lo hi tag n m p q W hl hk hx hn h1 h2 ep ea br zhi ztag eq hfirst z1 z2 z3 z4 ze.symm
      · exact glue_ND f a b lo hi tag n m p q W hl hk hx hn h1 h2 ep ea br zhi ztag eq hfirst z1 z2 z3 z4 ze
  · rcases hk.first with ⟨eq, eb⟩ | ⟨br, zhi, ztag, eq, hfirst, z1, z2, z3, z4⟩
    · by_cases ye : ytag = tag
      · exact glue_SN f a b lo hi tag n m p q W hl hk hx hn h1 h2 bl ylo ytag ep hlast y1 y2 y3 y4 ye.symm eq eb
      · exact glue_DN f a b lo hi tag n m p q W hl hk hx hn h1 h2 bl ylo ytag ep hlast y1 y2 y3 y4 ye eq eb
    · by_cases ye : ytag = tag <;> by_cases ze : ztag = tag
      · exact glue_SS f a b lo hi tag n m p q W hl hk hx hn h1 h2 bl ylo ytag ep hlast y1 y2 y3 y4 ye.symm br zhi ztag eq hfirst z1 z2 z3 z4 ze.symm
      · exact glue_SD f a b lo hi tag n m p q W hl hk hx hn h1 h2 bl ylo ytag ep hlast y1 y2 y3 y4 ye.symm br zhi ztag eq hfirst z1 z2 z3 z4 ze
      · exact glue_DS f a b lo hi tag n m p q W hl hk hx hn h1 h2 bl ylo ytag ep hlast y1 y2 y3 y4 ye br zhi ztag eq hfirst z1 z2 z3 z4 ze.symm
      · exact glue_DD f a b lo hi tag n m p q W hl hk hx hn h1 h2 bl ylo ytag ep hlast y1 y2 y3 y4 ye br zhi ztag eq hfirst z1 z2 z3 z4 ze
set_option maxHeartbeats 1000000 in
theorem Tr.concat {f : Int → Int} {a m b : Int} {n k : Nat} {W : World} {p q : Option Addr} (hl : Tr f a m n W p) (hk : Tr f m b k W q) (hx : Ctx f a b) (hn : n + k ≤ 40000) :
    Calls Try.prog 34 #[.pointer p, .pointer q] W fun e w' => ∃ g, e = .returned (.pointer g) ∧ Hid (Tr f a b (n + k + 1) w' g) ∧ Below W.heap.size W w' := by
  have q1 := hl.le; have q2 := hk.le
  rcases hk.first with ⟨rfl, rfl⟩ | ⟨br, zhi, ztag, rfl, hfirst, z1, z2, z3, z4⟩
  · have HL : Hid (Tr f a m (n + k + 1) W p) := hl.mono (by omega)
    clear hl hk hx hn q1 q2
    go_enter Try.func34, Try.ntmps34
    go_wp2_with fail
    go_ret
    exact ⟨p, rfl, HL, Below.refl _ _⟩
  · have HF := Lib.hid hfirst
    have HSP : Hid (∀ W', Below W.heap.size W W' → Calls Try.prog 51 #[.pointer (some ⟨br, 0, none⟩), .int .i64 zhi] W' fun e w' => ∃ x y, e = .returned (.tuple #[.pointer x, .pointer y]) ∧ Hid (Tr f m zhi k w' x) ∧ Hid (Tr f zhi b k w' y) ∧ Below W'.heap.size W' w') := fun W' h =>
      (hk.below h).split (hx.sub q1 (Int.le_refl _)) (by omega) (by omega) z2
    have HG : Hid (∀ W' y, Below W.heap.size W W' → Tr f zhi b k W' y → Calls Try.prog 37 #[.pointer p, .agg #[.int .i64 m, .int .i64 zhi, .int .i64 ztag], .pointer y] W' fun e w' => ∃ g, e = .returned (.pointer (some ⟨g, 0, none⟩)) ∧ Hid (Tr f a b (n + k + 1) w' (some ⟨g, 0, none⟩)) ∧ Below W'.heap.size W' w') := fun W' y h hy =>
      (hl.below h).glue hy hx hn z1 z3
    clear hl hk hx hn q1 q2 hfirst z1 z2 z3 z4
    go_enter Try.func34, Try.ntmps34
    go_wp2_with fail
    refine (HF.out _ (Below.refl _ _)).mono ?_
    rintro e w1 ⟨rfl, hb1⟩
    have HB1 := Lib.hid hb1
    clear hb1
    go_wp2_with fail
    obtain ⟨w2, HW2⟩ : ∃ w2, w2 = w1.alloc (.cells #[.int .i64 m, .int .i64 zhi, .int .i64 ztag] 46) := ⟨_, rfl⟩
    have hq : Bq w1 m zhi ztag w2 := by rw [HW2]; exact Bq.new _ _ _ _ _
    rw [← HW2]
    clear HW2
    have HB2 : Hid (Below W.heap.size W w2) := HB1.out.trans (hq.bel.mono HB1.out.size)
    refine (HSP.out _ HB2.out).mono ?_
    rintro e w3 ⟨x, y, rfl, HX, HY, hb3⟩
    have HB3 : Hid (Below W.heap.size W w3) := HB2.out.trans (hb3.mono HB2.out.size)
    have hq3 := hq.next hb3
    have c0 := hq3.c0; have c1 := hq3.c1; have c2 := hq3.c2
    clear hq hq3 hb3
    go_wp2_with fail
    refine (HG.out _ _ HB3.out HY.out).mono ?_
    rintro e w4 ⟨g, rfl, HG4, hb4⟩
    have HB4 : Hid (Below W.heap.size W w4) := HB3.out.trans (hb4.mono HB3.out.size)
    clear hb4 c0 c1 c2
    go_wp2_with fail
    go_ret
    exact ⟨_, rfl, HG4, HB4.out⟩
end Go.Proofs.Ytjbenhmpeceaeab
namespace Go.Proofs.Ytjbenhmpeceaeab
open Go Go.RowKit Gs

/-- the tag fr becomes tt -/
def swp (f : Int → Int) (fr tt : Nat) (x : Int) : Int := if f x = fr then tt else f x
theorem swp_ctx {f : Int → Int} {a b : Int} {fr tt : Nat} (h : Ctx f a b) (ht : tt < 16) : Ctx (swp f fr tt) a b := by
  refine ⟨h.1, h.2.1, fun p p1 p2 => ?_⟩
  have := h.2.2 p p1 p2
  simp only [swp]
  split <;> omega

set_option maxHeartbeats 1000000 in
theorem retag_eq (f : Int → Int) (fr tt : Nat) (c d : T) (lo hi tag a b : Int) (p : Option Addr) (W : World) (h : IsT W (.node c ⟨lo, hi, tag⟩ d) (.pointer p)) (hc : Gs.Can f a (T.node c ⟨lo, hi, tag⟩ d).L b) (hx : Ctx f a b) (hfr : fr < 16) (htt : tt < 16) (hz : (T.node c ⟨lo, hi, tag⟩ d).sz ≤ 20000) (hcn : cnt fr (T.node c ⟨lo, hi, tag⟩ d).L ≠ 0) (hg : tag = fr)
    (ihc : ∀ q w, IsT w c (.pointer q) → Calls Try.prog 35 #[.pointer q, .int .i64 fr, .int .i64 tt] w fun e w' => ∃ x, e = .returned (.pointer x) ∧ Hid (Tr (swp f fr tt) a lo c.sz w' x) ∧ Below w.heap.size w w')
    (ihd : ∀ q w, IsT w d (.pointer q) → Calls Try.prog 35 #[.pointer q, .int .i64 fr, .int .i64 tt] w fun e w' => ∃ x, e = .returned (.pointer x) ∧ Hid (Tr (swp f fr tt) hi b d.sz w' x) ∧ Below w.heap.size w w') :
    Calls Try.prog 35 #[.pointer p, .int .i64 fr, .int .i64 tt] W fun e w' => ∃ x, e = .returned (.pointer x) ∧ Hid (Tr (swp f fr tt) a b (T.node c ⟨lo, hi, tag⟩ d).sz w' x) ∧ Below W.heap.size W w' := by
  obtain ⟨m1, m2, m3, m4, m5, m6⟩ := hc.mid
  simp only at m1 m2 m3 m4 m5 m6
  have q1 := m1.le; have q2 := m2.le
  have HCN : Hid (Calls Try.prog 36 #[.pointer p, .int .i64 fr] W fun e w' => e = .returned (.int .i64 (cnt fr (T.node c ⟨lo, hi, tag⟩ d).L)) ∧ W = w') := count_any _ _ W fr hfr h
  have hne : (cnt fr (T.node c ⟨lo, hi, tag⟩ d).L == 0) = false := beq_eq_false_iff_ne.2 hcn
  obtain ⟨b0, u, v, rfl, hlt, h1, h2, hcs⟩ := h.open
  have HSW : Hid (∀ x, lo ≤ x → x < hi → swp f fr tt x = tt) := fun x x1 x2 => by
    have e := m4 x x1 x2
    simp only [swp]
    rw [e, hg, if_pos rfl]
  have HXG : Hid (Ctx (swp f fr tt) a b) := swp_ctx hx htt
  have HALL : Hid (∀ W', Bq W lo hi tt W' → (W'.cell? ⟨W.heap.size, 0, none⟩ = some (.int .i64 lo) ∧ W'.cell? ⟨W.heap.size, 1, none⟩ = some (.int .i64 hi) ∧ W'.cell? ⟨W.heap.size, 2, none⟩ = some (.int .i64 tt) ∧ W'.cell? ⟨b0, 0, none⟩ = some (.pointer u) ∧ W'.cell? ⟨b0, 4, none⟩ = some (.pointer v))) := fun W' h => by
    obtain ⟨n0, _, _, _, n4⟩ := hcs W' h.bel
    exact ⟨h.c0, h.c1, h.c2, n0, n4⟩
  have HR1 : Hid (∀ W', Bq W lo hi tt W' → Calls Try.prog 35 #[.pointer u, .int .i64 fr, .int .i64 tt] W' fun e w' => ∃ x, e = .returned (.pointer x) ∧ Hid (Tr (swp f fr tt) a lo c.sz w' x) ∧ Bq W lo hi tt w') := fun W' h =>
    (ihc u W' (IsT.below h.bel h1)).mono fun e w' ⟨x, he, ht, hB⟩ => ⟨x, he, ht, h.next hB⟩
  have HR2 : Hid (∀ W', Bq W lo hi tt W' → Calls Try.prog 35 #[.pointer v, .int .i64 fr, .int .i64 tt] W' fun e w' => ∃ y, e = .returned (.pointer y) ∧ Hid (Tr (swp f fr tt) hi b d.sz w' y) ∧ Hid (Below W'.heap.size W' w') ∧ Bq W lo hi tt w') := fun W' h =>
    (ihd v W' (IsT.below h.bel h2)).mono fun e w' ⟨x, he, ht, hB⟩ => ⟨x, he, ht, hB, h.next hB⟩
  have HG : Hid (∀ W' x y, Bq W lo hi tt W' → Hid (Tr (swp f fr tt) a lo c.sz W' x) → Hid (Tr (swp f fr tt) hi b d.sz W' y) → Calls Try.prog 37 #[.pointer x, .agg #[.int .i64 lo, .int .i64 hi, .int .i64 tt], .pointer y] W' fun e w' => ∃ g, e = .returned (.pointer (some ⟨g, 0, none⟩)) ∧ Hid (Tr (swp f fr tt) a b (T.node c ⟨lo, hi, tag⟩ d).sz w' (some ⟨g, 0, none⟩)) ∧ Bq W lo hi tt w') := fun W' x y h hX hY =>
    (Tr.glue hX.out hY.out HXG.out (by simp only [T.sz] at hz; omega) m3 HSW.out).mono fun e w' ⟨g, he, ht, hB⟩ => ⟨g, he, ht.out.mono (by simp only [T.sz]; omega), h.next hB⟩
  subst hg
  obtain ⟨d0, d1, d2, d3, d4⟩ := hcs W (Below.refl _ _)
  clear h hc hx hz m1 m2 m3 m4 m5 m6 h1 h2 hcs ihc ihd hcn 
  generalize (T.node c ⟨lo, hi, fr⟩ d).sz = SZ at *
  generalize cnt fr (T.node c ⟨lo, hi, fr⟩ d).L = CN at *
  go_enter Try.func35, Try.ntmps35
  go_wp2_with fail
  refine HCN.out.mono ?_
  rintro e w1 ⟨rfl, rfl⟩
  go_wp2_with fail
  obtain ⟨w2, HW2⟩ : ∃ w2, w2 = W.alloc (.cells #[.int .i64 lo, .int .i64 hi, .int .i64 tt] 46) := ⟨_, rfl⟩
  have hq : Bq W lo hi tt w2 := by rw [HW2]; exact Bq.new _ _ _ _ _
  rw [← HW2]
  clear HW2 d0 d1 d2 d3 d4
  have hq2 := hq.drew
  have hcl := HALL.out _ hq
  have hcl2 := HALL.out _ hq2
  go_region_held3 (fun W' : World => (W'.cell? ⟨W.heap.size, 0, none⟩ = some (.int .i64 lo) ∧ W'.cell? ⟨W.heap.size, 1, none⟩ = some (.int .i64 hi) ∧ W'.cell? ⟨W.heap.size, 2, none⟩ = some (.int .i64 tt) ∧ W'.cell? ⟨b0, 0, none⟩ = some (.pointer u) ∧ W'.cell? ⟨b0, 4, none⟩ = some (.pointer v)) ∧ Bq W lo hi tt W') (first | (refine And.intro ?_ ?_ <;> assumption) | fail) (first
    | (go_at_call 35; with_reducible refine (HR1.out _ ?h).mono ?_; (case h => assumption); rintro e w' ⟨x, rfl, hg1, hs1'⟩; have hc1' := HALL.out _ hs1')
    | (go_at_call 35; with_reducible refine (HR2.out _ ?h).mono ?_; (case h => assumption); rintro e w' ⟨y, rfl, hg2, hb2, hs2'⟩; have hc2' := HALL.out _ hs2'; have hg1b := Lib.hid (Tr.below hg1.out hb2.out))
    | (go_at_call 37; with_reducible refine (HG.out _ _ _ ?h ?r ?s).mono ?_; (case h => assumption); (case r => assumption); (case s => assumption); rintro e w' ⟨g, rfl, hgt, hs3'⟩; have hc3' := HALL.out _ hs3') | fail)
  all_goals
    have HB := Lib.hid hs3'.bel
    clear hq hq2 hcl hcl2 hs1' hs2' hs3' hc1' hc2' hc3'
    go_wp2_with fail
    go_ret
    exact ⟨_, rfl, hgt, HB.out⟩
set_option maxHeartbeats 1000000 in
theorem retag_ne (f : Int → Int) (fr tt : Nat) (c d : T) (lo hi tag a b : Int) (p : Option Addr) (W : World) (h : IsT W (.node c ⟨lo, hi, tag⟩ d) (.pointer p)) (hc : Gs.Can f a (T.node c ⟨lo, hi, tag⟩ d).L b) (hx : Ctx f a b) (hfr : fr < 16) (htt : tt < 16) (hz : (T.node c ⟨lo, hi, tag⟩ d).sz ≤ 20000) (hcn : cnt fr (T.node c ⟨lo, hi, tag⟩ d).L ≠ 0) (hg : tag ≠ fr)
    (ihc : ∀ q w, IsT w c (.pointer q) → Calls Try.prog 35 #[.pointer q, .int .i64 fr, .int .i64 tt] w fun e w' => ∃ x, e = .returned (.pointer x) ∧ Hid (Tr (swp f fr tt) a lo c.sz w' x) ∧ Below w.heap.size w w')
    (ihd : ∀ q w, IsT w d (.pointer q) → Calls Try.prog 35 #[.pointer q, .int .i64 fr, .int .i64 tt] w fun e w' => ∃ x, e = .returned (.pointer x) ∧ Hid (Tr (swp f fr tt) hi b d.sz w' x) ∧ Below w.heap.size w w') :
    Calls Try.prog 35 #[.pointer p, .int .i64 fr, .int .i64 tt] W fun e w' => ∃ x, e = .returned (.pointer x) ∧ Hid (Tr (swp f fr tt) a b (T.node c ⟨lo, hi, tag⟩ d).sz w' x) ∧ Below W.heap.size W w' := by
  obtain ⟨m1, m2, m3, m4, m5, m6⟩ := hc.mid
  simp only at m1 m2 m3 m4 m5 m6
  have q1 := m1.le; have q2 := m2.le
  have HCN : Hid (Calls Try.prog 36 #[.pointer p, .int .i64 fr] W fun e w' => e = .returned (.int .i64 (cnt fr (T.node c ⟨lo, hi, tag⟩ d).L)) ∧ W = w') := count_any _ _ W fr hfr h
  have hne : (cnt fr (T.node c ⟨lo, hi, tag⟩ d).L == 0) = false := beq_eq_false_iff_ne.2 hcn
  obtain ⟨b0, u, v, rfl, hlt, h1, h2, hcs⟩ := h.open
  have HSW : Hid (∀ x, lo ≤ x → x < hi → swp f fr tt x = tag) := fun x x1 x2 => by
    have e := m4 x x1 x2
    simp only [swp]
    rw [e, if_neg hg]
  have HXG : Hid (Ctx (swp f fr tt) a b) := swp_ctx hx htt
  have HALL : Hid (∀ W', Bq W lo hi tag W' → (W'.cell? ⟨W.heap.size, 0, none⟩ = some (.int .i64 lo) ∧ W'.cell? ⟨W.heap.size, 1, none⟩ = some (.int .i64 hi) ∧ W'.cell? ⟨W.heap.size, 2, none⟩ = some (.int .i64 tag) ∧ W'.cell? ⟨b0, 0, none⟩ = some (.pointer u) ∧ W'.cell? ⟨b0, 4, none⟩ = some (.pointer v))) := fun W' h => by
    obtain ⟨n0, _, _, _, n4⟩ := hcs W' h.bel
    exact ⟨h.c0, h.c1, h.c2, n0, n4⟩
  have HR1 : Hid (∀ W', Bq W lo hi tag W' → Calls Try.prog 35 #[.pointer u, .int .i64 fr, .int .i64 tt] W' fun e w' => ∃ x, e = .returned (.pointer x) ∧ Hid (Tr (swp f fr tt) a lo c.sz w' x) ∧ Bq W lo hi tag w') := fun W' h =>
    (ihc u W' (IsT.below h.bel h1)).mono fun e w' ⟨x, he, ht, hB⟩ => ⟨x, he, ht, h.next hB⟩
  have HR2 : Hid (∀ W', Bq W lo hi tag W' → Calls Try.prog 35 #[.pointer v, .int .i64 fr, .int .i64 tt] W' fun e w' => ∃ y, e = .returned (.pointer y) ∧ Hid (Tr (swp f fr tt) hi b d.sz w' y) ∧ Hid (Below W'.heap.size W' w') ∧ Bq W lo hi tag w') := fun W' h =>
    (ihd v W' (IsT.below h.bel h2)).mono fun e w' ⟨x, he, ht, hB⟩ => ⟨x, he, ht, hB, h.next hB⟩
  have HG : Hid (∀ W' x y, Bq W lo hi tag W' → Hid (Tr (swp f fr tt) a lo c.sz W' x) → Hid (Tr (swp f fr tt) hi b d.sz W' y) → Calls Try.prog 37 #[.pointer x, .agg #[.int .i64 lo, .int .i64 hi, .int .i64 tag], .pointer y] W' fun e w' => ∃ g, e = .returned (.pointer (some ⟨g, 0, none⟩)) ∧ Hid (Tr (swp f fr tt) a b (T.node c ⟨lo, hi, tag⟩ d).sz w' (some ⟨g, 0, none⟩)) ∧ Bq W lo hi tag w') := fun W' x y h hX hY =>
    (Tr.glue hX.out hY.out HXG.out (by simp only [T.sz] at hz; omega) m3 HSW.out).mono fun e w' ⟨g, he, ht, hB⟩ => ⟨g, he, ht.out.mono (by simp only [T.sz]; omega), h.next hB⟩
  have hgb : (tag == (fr : Int)) = false := beq_eq_false_iff_ne.2 hg
  obtain ⟨d0, d1, d2, d3, d4⟩ := hcs W (Below.refl _ _)
  clear h hc hx hz m1 m2 m3 m4 m5 m6 h1 h2 hcs ihc ihd hcn hg
  generalize (T.node c ⟨lo, hi, tag⟩ d).sz = SZ at *
  generalize cnt fr (T.node c ⟨lo, hi, tag⟩ d).L = CN at *
  go_enter Try.func35, Try.ntmps35
  go_wp2_with fail
  refine HCN.out.mono ?_
  rintro e w1 ⟨rfl, rfl⟩
  go_wp2_with fail
  obtain ⟨w2, HW2⟩ : ∃ w2, w2 = W.alloc (.cells #[.int .i64 lo, .int .i64 hi, .int .i64 tag] 46) := ⟨_, rfl⟩
  have hq : Bq W lo hi tag w2 := by rw [HW2]; exact Bq.new _ _ _ _ _
  rw [← HW2]
  clear HW2 d0 d1 d2 d3 d4
  have hq2 := hq.drew
  have hcl := HALL.out _ hq
  have hcl2 := HALL.out _ hq2
  go_region_held3 (fun W' : World => (W'.cell? ⟨W.heap.size, 0, none⟩ = some (.int .i64 lo) ∧ W'.cell? ⟨W.heap.size, 1, none⟩ = some (.int .i64 hi) ∧ W'.cell? ⟨W.heap.size, 2, none⟩ = some (.int .i64 tag) ∧ W'.cell? ⟨b0, 0, none⟩ = some (.pointer u) ∧ W'.cell? ⟨b0, 4, none⟩ = some (.pointer v)) ∧ Bq W lo hi tag W') (first | (refine And.intro ?_ ?_ <;> assumption) | fail) (first
    | (go_at_call 35; with_reducible refine (HR1.out _ ?h).mono ?_; (case h => assumption); rintro e w' ⟨x, rfl, hg1, hs1'⟩; have hc1' := HALL.out _ hs1')
    | (go_at_call 35; with_reducible refine (HR2.out _ ?h).mono ?_; (case h => assumption); rintro e w' ⟨y, rfl, hg2, hb2, hs2'⟩; have hc2' := HALL.out _ hs2'; have hg1b := Lib.hid (Tr.below hg1.out hb2.out))
    | (go_at_call 37; with_reducible refine (HG.out _ _ _ ?h ?r ?s).mono ?_; (case h => assumption); (case r => assumption); (case s => assumption); rintro e w' ⟨g, rfl, hgt, hs3'⟩; have hc3' := HALL.out _ hs3') | fail)
  all_goals
    have HB := Lib.hid hs3'.bel
    clear hq hq2 hcl hcl2 hs1' hs2' hs3' hc1' hc2' hc3'
    go_wp2_with fail
    go_ret
    exact ⟨_, rfl, hgt, HB.out⟩
theorem retag_any (f : Int → Int) (fr tt : Nat) (hfr : fr < 16) (htt : tt < 16) : ∀ (t : T) (a b : Int) (p : Option Addr) (W : World), IsT W t (.pointer p) → Gs.Can f a t.L b → Ctx f a b → t.sz ≤ 20000 →
    Calls Try.prog 35 #[.pointer p, .int .i64 fr, .int .i64 tt] W fun e w' => ∃ x, e = .returned (.pointer x) ∧ Hid (Tr (swp f fr tt) a b t.sz w' x) ∧ Below W.heap.size W w' := by
  intro t
  have hzero : ∀ (t : T) (a b : Int) (p : Option Addr) (W : World), IsT W t (.pointer p) → Gs.Can f a t.L b → cnt fr t.L = 0 →
      Calls Try.prog 35 #[.pointer p, .int .i64 fr, .int .i64 tt] W fun e w' => ∃ x, e = .returned (.pointer x) ∧ Hid (Tr (swp f fr tt) a b t.sz w' x) ∧ Below W.heap.size W w' := by
    intro t a b p W h hc h0
    have HCN : Hid (Calls Try.prog 36 #[.pointer p, .int .i64 fr] W fun e w' => e = .returned (.int .i64 0) ∧ W = w') := by
      have := count_any t (.pointer p) W fr hfr h
      rwa [h0] at this
    have HR : Hid (Tr (swp f fr tt) a b t.sz W p) := ⟨t, h, hc.congr (fun x x1 x2 => by
      have := cnt_zero hc.1 h0 x x1 x2
      simp only [swp]; rw [if_neg this]), Nat.le_refl _⟩
    clear h hc h0
    generalize t.sz = SZ at *
    go_enter Try.func35, Try.ntmps35
    go_wp2_with fail
    refine HCN.out.mono ?_
    rintro e w1 ⟨rfl, rfl⟩
    go_wp2_with fail
    go_ret
    exact ⟨p, rfl, HR, Below.refl _ _⟩
  induction t with
  | nil =>
    intro a b p W h hc hx hz
    exact hzero .nil a b p W h hc rfl
  | node c r d ihc ihd =>
    intro a b p W h hc hx hz
    by_cases h0 : cnt fr (T.node c r d).L = 0
    · exact hzero _ a b p W h hc h0
    · obtain ⟨lo, hi, tag⟩ := r
      have hm := hc.mid
      have hz' : c.sz + d.sz + 1 ≤ 20000 := by simp only [T.sz] at hz; omega
      have q1 := hm.1.le; have q2 := hm.2.1.le; have q3 := hm.2.2.1
      simp only at q1 q2 q3
      have i1 : ∀ q w, IsT w c (.pointer q) → _ := fun q w hq => ihc a lo q w hq hm.1 (hx.sub (by omega) (by omega)) (by omega)
      have i2 : ∀ q w, IsT w d (.pointer q) → _ := fun q w hq => ihd hi b q w hq hm.2.1 (hx.sub (by omega) (by omega)) (by omega)
      by_cases hg : tag = fr
      · exact retag_eq f fr tt c d lo hi tag a b p W h hc hx hfr htt hz h0 hg i1 i2
      · exact retag_ne f fr tt c d lo hi tag a b p W h hc hx hfr htt hz h0 hg i1 i2
theorem Tr.retag {f : Int → Int} {a b : Int} {fr tt n : Nat} {W : World} {p : Option Addr} (h : Tr f a b n W p) (hx : Ctx f a b) (hfr : fr < 16) (htt : tt < 16) (hn : n ≤ 20000) :
    Calls Try.prog 35 #[.pointer p, .int .i64 fr, .int .i64 tt] W fun e w' => ∃ x, e = .returned (.pointer x) ∧ Hid (Tr (swp f fr tt) a b n w' x) ∧ Below W.heap.size W w' := by
  obtain ⟨t, h1, h2, h3⟩ := h
  exact (retag_any f fr tt hfr htt t a b p W h1 h2 hx (by omega)).mono fun e w' ⟨x, he, ht, hB⟩ => ⟨x, he, ht.out.mono h3, hB⟩
end Go.Proofs.Ytjbenhmpeceaeab
namespace Go.Proofs.Ytjbenhmpeceaeab
open Go Go.RowKit Gs

/-- the box of a map behind W, in a later world -/
structure Mq (W : World) (p : Option Addr) (size : Int) (W' : World) : Prop where
  c0 : W'.cell? ⟨W.heap.size, 0, none⟩ = some (.pointer p)
  c1 : W'.cell? ⟨W.heap.size, 1, none⟩ = some (.int .i64 size)
  f0 : W'.frozen? ⟨W.heap.size, 0, none⟩ = false
  f1 : W'.frozen? ⟨W.heap.size, 1, none⟩ = false
  lt : W.heap.size < W'.heap.size
  bel : Below W.heap.size W W'
section
variable {W W' W2 : World} {p : Option Addr} {size : Int}
theorem Mq.next (h : Mq W p size W') (hb : Below W'.heap.size W' W2) : Mq W p size W2 :=
  ⟨(hb.cell (p := ⟨W.heap.size, 0, none⟩) h.lt).trans h.c0, (hb.cell (p := ⟨W.heap.size, 1, none⟩) h.lt).trans h.c1, (hb.frozen (p := ⟨W.heap.size, 0, none⟩) h.lt).trans h.f0, (hb.frozen (p := ⟨W.heap.size, 1, none⟩) h.lt).trans h.f1, Nat.lt_of_lt_of_le h.lt hb.size, h.bel.trans (hb.mono h.bel.size)⟩
theorem Mq.drew (h : Mq W p size W') : Mq W p size W'.drew := h.next (Below.refl _ _).drew
theorem Mq.drewN (h : Mq W p size W') (k : Nat) : Mq W p size (W'.drewN k) := h.next (below_drewN (Below.refl _ _) k)
theorem Mq.new (W : World) (p : Option Addr) (size : Int) (Ty : TypeId) : Mq W p size (W.alloc (.cells #[.pointer p, .int .i64 size] Ty)) :=
  ⟨World.cell?_alloc_at _ _ _ _ rfl, World.cell?_alloc_at _ _ _ _ rfl, World.frozen?_alloc_at _ _ _ _ rfl, World.frozen?_alloc_at _ _ _ _ rfl, by simp, (Below.refl _ _).alloc (Nat.le_refl _) _⟩
/-- both cells are stored anew -/
theorem Mq.put (h : Mq W p size W') (q : Option Addr) (s : Int) : Mq W q s ((W'.setCell ⟨W.heap.size, 0, none⟩ (.pointer q)).setCell ⟨W.heap.size, 1, none⟩ (.int .i64 s)) :=
  ⟨(World.cell?_setCell_other _ _ _ _ (by intro e; cases e)).trans (World.cell?_setCell_same _ _ _ h.c0), World.cell?_setCell_same _ _ _ ((World.cell?_setCell_other _ _ _ _ (by intro e; cases e)).trans h.c1),
   (World.frozen?_setCell _ _ _ _).trans ((World.frozen?_setCell _ _ _ _).trans h.f0), (World.frozen?_setCell _ _ _ _).trans ((World.frozen?_setCell _ _ _ _).trans h.f1), by rw [World.size_setCell, World.size_setCell]; exact h.lt, (h.bel.setCell (Nat.le_refl _) _).setCell (Nat.le_refl _) _⟩
end
def isT (t : Int) : Bool := decide (0 ≤ t ∧ t < 16)
/-- what check answers of a map that is usable -/
def errOf (size lo hi : Int) (ts : List Int) : Int := if lo < 0 ∨ hi < lo ∨ size < hi then 3 else if ts.all isT then 0 else 2

theorem isTag_any (t : Int) (W : World) : Calls Try.prog 40 #[.int .i64 t] W fun e w' => e = .returned (.bool (isT t)) ∧ W = w' := by
  by_cases h0 : 0 ≤ t
  · by_cases h1 : t < 16
    · have HE : Hid (isT t = true) := decide_eq_true ⟨h0, h1⟩
      have h2 : t ≥ 0 := h0
      go_enter Try.func40, Try.ntmps40
      go_wp2_with fail
      go_ret
      exact ⟨by rw [HE.out]; rfl, rfl⟩
    · have HE : Hid (isT t = false) := decide_eq_false (fun h => h1 h.2)
      have h2 : t ≥ 0 := h0
      go_enter Try.func40, Try.ntmps40
      go_wp2_with fail
      go_ret
      exact ⟨by rw [HE.out]; rfl, rfl⟩
  · have HE : Hid (isT t = false) := decide_eq_false (fun h => h0 h.1)
    have h2 : ¬ t ≥ 0 := h0
    go_enter Try.func40, Try.ntmps40
    go_wp2_with fail
    go_ret
    exact ⟨by rw [HE.out]; rfl, rfl⟩
theorem isUsable_any (b : Nat) (size : Int) (W : World) : Calls Try.prog 29 #[.agg #[.pointer (some ⟨b, 0, none⟩), .int .i64 size]] W fun e w' => e = .returned (.bool true) ∧ Below W.heap.size W w' := by
  have HB : Hid (∀ o, Below W.heap.size W (W.alloc o)) := fun o => (Below.refl _ _).alloc (Nat.le_refl _) _
  go_enter Try.func29, Try.ntmps29
  go_wp2_with fail
  go_ret
  exact ⟨rfl, HB.out _⟩
theorem isUsable_none (size : Int) (W : World) : Calls Try.prog 29 #[.agg #[.pointer none, .int .i64 size]] W fun e w' => e = .returned (.bool false) ∧ Below W.heap.size W w' := by
  have HB : Hid (∀ o, Below W.heap.size W (W.alloc o)) := fun o => (Below.refl _ _).alloc (Nat.le_refl _) _
  go_enter Try.func29, Try.ntmps29
  go_wp2_with fail
  go_ret
  exact ⟨rfl, HB.out _⟩
/-- a map that is unusable -/
theorem check_none (size lo hi : Int) (a : Option Addr) (n c : Nat) (W : World) : Calls Try.prog 31 #[.agg #[.pointer none, .int .i64 size], .int .i64 lo, .int .i64 hi, .slice a n c] W fun e w' => e = .returned (.int .i64 1) ∧ Below W.heap.size W w' := by
  have HUS := Lib.hid (fun W' => isUsable_none size W')
  have HB : Hid (∀ o, Below W.heap.size W (W.alloc o)) := fun o => (Below.refl _ _).alloc (Nat.le_refl _) _
  go_enter Try.func31, Try.ntmps31
  go_wp2_with fail
  refine (HUS.out _).mono ?_
  rintro e w1 ⟨rfl, hb⟩
  have HB1 := Lib.hid ((HB.out _).trans (hb.mono (HB.out _).size))
  clear hb
  go_wp2_with fail
  go_ret
  exact ⟨rfl, HB1.out⟩
/-- a range that is not in the map -/
theorem check_range (b : Nat) (size lo hi : Int) (a : Option Addr) (n c : Nat) (W : World) (h : lo < 0 ∨ hi < lo ∨ size < hi) : Calls Try.prog 31 #[.agg #[.pointer (some ⟨b, 0, none⟩), .int .i64 size], .int .i64 lo, .int .i64 hi, .slice a n c] W fun e w' => e = .returned (.int .i64 3) ∧ Below W.heap.size W w' := by
  have HUS := Lib.hid (fun W' => isUsable_any b size W')
  obtain ⟨w0, HW⟩ : ∃ w0, w0 = W.alloc (.cells #[.pointer (some ⟨b, 0, none⟩), .int .i64 size] 27) := ⟨_, rfl⟩
  have hq : Mq W (some ⟨b, 0, none⟩) size w0 := by rw [HW]; exact Mq.new _ _ _ _
  have HQ := Lib.hid hq
  have HW' := Lib.hid HW
  clear hq HW
  by_cases h1 : lo < 0
  · clear h
    go_enter Try.func31, Try.ntmps31
    go_wp2_with fail
    rw [← HW'.out]
    refine (HUS.out _).mono ?_
    rintro e w1 ⟨rfl, hb⟩
    have HQ1 := Lib.hid (HQ.out.next hb)
    clear hb
    go_wp2_with fail
    go_ret
    exact ⟨rfl, HQ1.out.bel⟩
  · by_cases h2 : hi < lo
    · clear h
      go_enter Try.func31, Try.ntmps31
      go_wp2_with fail
      rw [← HW'.out]
      refine (HUS.out _).mono ?_
      rintro e w1 ⟨rfl, hb⟩
      have HQ1 := Lib.hid (HQ.out.next hb)
      clear hb
      go_wp2_with fail
      go_ret
      exact ⟨rfl, HQ1.out.bel⟩
    · have h3 : hi > size := by omega
      clear h
      go_enter Try.func31, Try.ntmps31
      go_wp2_with fail
      rw [← HW'.out]
      refine (HUS.out _).mono ?_
      rintro e w1 ⟨rfl, hb⟩
      have HQ1 := Lib.hid (HQ.out.next hb)
      have c0 := HQ1.out.c0; have c1 := HQ1.out.c1
      clear hb
      go_wp2_with fail
      go_ret
      exact ⟨rfl, HQ1.out.bel⟩
theorem check_nil (b : Nat) (size lo hi : Int) (W : World) (h1 : ¬ lo < 0) (h2 : ¬ hi < lo) (h3 : ¬ hi > size) : Calls Try.prog 31 #[.agg #[.pointer (some ⟨b, 0, none⟩), .int .i64 size], .int .i64 lo, .int .i64 hi, .slice none 0 0] W fun e w' => e = .returned (.int .i64 0) ∧ Below W.heap.size W w' := by
  have HUS := Lib.hid (fun W' => isUsable_any b size W')
  obtain ⟨w0, HW⟩ : ∃ w0, w0 = W.alloc (.cells #[.pointer (some ⟨b, 0, none⟩), .int .i64 size] 27) := ⟨_, rfl⟩
  have hq : Mq W (some ⟨b, 0, none⟩) size w0 := by rw [HW]; exact Mq.new _ _ _ _
  have HQ := Lib.hid hq
  have HW' := Lib.hid HW
  clear hq HW
  go_enter Try.func31, Try.ntmps31
  go_wp2_with fail
  rw [← HW'.out]
  refine (HUS.out _).mono ?_
  rintro e w1 ⟨rfl, hb⟩
  have HQ1 := Lib.hid (HQ.out.next hb)
  have c0 := HQ1.out.c0; have c1 := HQ1.out.c1
  clear hb
  go_wp2_with fail
  go_loopw [29] (fun i wr => i = .int .i64 0 ∧ w1 = wr) (fun _ _ => 0)
  case atStart => exact ⟨rfl, rfl⟩
  case round =>
    obtain ⟨rfl, rfl⟩ := hrel
    go_wp2_with fail
    go_ret
    exact ⟨rfl, HQ1.out.bel⟩
theorem check_list (b B c : Nat) (size lo hi : Int) (ts : List Int) (W : World) (hB : B < W.heap.size) (hc : ∀ i (h : i < ts.length), W.cell? ⟨B, i, none⟩ = some (.int .i64 ts[i])) (hn : ts.length ≤ 4) (h1 : ¬ lo < 0) (h2 : ¬ hi < lo) (h3 : ¬ hi > size) :
    Calls Try.prog 31 #[.agg #[.pointer (some ⟨b, 0, none⟩), .int .i64 size], .int .i64 lo, .int .i64 hi, .slice (some ⟨B, 0, none⟩) ts.length c] W fun e w' => e = .returned (.int .i64 (if ts.all isT then 0 else 2)) ∧ Below W.heap.size W w' := by
  have HUS := Lib.hid (fun W' => isUsable_any b size W')
  have HTA := Lib.hid (fun t W' => isTag_any t W')
  have HC : Hid (∀ W' i (h : i < ts.length), Below W.heap.size W W' → W'.cell? ⟨B, i, none⟩ = some (.int .i64 ts[i])) := fun W' i h hb => (hb.cell (p := ⟨B, i, none⟩) hB).trans (hc i h)
  obtain ⟨w0, HW⟩ : ∃ w0, w0 = W.alloc (.cells #[.pointer (some ⟨b, 0, none⟩), .int .i64 size] 27) := ⟨_, rfl⟩
  have hq : Mq W (some ⟨b, 0, none⟩) size w0 := by rw [HW]; exact Mq.new _ _ _ _
  have HQ := Lib.hid hq
  have HW' := Lib.hid HW
  clear hq HW hc
  obtain ⟨er, her⟩ : ∃ er : Int, er = if ts.all isT then 0 else 2 := ⟨_, rfl⟩
  rw [← her]
  have HER := Lib.hid her
  clear her
  obtain ⟨n, hnn⟩ : ∃ n, n = ts.length := ⟨_, rfl⟩
  have HN := Lib.hid hnn
  rw [← hnn] at hn ⊢
  clear hnn
  go_enter Try.func31, Try.ntmps31
  go_wp2_with fail
  rw [← HW'.out]
  refine (HUS.out _).mono ?_
  rintro e w1 ⟨rfl, hb⟩
  have HQ1 := Lib.hid (HQ.out.next hb)
  have c0 := HQ1.out.c0; have c1 := HQ1.out.c1
  clear hb
  go_wp2_with fail
  go_loopw [29] (fun i wr => ∃ j : Nat, j ≤ n ∧ i = .int .i64 j ∧ Hid (∀ k (h : k < ts.length), k < j → isT ts[k] = true) ∧ Hid (Below W.heap.size W wr)) (fun i _ => n - (intOf i).toNat)
  case atStart => exact ⟨0, by omega, rfl, fun k _ h => absurd h (by omega), HQ1.out.bel⟩
  case round =>
    obtain ⟨j, hj, rfl, HK, HB⟩ := hrel
    by_cases hlt : j < n
    · have hj2 : (j : Int) < n := by omega
      have hjn : j < ts.length := by rw [← HN.out]; exact hlt
      have hcell := HC.out wr j hjn HB.out
      by_cases ht : isT ts[j] = true
      · have HK2 : Hid (∀ k (h : k < ts.length), k < j + 1 → isT ts[k] = true) := fun k h hk => by
          by_cases e : k = j
          · subst e; exact ht
          · exact HK.out k h (by omega)
        have HT2 : Hid (∀ W', Calls Try.prog 40 #[.int .i64 ts[j]] W' fun e w' => e = .returned (.bool true) ∧ W' = w') := fun W' => by
          have := HTA.out ts[j] W'
          rwa [ht] at this
        clear ht HK
        generalize ts[j] = tj at *
        go_wp2_with fail
        refine (HT2.out _).mono ?_
        rintro e w3 ⟨rfl, rfl⟩
        go_wp2_with fail
        go_roundw
        case rel => exact ⟨j + 1, by omega, by go_num, HK2, HB⟩
        case measure => simp [intOf]; omega
      · have HE : Hid (er = 2) := by
          have : ts.all isT = false := List.all_eq_false.2 ⟨ts[j], List.getElem_mem hjn, by simpa using ht⟩
          show _ = _; rw [HER.out, this]; rfl
        have HT2 : Hid (∀ W', Calls Try.prog 40 #[.int .i64 ts[j]] W' fun e w' => e = .returned (.bool false) ∧ W' = w') := fun W' => by
          have := HTA.out ts[j] W'
          rwa [Bool.eq_false_iff.2 ht] at this
        clear ht HK
        generalize ts[j] = tj at *
        go_wp2_with fail
        refine (HT2.out _).mono ?_
        rintro e w3 ⟨rfl, rfl⟩
        go_wp2_with fail
        go_ret
        exact ⟨by rw [HE.out]; rfl, HB.out⟩
    · have hj3 : ¬ (j : Int) < n := by omega
      have HE : Hid (er = 0) := by
        have : ts.all isT = true := List.all_eq_true.2 fun t ht => by
          obtain ⟨k, hk, rfl⟩ := List.getElem_of_mem ht
          exact HK.out k hk (by have := HN.out; omega)
        show _ = _; rw [HER.out, this]; rfl
      go_wp2_with fail
      go_ret
      exact ⟨by rw [HE.out]; rfl, HB.out⟩
theorem check_any (b B c : Nat) (size lo hi : Int) (ts : List Int) (W : World) (hB : B < W.heap.size) (hc : ∀ i (h : i < ts.length), W.cell? ⟨B, i, none⟩ = some (.int .i64 ts[i])) (hn : ts.length ≤ 4) :
    Calls Try.prog 31 #[.agg #[.pointer (some ⟨b, 0, none⟩), .int .i64 size], .int .i64 lo, .int .i64 hi, .slice (some ⟨B, 0, none⟩) ts.length c] W fun e w' => e = .returned (.int .i64 (errOf size lo hi ts)) ∧ Below W.heap.size W w' := by
  by_cases h : lo < 0 ∨ hi < lo ∨ size < hi
  · have := check_range b size lo hi (some ⟨B, 0, none⟩) ts.length c W h
    simp only [errOf, if_pos h]
    exact this
  · have := check_list b B c size lo hi ts W hB hc hn (by omega) (by omega) (by omega)
    simp only [errOf, if_neg h]
    exact this
end Go.Proofs.Ytjbenhmpeceaeab
namespace Go.Proofs.Ytjbenhmpeceaeab
open Go Go.RowKit Gs

/-- a usable map of the function f from pieces to tags -/
structure IsM (f : Int → Int) (size : Int) (W : World) (p : Option Addr) : Prop where
  lo : 1 ≤ size
  ctx : Ctx f 0 size
  tr : Tr f 0 size 4096 W p
theorem IsM.hi {f : Int → Int} {size : Int} {W : World} {p : Option Addr} (h : IsM f size W p) : size ≤ 1099511627776 := h.ctx.2.1
theorem IsM.below {f : Int → Int} {size : Int} {W W' : World} {p : Option Addr} (h : IsM f size W p) (hb : Below W.heap.size W W') : IsM f size W' p := ⟨h.lo, h.ctx, h.tr.below hb⟩
theorem IsM.some {f : Int → Int} {size : Int} {W : World} {p : Option Addr} (h : IsM f size W p) : ∃ b, p = some ⟨b, 0, none⟩ := by
  rcases h.tr.last with ⟨_, e⟩ | ⟨b, _, _, e, _⟩
  · have := h.lo; omega
  · exact ⟨b, e⟩
/-- what an update answers: the errno of check; a map that is full; or the map -/
def Upd (_f g : Int → Int) (size er : Int) (q : Option Addr) (s e : Int) (W : World) : Prop :=
  (er ≠ 0 ∧ e = er ∧ q = none ∧ s = 0) ∨ (er = 0 ∧ e = 5 ∧ q = none ∧ s = 0 ∧ ∃ L, Gs.Can g 0 L size ∧ 4096 < L.length) ∨ (er = 0 ∧ e = 0 ∧ s = size ∧ IsM g size W q)
theorem Upd.below {f g : Int → Int} {size er s e : Int} {q : Option Addr} {W W' : World} (h : Upd f g size er q s e W) (hb : Below W.heap.size W W') : Upd f g size er q s e W' := by
  rcases h with h | h | ⟨h1, h2, h3, h4⟩
  · exact .inl h
  · exact .inr (.inl h)
  · exact .inr (.inr ⟨h1, h2, h3, h4.below hb⟩)
theorem Tr.of_eq {f : Int → Int} {a b a' b' : Int} {n : Nat} {W : World} {p : Option Addr} (h : Tr f a b n W p) (e1 : a = a') (e2 : b = b') : Tr f a' b' n W p := by
  subst e1; subst e2; exact h
set_option maxHeartbeats 1000000 in
theorem cut_any {f : Int → Int} {size lo hi : Int} {n : Nat} {W : World} {p : Option Addr} (h : Tr f 0 size n W p) (hx : Ctx f 0 size) (hn : n ≤ 50000) (h1 : 0 ≤ lo) (h2 : lo ≤ hi) (h3 : hi ≤ size) :
    Calls Try.prog 32 #[.agg #[.pointer p, .int .i64 size], .int .i64 lo, .int .i64 hi] W fun e w' => ∃ x y z, e = .returned (.tuple #[.pointer x, .pointer y, .pointer z]) ∧ Hid (Tr f 0 lo n w' x) ∧ Hid (Tr f lo hi n w' y) ∧ Hid (Tr f hi size n w' z) ∧ Below W.heap.size W w' := by
  obtain ⟨w0, HW⟩ : ∃ w0, w0 = W.alloc (.cells #[.pointer p, .int .i64 size] 27) := ⟨_, rfl⟩
  have hq : Mq W p size w0 := by rw [HW]; exact Mq.new _ _ _ _
  have HQ := Lib.hid hq
  have HW' := Lib.hid HW
  have HS1 : Hid (Calls Try.prog 51 #[.pointer p, .int .i64 lo] w0 fun e w' => ∃ x y, e = .returned (.tuple #[.pointer x, .pointer y]) ∧ Hid (Tr f 0 lo n w' x) ∧ Hid (Tr f lo size n w' y) ∧ Below w0.heap.size w0 w') := (h.below hq.bel).split hx hn h1 (by omega)
  have HS2 : Hid (∀ y W', Tr f lo size n W' y → Calls Try.prog 51 #[.pointer y, .int .i64 hi] W' fun e w' => ∃ x z, e = .returned (.tuple #[.pointer x, .pointer z]) ∧ Hid (Tr f lo hi n w' x) ∧ Hid (Tr f hi size n w' z) ∧ Below W'.heap.size W' w') := fun y W' hy => hy.split (hx.sub h1 (Int.le_refl _)) hn h2 h3
  have c0 := hq.c0; have c1 := hq.c1
  clear h hx hn h1 h2 h3 hq HW
  go_enter Try.func32, Try.ntmps32
  go_wp2_with fail
  rw [← HW'.out]
  refine HS1.out.mono ?_
  rintro e w1 ⟨x, y, rfl, HX, HY, hb⟩
  have HB := Lib.hid hb
  clear hb
  go_wp2_with fail
  refine (HS2.out y _ HY.out).mono ?_
  rintro e w2 ⟨y2, z, rfl, HY2, HZ, hb⟩
  have HB2 := Lib.hid hb
  clear hb
  go_wp2_with fail
  refine bodyPost_ret (v := .tuple #[.pointer x, .pointer y2, .pointer z]) (by simp [results, Try.results32, go_sem]) rfl ?_
  exact ⟨x, y2, z, rfl, HX.out.below HB2.out, HY2, HZ, HQ.out.bel.trans ((HB.out.trans (HB2.out.mono HB.out.size)).mono HQ.out.bel.size)⟩
theorem box_two (W : World) (X : Nat) (Ty : TypeId) (hX : X = W.heap.size) : (W.alloc (.cells #[.pointer none, .int .i64 0] Ty)).cell? ⟨X, 0, none⟩ = some (.pointer none) ∧ (W.alloc (.cells #[.pointer none, .int .i64 0] Ty)).cell? ⟨X, 1, none⟩ = some (.int .i64 0) := by
  subst hX
  exact ⟨World.cell?_alloc_at _ _ _ _ rfl, World.cell?_alloc_at _ _ _ _ rfl⟩
end Go.Proofs.Ytjbenhmpeceaeab
namespace Go.Proofs.Ytjbenhmpeceaeab
open Go Go.RowKit Gs

/-- a map lies at block B -/
structure Mb (B : Nat) (p : Option Addr) (size : Int) (W' : World) : Prop where
  c0 : W'.cell? ⟨B, 0, none⟩ = some (.pointer p)
  c1 : W'.cell? ⟨B, 1, none⟩ = some (.int .i64 size)
  f0 : W'.frozen? ⟨B, 0, none⟩ = false
  f1 : W'.frozen? ⟨B, 1, none⟩ = false
  c22 : W'.cell? ⟨B, 22, none⟩ = none
  lt : B < W'.heap.size
section
variable {W W' W2 : World} {p : Option Addr} {size : Int} {B : Nat}
theorem Mb.next (h : Mb B p size W') (hb : Below W'.heap.size W' W2) : Mb B p size W2 :=
  ⟨(hb.cell (p := ⟨B, 0, none⟩) h.lt).trans h.c0, (hb.cell (p := ⟨B, 1, none⟩) h.lt).trans h.c1, (hb.frozen (p := ⟨B, 0, none⟩) h.lt).trans h.f0, (hb.frozen (p := ⟨B, 1, none⟩) h.lt).trans h.f1, (hb.cell (p := ⟨B, 22, none⟩) h.lt).trans h.c22, Nat.lt_of_lt_of_le h.lt hb.size⟩
theorem Mb.drew (h : Mb B p size W') : Mb B p size W'.drew := h.next (Below.refl _ _).drew
theorem Mb.drewN (h : Mb B p size W') (k : Nat) : Mb B p size (W'.drewN k) := h.next (below_drewN (Below.refl _ _) k)
theorem Mb.new (W : World) (p : Option Addr) (size : Int) (Ty : TypeId) : Mb W.heap.size p size (W.alloc (.cells #[.pointer p, .int .i64 size] Ty)) :=
  ⟨World.cell?_alloc_at _ _ _ _ rfl, World.cell?_alloc_at _ _ _ _ rfl, World.frozen?_alloc_at _ _ _ _ rfl, World.frozen?_alloc_at _ _ _ _ rfl, World.cell?_alloc_at _ _ _ _ rfl, by simp⟩
theorem Mb.put (h : Mb B p size W') (q : Option Addr) (s : Int) : Mb B q s ((W'.setCell ⟨B, 0, none⟩ (.pointer q)).setCell ⟨B, 1, none⟩ (.int .i64 s)) :=
  ⟨(World.cell?_setCell_other _ _ _ _ (by intro e; cases e)).trans (World.cell?_setCell_same _ _ _ h.c0), World.cell?_setCell_same _ _ _ ((World.cell?_setCell_other _ _ _ _ (by intro e; cases e)).trans h.c1),
   (World.frozen?_setCell _ _ _ _).trans ((World.frozen?_setCell _ _ _ _).trans h.f0), (World.frozen?_setCell _ _ _ _).trans ((World.frozen?_setCell _ _ _ _).trans h.f1), (World.cell?_setCell_other _ _ _ _ (by intro e; cases e)).trans ((World.cell?_setCell_other _ _ _ _ (by intro e; cases e)).trans h.c22), by rw [World.size_setCell, World.size_setCell]; exact h.lt⟩
/-- a store at another block -/
theorem Mb.other {B2 : Nat} (h : Mb B p size W') (hne : B2 ≠ B) (x y : Value) : Mb B p size ((W'.setCell ⟨B2, 0, none⟩ x).setCell ⟨B2, 1, none⟩ y) := by
  have o : ∀ i j, (⟨B2, i, none⟩ : Addr) ≠ ⟨B, j, none⟩ := by intro i j e; injection e with e; exact hne e
  exact ⟨(World.cell?_setCell_other _ _ _ _ (o _ _)).trans ((World.cell?_setCell_other _ _ _ _ (o _ _)).trans h.c0), (World.cell?_setCell_other _ _ _ _ (o _ _)).trans ((World.cell?_setCell_other _ _ _ _ (o _ _)).trans h.c1),
    (World.frozen?_setCell _ _ _ _).trans ((World.frozen?_setCell _ _ _ _).trans h.f0), (World.frozen?_setCell _ _ _ _).trans ((World.frozen?_setCell _ _ _ _).trans h.f1), (World.cell?_setCell_other _ _ _ _ (o _ _)).trans ((World.cell?_setCell_other _ _ _ _ (o _ _)).trans h.c22), by rw [World.size_setCell, World.size_setCell]; exact h.lt⟩
theorem Mb.tr {f : Int → Int} {a b : Int} {n : Nat} {q : Option Addr} (h : Mb B p size W') (ht : Tr f a b n W' q) (x y : Value) : Tr f a b n ((W'.setCell ⟨B, 0, none⟩ x).setCell ⟨B, 1, none⟩ y) q :=
  (ht.set h.c22 x).set ((World.cell?_setCell_other _ _ _ _ (by intro e; cases e)).trans h.c22) y
end
theorem Mb.upd {f g : Int → Int} {size er s e sz : Int} {B : Nat} {p q : Option Addr} {W' : World} (h : Mb B p sz W') (hu : Upd f g size er q s e W') (x y : Value) : Upd f g size er q s e ((W'.setCell ⟨B, 0, none⟩ x).setCell ⟨B, 1, none⟩ y) := by
  rcases hu with hu | hu | ⟨h1, h2, h3, h4⟩
  · exact .inl hu
  · exact .inr (.inl hu)
  · exact .inr (.inr ⟨h1, h2, h3, h4.lo, h4.ctx, h.tr h4.tr x y⟩)
/-- a map's box, and that of a result behind it -/
theorem boxes2 (W : World) (p : Option Addr) (size : Int) (Ty : TypeId) : ∃ w0, w0 = (W.alloc (.cells #[.pointer p, .int .i64 size] Ty)).alloc (.cells #[.pointer none, .int .i64 0] Ty) ∧ Mb W.heap.size p size w0 ∧ Mb (W.heap.size + 1) none 0 w0 ∧ Below W.heap.size W w0 := by
  have h1 := Mb.new W p size Ty
  have h2 := Mb.new (W.alloc (.cells #[.pointer p, .int .i64 size] Ty)) none 0 Ty
  rw [show (W.alloc (.cells #[.pointer p, .int .i64 size] Ty)).heap.size = W.heap.size + 1 by simp] at h2
  exact ⟨_, rfl, h1.next ((Below.refl _ _).alloc (Nat.le_refl _) _), h2, ((Below.refl _ _).alloc (Nat.le_refl _) _).alloc (by simp) _⟩
theorem below_put {W W' : World} {B : Nat} (h : Below W.heap.size W W') (hB : W.heap.size ≤ B) (x y : Value) : Below W.heap.size W ((W'.setCell ⟨B, 0, none⟩ x).setCell ⟨B, 1, none⟩ y) := (h.setCell hB x).setCell hB y
set_option maxHeartbeats 1000000 in
theorem with_any {f g : Int → Int} {size : Int} {n : Nat} {W : World} {p r : Option Addr} (h : Tr g 0 size n W r) (hx : Ctx g 0 size) (hs : 1 ≤ size) (_hn : n ≤ 90000) :
    Calls Try.prog 33 #[.agg #[.pointer p, .int .i64 size], .pointer r] W fun e w' => ∃ q s e2, e = .returned (.tuple #[.agg #[.pointer q, .int .i64 s], .int .i64 e2]) ∧ Hid (Upd f g size 0 q s e2 w') ∧ Below W.heap.size W w' := by
  obtain ⟨w0, HW, hm, hr, hb⟩ := boxes2 W p size 27
  obtain ⟨t, t1, t2, t3⟩ := h
  have HLN : Hid (Calls Try.prog 49 #[.pointer r] w0 fun e w' => e = .returned (.int .i64 t.sz) ∧ w0 = w') := len_any t _ w0 (IsT.below hb t1)
  have HM := Lib.hid hm; have HR := Lib.hid hr; have HB := Lib.hid hb; have HW' := Lib.hid HW
  by_cases hl : 4096 < t.sz
  · have HU : Hid (∀ W', Upd f g size 0 none 0 5 W') := fun W' => .inr (.inl ⟨rfl, rfl, rfl, rfl, t.L, t2, by rw [← T.sz_eq]; exact hl⟩)
    have h1 : (t.sz : Int) > 4096 := by omega
    clear hm hr hb HW t1 t2 t3 hx hs _hn
    generalize t.sz = SZ at *
    have d0 := HR.out.c0; have d1 := HR.out.c1; have d2 := HR.out.f0; have d3 := HR.out.f1
    obtain ⟨u0, u1⟩ : _ ∧ _ := ⟨(HR.out.put none 0).c0, (HR.out.put none 0).c1⟩
    go_enter Try.func33, Try.ntmps33
    go_wp2_with fail
    rw [← HW'.out]
    refine HLN.out.mono ?_
    rintro e w1 ⟨rfl, rfl⟩
    go_wp2_with fail
    refine bodyPost_ret (v := .tuple #[.agg #[.pointer none, .int .i64 0], .int .i64 5]) (by simp [results, Try.results33, go_sem, u0, u1]) rfl ?_
    have HBF := below_put HB.out (B := W.heap.size + 1) (by omega) (.pointer none) (.int .i64 0)
    exact ⟨none, 0, 5, rfl, HU.out _, by first | exact HB.out | exact HBF⟩
  · have HT : Hid (Tr g 0 size 4096 W r) := ⟨t, t1, t2, by omega⟩
    have HX : Hid (Ctx g 0 size ∧ 1 ≤ size) := ⟨hx, hs⟩
    have h1 : ¬ (t.sz : Int) > 4096 := by omega
    clear hm hr hb HW t1 t2 t3 hx hs _hn
    generalize t.sz = SZ at *
    have d0 := HR.out.c0; have d1 := HR.out.c1; have d2 := HR.out.f0; have d3 := HR.out.f1
    have k0 := HM.out.c0; have k1 := HM.out.c1
    obtain ⟨u0, u1⟩ : _ ∧ _ := ⟨(HR.out.put r size).c0, (HR.out.put r size).c1⟩
    go_enter Try.func33, Try.ntmps33
    go_wp2_with fail
    rw [← HW'.out]
    refine HLN.out.mono ?_
    rintro e w1 ⟨rfl, rfl⟩
    go_wp2_with fail
    refine bodyPost_ret (v := .tuple #[.agg #[.pointer r, .int .i64 size], .int .i64 0]) (by simp [results, Try.results33, go_sem, u0, u1]) rfl ?_
    have HBF := below_put HB.out (B := W.heap.size + 1) (by omega) (.pointer r) (.int .i64 size)
    exact ⟨r, size, 0, rfl, .inr (.inr ⟨rfl, rfl, rfl, HX.out.2, HX.out.1, HT.out.below HBF⟩), HBF⟩
end Go.Proofs.Ytjbenhmpeceaeab
namespace Go.Proofs.Ytjbenhmpeceaeab
open Go Go.RowKit Gs

/-- the pieces of a range have a tag -/
def put (f : Int → Int) (lo hi : Int) (t : Int) (x : Int) : Int := if lo ≤ x ∧ x < hi then t else f x
theorem put_ctx {f : Int → Int} {a b lo hi t : Int} (h : Ctx f a b) (h0 : 0 ≤ t) (h1 : t < 16) : Ctx (put f lo hi t) a b := by
  refine ⟨h.1, h.2.1, fun p p1 p2 => ?_⟩
  have := h.2.2 p p1 p2
  simp only [put]
  split <;> omega
theorem errOf_zero {size lo hi : Int} {ts : List Int} (h : errOf size lo hi ts = 0) : 0 ≤ lo ∧ lo ≤ hi ∧ hi ≤ size ∧ ∀ t ∈ ts, 0 ≤ t ∧ t < 16 := by
  unfold errOf at h
  split at h
  · omega
  · split at h
    · rename_i h1 h2
      refine ⟨by omega, by omega, by omega, fun t ht => ?_⟩
      have := List.all_eq_true.1 h2 t ht
      exact of_decide_eq_true this
    · omega
/-- the boxes of a call: the map, the result, and a list of tags -/
theorem boxes3 (W : World) (p : Option Addr) (size : Int) (Ty : TypeId) (vs : Array Value) (Tv : TypeId) : ∃ w0, w0 = ((W.alloc (.cells #[.pointer p, .int .i64 size] Ty)).alloc (.cells #[.pointer none, .int .i64 0] Ty)).alloc (.cells vs Tv) ∧ Mb W.heap.size p size w0 ∧ Mb (W.heap.size + 1) none 0 w0 ∧ (∀ i v, vs[i]? = some v → w0.cell? ⟨W.heap.size + 1 + 1, i, none⟩ = some v) ∧ W.heap.size + 1 + 1 < w0.heap.size ∧ Below W.heap.size W w0 := by
  obtain ⟨w1, hw, hm, hr, hb⟩ := boxes2 W p size Ty
  have e : w1.heap.size = W.heap.size + 1 + 1 := by rw [hw]; simp
  rw [← hw]
  have hb1 : Below w1.heap.size w1 (w1.alloc (.cells vs Tv)) := (Below.refl _ _).alloc (Nat.le_refl _) _
  refine ⟨_, rfl, hm.next hb1, hr.next hb1, fun i v hv => ?_, by simp [e], hb.trans (hb1.mono hb.size)⟩
  exact (World.cell?_alloc_at _ _ _ _ e.symm).trans hv
set_option maxHeartbeats 1000000 in
/-- an update that check refuses -/
theorem Set_err {f : Int → Int} {size lo hi tag : Int} {W : World} {p : Option Addr} (h : IsM f size W p) (her : errOf size lo hi [tag] ≠ 0) :
    Calls Try.prog 14 #[.agg #[.pointer p, .int .i64 size], .int .i64 lo, .int .i64 hi, .int .i64 tag] W fun e w' => e = .returned (.tuple #[.agg #[.pointer none, .int .i64 0], .int .i64 (errOf size lo hi [tag])]) ∧ Below W.heap.size W w' := by
  obtain ⟨b, rfl⟩ := h.some
  obtain ⟨w0, HW, hm, hr, hc, hlt, hb⟩ := boxes3 W (some ⟨b, 0, none⟩) size 27 #[.int .i64 tag] 3
  have HCK : Hid (Calls Try.prog 31 #[.agg #[.pointer (some ⟨b, 0, none⟩), .int .i64 size], .int .i64 lo, .int .i64 hi, .slice (some ⟨W.heap.size + 1 + 1, 0, none⟩) 1 1] w0 fun e w' => e = .returned (.int .i64 (errOf size lo hi [tag])) ∧ Below w0.heap.size w0 w') :=
    check_any b (W.heap.size + 1 + 1) 1 size lo hi [tag] w0 hlt (fun i hi => by
      have : i = 0 := by simp at hi; exact hi
      subst this
      exact hc 0 _ rfl) (by simp)
  have HR := Lib.hid hr; have HB := Lib.hid hb; have HW' := Lib.hid HW
  have hne : (errOf size lo hi [tag] == 0) = false := beq_eq_false_iff_ne.2 her
  clear hm hr hb HW hc hlt h her
  generalize errOf size lo hi [tag] = er at *
  go_enter Try.func14, Try.ntmps14
  go_wp2_with fail
  rw [← HW'.out]
  refine HCK.out.mono ?_
  rintro e w1 ⟨rfl, hb⟩
  have HR1 := Lib.hid (HR.out.next hb)
  have HB1 := Lib.hid (HB.out.trans (hb.mono HB.out.size))
  have d0 := HR1.out.c0; have d1 := HR1.out.c1; have d2 := HR1.out.f0; have d3 := HR1.out.f1
  obtain ⟨u0, u1⟩ : _ ∧ _ := ⟨(HR1.out.put none 0).c0, (HR1.out.put none 0).c1⟩
  clear hb
  go_wp2_with fail
  refine bodyPost_ret (v := .tuple #[.agg #[.pointer none, .int .i64 0], .int .i64 er]) (by simp [results, Try.results14, go_sem, u0, u1]) rfl ?_
  have HBF := below_put HB1.out (B := W.heap.size + 1) (by omega) (.pointer none) (.int .i64 0)
  exact ⟨rfl, by first | exact HB1.out | exact HBF⟩
end Go.Proofs.Ytjbenhmpeceaeab
namespace Go.Proofs.Ytjbenhmpeceaeab
open Go Go.RowKit Gs

set_option maxHeartbeats 1000000 in
theorem countBelow_any (f : Int → Int) (at' : Int) (k : Nat) (hk : k < 16) : ∀ (t : T) (a b : Int) (p : Option Addr) (W : World), IsT W t (.pointer p) → Gs.Can f a t.L b → Ctx f a b →
    Calls Try.prog 38 #[.pointer p, .int .i64 at', .int .i64 k] W fun e w' => e = .returned (.int .i64 (cb at' k t.L)) ∧ Below W.heap.size W w' := by
  intro t
  induction t with
  | nil =>
    intro a b p W h hc hx
    have h1 : Value.pointer p = .pointer none := h
    injection h1 with h1
    subst h1
    clear h hc hx hk
    go_enter Try.func38, Try.ntmps38
    go_wp2_with fail
    go_ret
    exact ⟨rfl, Below.refl _ _⟩
  | node c r d ihc ihd =>
    intro a b p W h hc hx
    obtain ⟨lo, hi, tag⟩ := r
    obtain ⟨m1, m2, m3, m4, m5, m6⟩ := hc.mid
    simp only at m1 m2 m3 m4 m5 m6
    have q1 := m1.le; have q2 := m2.le
    have x1 := hx.1; have x2 := hx.2.1
    obtain ⟨b0, u, v, rfl, hlt, h1, h2, hcs⟩ := h.open
    have HU := Lib.hid h1
    have HV := Lib.hid h2
    have HCS := Lib.hid hcs
    by_cases g : at' ≤ lo
    · have HE : Hid (cb at' k (T.node c ⟨lo, hi, tag⟩ d).L = cb at' k c.L) := cb_left hc g
      have HI : Hid (Calls Try.prog 38 #[.pointer u, .int .i64 at', .int .i64 k] W fun e w' => e = .returned (.int .i64 (cb at' k c.L)) ∧ Below W.heap.size W w') := ihc a lo u W h1 m1 (hx.sub (by omega) (by omega))
      obtain ⟨d0, d1, d2, d3, d4⟩ := hcs W (Below.refl _ _)
      clear h hc hx m1 m2 m3 m4 m5 m6 h1 h2 hcs ihc ihd
      go_enter Try.func38, Try.ntmps38
      go_wp2_with fail
      refine HI.out.mono ?_
      rintro e w1 ⟨rfl, hb⟩
      have HB := Lib.hid hb
      clear hb d0 d1 d2 d3 d4
      go_wp2_with fail
      go_ret
      exact ⟨by rw [HE.out]; rfl, HB.out⟩
    · have hcr := cb_right (at' := at') (k := k) hc (by show lo < at'; omega)
      have z1 := cb_bd at' k m1.1; have z2 := cb_bd at' k m2.1; have z3 := cb_bd at' k hc.1
      have HCN : Hid (∀ W', Below W.heap.size W W' → Calls Try.prog 36 #[.pointer u, .int .i64 k] W' fun e w' => e = .returned (.int .i64 (cnt k c.L)) ∧ W' = w') := fun W' h => count_any c _ W' k hk (IsT.below h h1)
      have HI : Hid (∀ W', Below W.heap.size W W' → Calls Try.prog 38 #[.pointer v, .int .i64 at', .int .i64 k] W' fun e w' => e = .returned (.int .i64 (cb at' k d.L)) ∧ Below W.heap.size W w') := fun W' h => (ihd hi b v W' (IsT.below h h2) m2 (hx.sub (by omega) (by omega))).mono fun e w' ⟨he, hB⟩ => ⟨he, h.trans (hB.mono h.size)⟩
      have HE := Lib.hid hcr
      simp only [T.L] at HE z3 ⊢
      generalize cb at' k (c.L ++ ⟨lo, hi, tag⟩ :: d.L) = full at *
      clear hcr h hc hx m1 m2 m4 m5 m6 h1 h2 ihc ihd hcs
      generalize cnt k c.L = cl at *
      generalize cb at' k d.L = cr at *
      generalize cb at' k c.L = c1 at *
      generalize cnt k d.L = c2 at *
      clear z3
      have y1 : -1000000000000000 ≤ cl ∧ cl ≤ 1000000000000000 := by omega
      have y2 : -1000000000000000 ≤ cr ∧ cr ≤ 1000000000000000 := by omega
      clear z1 z2
      obtain ⟨y1, y3⟩ := y1
      obtain ⟨y2, y4⟩ := y2
      have hw : IntKind.i64.wrap (cl + cr) = cl + cr := IntWalk.i64_in _ (by omega)
      have hs : Below W.heap.size W W := Below.refl _ _
      have hs2 := hs.drew
      have hcl := HCS.out _ hs2
      have hc0 := HCS.out _ hs
      unfold Cs at hcl hc0 HCS
      by_cases gt : (k : Int) = tag
      · have HE2 : Hid (full = cl + cr + (min at' hi - lo)) := by
          show _ = _
          rw [HE.out, if_pos gt.symm]
        subst gt
        clear HE
        go_enter Try.func38, Try.ntmps38
        go_wp2_with fail
        go_region_held3 (fun W' : World => (W'.cell? ⟨b0, 0, none⟩ = some (.pointer u) ∧ W'.cell? ⟨b0, 1, none⟩ = some (.int .i64 lo) ∧ W'.cell? ⟨b0, 2, none⟩ = some (.int .i64 hi) ∧ W'.cell? ⟨b0, 3, none⟩ = some (.int .i64 k) ∧ W'.cell? ⟨b0, 4, none⟩ = some (.pointer v)) ∧ Below W.heap.size W W') (first | (refine And.intro ?_ ?_ <;> assumption) | fail) (first
          | (go_at_call 36; with_reducible refine (HCN.out _ ?h).mono ?_; (case h => assumption); rintro e w' ⟨rfl, rfl⟩)
          | (go_at_call 38; with_reducible refine (HI.out _ ?h).mono ?_; (case h => assumption); rintro e w' ⟨rfl, hs'⟩; have hc' := HCS.out _ hs') | fail)
        all_goals
          have HB := Lib.hid hs'
          clear hs hs2 hcl hc0 hs'
          obtain ⟨e0, e1, e2, e3, e4⟩ := hc'
          by_cases gm : hi < at'
          · have HE3 : Hid (full = cl + cr + (hi - lo)) := by show _ = _; rw [HE2.out]; omega
            go_wp2_with fail
            go_region
            all_goals
              go_wp2_with fail
              go_ret
              exact ⟨by rw [HE3.out]; rfl, by first | exact HB.out | exact HB.out.drew | exact below_drewN HB.out _⟩
          · have HE3 : Hid (full = cl + cr + (at' - lo)) := by show _ = _; rw [HE2.out]; omega
            go_wp2_with fail
            go_region
            all_goals
              go_wp2_with fail
              go_ret
              exact ⟨by rw [HE3.out]; rfl, by first | exact HB.out | exact HB.out.drew | exact below_drewN HB.out _⟩
      · have HE2 : Hid (full = cl + cr) := by
          show _ = _
          rw [HE.out, if_neg (fun h => gt h.symm)]; omega
        have gb : (tag == (k : Int)) = false := beq_eq_false_iff_ne.2 (fun h => gt h.symm)
        clear HE
        go_enter Try.func38, Try.ntmps38
        go_wp2_with fail
        go_region_held3 (fun W' : World => (W'.cell? ⟨b0, 0, none⟩ = some (.pointer u) ∧ W'.cell? ⟨b0, 1, none⟩ = some (.int .i64 lo) ∧ W'.cell? ⟨b0, 2, none⟩ = some (.int .i64 hi) ∧ W'.cell? ⟨b0, 3, none⟩ = some (.int .i64 tag) ∧ W'.cell? ⟨b0, 4, none⟩ = some (.pointer v)) ∧ Below W.heap.size W W') (first | (refine And.intro ?_ ?_ <;> assumption) | fail) (first
          | (go_at_call 36; with_reducible refine (HCN.out _ ?h).mono ?_; (case h => assumption); rintro e w' ⟨rfl, rfl⟩)
          | (go_at_call 38; with_reducible refine (HI.out _ ?h).mono ?_; (case h => assumption); rintro e w' ⟨rfl, hs'⟩; have hc' := HCS.out _ hs') | fail)
        all_goals
          have HB := Lib.hid hs'
          clear hs hs2 hcl hc0 hs'
          obtain ⟨e0, e1, e2, e3, e4⟩ := hc'
          go_wp2_with fail
          go_ret
          exact ⟨by rw [HE2.out]; rfl, HB.out⟩
set_option maxHeartbeats 1000000 in
theorem find_any (f : Int → Int) (k : Nat) (hk : k < 16) : ∀ (t : T) (a b n : Int) (p : Option Addr) (W : World), IsT W t (.pointer p) → Gs.Can f a t.L b → Ctx f a b → 0 ≤ n → n < cnt k t.L →
    Calls Try.prog 41 #[.pointer p, .int .i64 k, .int .i64 n] W fun e w' => ∃ x, e = .returned (.int .i64 x) ∧ Hid (a ≤ x ∧ x < b ∧ f x = k ∧ cb x k t.L = n) ∧ Below W.heap.size W w' := by
  intro t
  induction t with
  | nil =>
    intro a b n p W h hc hx h0 hn
    simp only [T.L, cnt] at hn
    omega
  | node c r d ihc ihd =>
    intro a b n p W h hc hx h0 hn
    obtain ⟨lo, hi, tag⟩ := r
    obtain ⟨m1, m2, m3, m4, m5, m6⟩ := hc.mid
    simp only at m1 m2 m3 m4 m5 m6
    have q1 := m1.le; have q2 := m2.le
    have x1 := hx.1; have x2 := hx.2.1
    obtain ⟨b0, u, v, rfl, hlt, h1, h2, hcs⟩ := h.open
    have hcnt : cnt k (T.node c ⟨lo, hi, tag⟩ d).L = cnt k c.L + (if tag = k then hi - lo else 0) + cnt k d.L := by simp only [T.L, cnt_append, cnt]; omega
    rw [hcnt] at hn
    have z1 := cb_bd a k m1.1; have z2 := cb_bd a k m2.1
    have HCN : Hid (∀ W', Below W.heap.size W W' → Calls Try.prog 36 #[.pointer u, .int .i64 k] W' fun e w' => e = .returned (.int .i64 (cnt k c.L)) ∧ W' = w') := fun W' h => count_any c _ W' k hk (IsT.below h h1)
    have HCL : Hid (∀ m, 0 ≤ m → m < cnt k c.L → Calls Try.prog 41 #[.pointer u, .int .i64 k, .int .i64 m] W fun e w' => ∃ x, e = .returned (.int .i64 x) ∧ Hid (a ≤ x ∧ x < lo ∧ f x = k ∧ cb x k c.L = m) ∧ Below W.heap.size W w') := fun m g1 g2 => ihc a lo m u W h1 m1 (hx.sub (by omega) (by omega)) g1 g2
    have HDL : Hid (∀ W' m, Below W.heap.size W W' → 0 ≤ m → m < cnt k d.L → Calls Try.prog 41 #[.pointer v, .int .i64 k, .int .i64 m] W' fun e w' => ∃ x, e = .returned (.int .i64 x) ∧ Hid (hi ≤ x ∧ x < b ∧ f x = k ∧ cb x k d.L = m) ∧ Below W'.heap.size W' w') := fun W' m hb g1 g2 => ihd hi b m v W' (IsT.below hb h2) m2 (hx.sub (by omega) (by omega)) g1 g2
    have HLO : Hid (∀ x, a ≤ x → x < lo → cb x k (T.node c ⟨lo, hi, tag⟩ d).L = cb x k c.L) := fun x _ g2 => cb_left hc (by show x ≤ lo; omega)
    have HMI : Hid (∀ x, lo ≤ x → x < hi → cb x k (T.node c ⟨lo, hi, tag⟩ d).L = cnt k c.L + (if tag = k then x - lo else 0) ∧ f x = tag) := fun x g1 g2 => ⟨cb_mid hc g1 (by show x ≤ hi; omega), m4 x g1 g2⟩
    have HHI : Hid (∀ x, hi ≤ x → cb x k (T.node c ⟨lo, hi, tag⟩ d).L = cnt k c.L + (if tag = k then hi - lo else 0) + cb x k d.L) := fun x g1 => cb_past hc g1
    obtain ⟨d0, d1, d2, d3, d4⟩ := hcs W (Below.refl _ _)
    clear h hc hx m1 m2 m4 m5 m6 h1 h2 hcs hcnt ihc ihd
    generalize (T.node c ⟨lo, hi, tag⟩ d).L = FL at *
    generalize cnt k c.L = cl at *
    generalize cnt k d.L = cr at *
    obtain ⟨y1, y2⟩ : 0 ≤ cl ∧ cl ≤ 1099511627776 := by omega
    obtain ⟨y3, y4⟩ : 0 ≤ cr ∧ cr ≤ 1099511627776 := by omega
    clear z1 z2
    by_cases g : n < cl
    · clear hn
      go_enter Try.func41, Try.ntmps41
      go_wp2_with fail
      refine (HCN.out _ (Below.refl _ _)).mono ?_
      rintro e w1 ⟨rfl, rfl⟩
      go_wp2_with fail
      refine (HCL.out n h0 g).mono ?_
      rintro e w2 ⟨x, rfl, HX, hb⟩
      have HB := Lib.hid hb
      clear hb
      go_wp2_with fail
      go_ret
      have hx := HX.out
      exact ⟨x, rfl, ⟨hx.1, by omega, hx.2.2.1, by rw [HLO.out x hx.1 hx.2.1]; exact hx.2.2.2⟩, HB.out⟩
    · by_cases gt : (k : Int) = tag
      · subst gt
        rw [if_pos rfl] at hn
        have HMI2 : Hid (∀ x, lo ≤ x → x < hi → cb x k FL = cl + (x - lo) ∧ f x = k) := fun x g1 g2 => by
          have h := HMI.out x g1 g2; rw [if_pos rfl] at h; exact h
        have HHI2 : Hid (∀ x, hi ≤ x → cb x k FL = cl + (hi - lo) + cb x k d.L) := fun x g1 => by
          have h := HHI.out x g1; rw [if_pos rfl] at h; exact h
        clear HMI HHI
        by_cases g2 : n - cl < hi - lo
        · go_enter Try.func41, Try.ntmps41
          go_wp2_with fail
          refine (HCN.out _ (Below.refl _ _)).mono ?_
          rintro e w1 ⟨rfl, rfl⟩
          go_wp2_with fail
          go_quiet (fail)
          go_wp2_with fail
          go_ret
          have hx := HMI2.out (lo + (n - cl)) (by omega) (by omega)
          exact ⟨lo + (n - cl), rfl, ⟨by omega, by omega, hx.2, by rw [hx.1]; omega⟩, below_drewN (Below.refl _ _) _⟩
        · go_enter Try.func41, Try.ntmps41
          go_wp2_with fail
          refine (HCN.out _ (Below.refl _ _)).mono ?_
          rintro e w1 ⟨rfl, rfl⟩
          go_wp2_with fail
          go_quiet (fail)
          go_wp2_with fail
          go_quiet (fail)
          go_wp2_with fail
          refine (HDL.out _ (n - cl - (hi - lo)) (below_drewN (Below.refl _ _) _) (by omega) (by omega)).mono ?_
          rintro e w2 ⟨x, rfl, HX, hb⟩
          have HB := Lib.hid (hb.mono (below_drewN (Below.refl W.heap.size W) _).size)
          clear hb
          go_wp2_with fail
          go_ret
          have hx := HX.out
          exact ⟨x, rfl, ⟨by omega, hx.2.1, hx.2.2.1, by rw [HHI2.out x hx.1, hx.2.2.2]; omega⟩, (below_drewN (Below.refl _ _) _).trans HB.out⟩
      · have gb : (tag == (k : Int)) = false := beq_eq_false_iff_ne.2 (fun h => gt h.symm)
        rw [if_neg (fun h => gt h.symm)] at hn
        have HHI2 : Hid (∀ x, hi ≤ x → cb x k FL = cl + 0 + cb x k d.L) := fun x g1 => by
          have h := HHI.out x g1; rw [if_neg (fun h => gt h.symm)] at h; exact h
        clear HMI HHI gt
        go_enter Try.func41, Try.ntmps41
        go_wp2_with fail
        refine (HCN.out _ (Below.refl _ _)).mono ?_
        rintro e w1 ⟨rfl, rfl⟩
        go_wp2_with fail
        refine (HDL.out _ (n - cl) (Below.refl _ _) (by omega) (by omega)).mono ?_
        rintro e w2 ⟨x, rfl, HX, hb⟩
        have HB := Lib.hid hb
        clear hb
        go_wp2_with fail
        go_ret
        have hx := HX.out
        exact ⟨x, rfl, ⟨by omega, hx.2.1, hx.2.2.1, by rw [HHI2.out x hx.1, hx.2.2.2]; omega⟩, HB.out⟩
end Go.Proofs.Ytjbenhmpeceaeab
namespace Go.Proofs.Ytjbenhmpeceaeab
open Go Go.RowKit Gs

set_option maxRecDepth 100000 in
set_option maxHeartbeats 1000000 in
theorem Get_ok {f : Int → Int} {size at' : Int} {W : World} {p : Option Addr} (h : IsM f size W p) (h1 : 0 ≤ at') (h2 : at' < size) :
    Calls Try.prog 12 #[.agg #[.pointer p, .int .i64 size], .int .i64 at'] W fun e w' => e = .returned (.tuple #[.int .i64 (f at'), .int .i64 0]) ∧ Below W.heap.size W w' := by
  obtain ⟨b, rfl⟩ := h.some
  obtain ⟨t, t1, t2, t3⟩ := h.tr
  obtain ⟨w0, HW⟩ : ∃ w0, w0 = W.alloc (.cells #[.pointer (some ⟨b, 0, none⟩), .int .i64 size] 27) := ⟨_, rfl⟩
  have hq : Mq W (some ⟨b, 0, none⟩) size w0 := by rw [HW]; exact Mq.new _ _ _ _
  have HUS := Lib.hid (isUsable_any b size w0)
  have HAT : Hid (∀ W', Below W.heap.size W W' → Calls Try.prog 30 #[.pointer (some ⟨b, 0, none⟩), .int .i64 at'] W' fun e w' => ∃ lo hi, e = .returned (.agg #[.int .i64 lo, .int .i64 hi, .int .i64 (f at')]) ∧ Below W'.heap.size W' w') := fun W' hb => by
    refine (at_any f 0 size t _ W' at' (IsT.below hb t1) t2 h1 h2).mono ?_
    rintro e w' ⟨l, lo, hi, tag, k, rfl, hk, hB⟩
    obtain ⟨e1, e2, e3⟩ := hk.out
    rw [e1] at t2
    have := t2.mid.2.2.2.1 at' e2 e3
    simp only at this
    rw [this]
    exact ⟨lo, hi, rfl, hB⟩
  have HQ := Lib.hid hq
  have HW' := Lib.hid HW
  have hfl2 : ∀ (x y z : Int) (w : World), (Instr.field 46 (.agg #[.int .i64 x, .int .i64 y, .int .i64 z]) 2).run Try.prog w = .ok (.int .i64 z) w := fun _ _ _ _ => rfl
  have h3 : ¬ at' < 0 := by omega
  have h4 : ¬ at' ≥ size := by omega
  clear h t1 t2 t3 hq HW h1 h2
  generalize f at' = fa at *
  go_enter Try.func12, Try.ntmps12
  go_wp2_with fail
  rw [← HW'.out]
  refine HUS.out.mono ?_
  rintro e w1 ⟨rfl, hb⟩
  have HQ1 := Lib.hid (HQ.out.next hb)
  have c0 := HQ1.out.c0; have c1 := HQ1.out.c1
  clear hb
  go_wp2_with fail
  refine (HAT.out _ HQ1.out.bel).mono ?_
  rintro e w2 ⟨lo, hi, rfl, hb⟩
  have HB := Lib.hid (HQ1.out.bel.trans (hb.mono HQ1.out.bel.size))
  clear hb
  go_wp2_with fail
  refine bodyPost_ret (v := .tuple #[.int .i64 fa, .int .i64 0]) (by simp [results, Try.results12, go_sem]) rfl ?_
  exact ⟨rfl, HB.out⟩
set_option maxHeartbeats 1000000 in
theorem Count_ok {f : Int → Int} {size lo hi : Int} {k : Nat} {W : World} {p : Option Addr} (h : IsM f size W p) (h1 : 0 ≤ lo) (h2 : lo ≤ hi) (h3 : hi ≤ size) (hk : k < 16) :
    ∃ L, Gs.Can f 0 L size ∧ Calls Try.prog 16 #[.agg #[.pointer p, .int .i64 size], .int .i64 lo, .int .i64 hi, .int .i64 k] W fun e w' => e = .returned (.tuple #[.int .i64 (cb hi k L - cb lo k L), .int .i64 0]) ∧ Below W.heap.size W w' := by
  obtain ⟨b, rfl⟩ := h.some
  obtain ⟨t, t1, t2, t3⟩ := h.tr
  refine ⟨t.L, t2, ?_⟩
  have hcx := h.ctx
  have hhi := h.hi
  obtain ⟨w0, HW⟩ : ∃ w0, w0 = (W.alloc (.cells #[.pointer (some ⟨b, 0, none⟩), .int .i64 size] 27)).alloc (.cells #[.int .i64 k] 3) := ⟨_, rfl⟩
  have hm1 := Mb.new W (some ⟨b, 0, none⟩) size 27
  have hb1 : Below (W.alloc (.cells #[.pointer (some ⟨b, 0, none⟩), .int .i64 size] 27)).heap.size (W.alloc (.cells #[.pointer (some ⟨b, 0, none⟩), .int .i64 size] 27)) w0 := by rw [HW]; exact (Below.refl _ _).alloc (Nat.le_refl _) _
  have hm : Mb W.heap.size (some ⟨b, 0, none⟩) size w0 := hm1.next hb1
  have hb0 : Below W.heap.size W w0 := by rw [HW]; exact ((Below.refl _ _).alloc (Nat.le_refl _) _).alloc (by simp) _
  have hlt : W.heap.size + 1 < w0.heap.size := by rw [HW]; simp
  have hc : w0.cell? ⟨W.heap.size + 1, 0, none⟩ = some (.int .i64 k) := by rw [HW]; exact World.cell?_alloc_at _ _ _ _ (by simp)
  have hek : errOf size lo hi [(k : Int)] = 0 := by
    unfold errOf
    rw [if_neg (by omega), if_pos]
    simp only [List.all_cons, List.all_nil, Bool.and_true, isT]
    exact decide_eq_true ⟨by omega, by omega⟩
  have HCK : Hid (Calls Try.prog 31 #[.agg #[.pointer (some ⟨b, 0, none⟩), .int .i64 size], .int .i64 lo, .int .i64 hi, .slice (some ⟨W.heap.size + 1, 0, none⟩) 1 1] w0 fun e w' => e = .returned (.int .i64 (errOf size lo hi [(k : Int)])) ∧ Below w0.heap.size w0 w') :=
    check_any b (W.heap.size + 1) 1 size lo hi [(k : Int)] w0 hlt (fun i hi => by
      have : i = 0 := by simp at hi; exact hi
      subst this
      exact hc) (by simp)
  rw [hek] at HCK
  have HCB : Hid (∀ x W', Below W.heap.size W W' → Calls Try.prog 38 #[.pointer (some ⟨b, 0, none⟩), .int .i64 x, .int .i64 k] W' fun e w' => e = .returned (.int .i64 (cb x k t.L)) ∧ Below W'.heap.size W' w') := fun x W' hb => countBelow_any f x k hk t 0 size _ W' (IsT.below hb t1) t2 hcx
  have z1 := cb_bd lo k t2.1; have z2 := cb_bd hi k t2.1
  have HM := Lib.hid hm; have HB := Lib.hid hb0; have HW' := Lib.hid HW
  clear h t1 t2 t3 hm1 hb1 hm hb0 hlt hc hek hk HW hcx
  have y : (-2000000000000 ≤ cb lo k t.L ∧ cb lo k t.L ≤ 2000000000000) ∧ -2000000000000 ≤ cb hi k t.L ∧ cb hi k t.L ≤ 2000000000000 := by omega
  obtain ⟨⟨y1, y2⟩, y3, y4⟩ := y
  clear z1 z2
  have HCH := Lib.hid (HCB.out hi)
  have HCL := Lib.hid (HCB.out lo)
  clear HCB
  generalize cb lo k t.L = cl at *
  generalize cb hi k t.L = ch at *
  have hw : IntKind.i64.wrap (ch - cl) = ch - cl := IntWalk.i64_in _ (by omega)
  go_enter Try.func16, Try.ntmps16
  go_wp2_with fail
  rw [← HW'.out]
  refine HCK.out.mono ?_
  rintro e w1 ⟨rfl, hb⟩
  have HM1 := Lib.hid (HM.out.next hb)
  have HB1 := Lib.hid (HB.out.trans (hb.mono HB.out.size))
  clear hb
  have HALL : Hid (∀ W', Below w1.heap.size w1 W' → W'.cell? ⟨W.heap.size, 0, none⟩ = some (.pointer (some ⟨b, 0, none⟩)) ∧ W'.cell? ⟨W.heap.size, 1, none⟩ = some (.int .i64 size)) := fun W' h => ⟨(HM1.out.next h).c0, (HM1.out.next h).c1⟩
  have HCH2 : Hid (∀ W', Below w1.heap.size w1 W' → Calls Try.prog 38 #[.pointer (some ⟨b, 0, none⟩), .int .i64 hi, .int .i64 k] W' fun e w' => e = .returned (.int .i64 ch) ∧ Below w1.heap.size w1 w') := fun W' h => (HCH.out W' (HB1.out.trans (h.mono HB1.out.size))).mono fun e w' ⟨he, hB⟩ => ⟨he, h.trans (hB.mono h.size)⟩
  have HCL2 : Hid (∀ W', Below w1.heap.size w1 W' → Calls Try.prog 38 #[.pointer (some ⟨b, 0, none⟩), .int .i64 lo, .int .i64 k] W' fun e w' => e = .returned (.int .i64 cl) ∧ Below w1.heap.size w1 w') := fun W' h => (HCL.out W' (HB1.out.trans (h.mono HB1.out.size))).mono fun e w' ⟨he, hB⟩ => ⟨he, h.trans (hB.mono h.size)⟩
  have hs : Below w1.heap.size w1 w1 := Below.refl _ _
  have hs2 := hs.drew
  have hcl := HALL.out _ hs2
  have hc0 := HALL.out _ hs
  go_wp2_with fail
  go_region_held3 (fun W' : World => W'.cell? ⟨W.heap.size, 0, none⟩ = some (.pointer (some ⟨b, 0, none⟩)) ∧ W'.cell? ⟨W.heap.size, 1, none⟩ = some (.int .i64 size)) (first | assumption | fail) (first
    | (go_at_call 38; with_reducible refine (HCH2.out _ ?h).mono ?_; (case h => assumption); rintro e w' ⟨rfl, hs1'⟩; have hc1' := HALL.out _ hs1')
    | (go_at_call 38; with_reducible refine (HCL2.out _ ?h).mono ?_; (case h => assumption); rintro e w' ⟨rfl, hs2'⟩; have hc2' := HALL.out _ hs2') | fail)
  all_goals
    have HBF := Lib.hid (HB1.out.trans (hs2'.mono HB1.out.size))
    clear hs hs2 hcl hc0 hs1' hs2' hc1' hc2'
    go_wp2_with fail
    refine bodyPost_ret (v := .tuple #[.int .i64 (ch - cl), .int .i64 0]) (by simp [results, Try.results16, go_sem]) rfl ?_
    exact ⟨rfl, HBF.out⟩
set_option maxHeartbeats 1000000 in
theorem Count_err {f : Int → Int} {size lo hi k : Int} {W : World} {p : Option Addr} (h : IsM f size W p) (her : errOf size lo hi [k] ≠ 0) :
    Calls Try.prog 16 #[.agg #[.pointer p, .int .i64 size], .int .i64 lo, .int .i64 hi, .int .i64 k] W fun e w' => e = .returned (.tuple #[.int .i64 0, .int .i64 (errOf size lo hi [k])]) ∧ Below W.heap.size W w' := by
  obtain ⟨b, rfl⟩ := h.some
  obtain ⟨w0, HW⟩ : ∃ w0, w0 = (W.alloc (.cells #[.pointer (some ⟨b, 0, none⟩), .int .i64 size] 27)).alloc (.cells #[.int .i64 k] 3) := ⟨_, rfl⟩
  have hb0 : Below W.heap.size W w0 := by rw [HW]; exact ((Below.refl _ _).alloc (Nat.le_refl _) _).alloc (by simp) _
  have hlt : W.heap.size + 1 < w0.heap.size := by rw [HW]; simp
  have hc : w0.cell? ⟨W.heap.size + 1, 0, none⟩ = some (.int .i64 k) := by rw [HW]; exact World.cell?_alloc_at _ _ _ _ (by simp)
  have HCK : Hid (Calls Try.prog 31 #[.agg #[.pointer (some ⟨b, 0, none⟩), .int .i64 size], .int .i64 lo, .int .i64 hi, .slice (some ⟨W.heap.size + 1, 0, none⟩) 1 1] w0 fun e w' => e = .returned (.int .i64 (errOf size lo hi [k])) ∧ Below w0.heap.size w0 w') :=
    check_any b (W.heap.size + 1) 1 size lo hi [k] w0 hlt (fun i hi => by
      have : i = 0 := by simp at hi; exact hi
      subst this
      exact hc) (by simp)
  have HB := Lib.hid hb0; have HW' := Lib.hid HW
  have hne : (errOf size lo hi [k] == 0) = false := beq_eq_false_iff_ne.2 her
  clear h hb0 hlt hc HW her
  generalize errOf size lo hi [k] = er at *
  go_enter Try.func16, Try.ntmps16
  go_wp2_with fail
  rw [← HW'.out]
  refine HCK.out.mono ?_
  rintro e w1 ⟨rfl, hb⟩
  have HB1 := Lib.hid (HB.out.trans (hb.mono HB.out.size))
  clear hb
  go_wp2_with fail
  refine bodyPost_ret (v := .tuple #[.int .i64 0, .int .i64 er]) (by simp [results, Try.results16, go_sem]) rfl ?_
  exact ⟨rfl, HB1.out⟩
theorem cntL_of {f : Int → Int} {n : Nat} {W : World} {p : Option Addr} {size : Int} (h : Tr f 0 size n W p) (k : Nat) (hk : k < 16) : ∃ L, Gs.Can f 0 L size ∧ ∀ W', Below W.heap.size W W' → Calls Try.prog 36 #[.pointer p, .int .i64 k] W' fun e w' => e = .returned (.int .i64 (cnt k L)) ∧ W' = w' := by
  obtain ⟨t, t1, t2, t3⟩ := h
  exact ⟨t.L, t2, fun W' hb => count_any t _ W' k hk (IsT.below hb t1)⟩
end Go.Proofs.Ytjbenhmpeceaeab
namespace Go.Proofs.Ytjbenhmpeceaeab
open Go Go.RowKit Gs

/-- what Find answers -/
def FindOf (f : Int → Int) (size tag k : Int) (L : List R) (x : Int) (is : Bool) : Prop :=
  (is = true ∧ isT tag = true ∧ 0 ≤ k ∧ k < cnt tag L ∧ 0 ≤ x ∧ x < size ∧ f x = tag ∧ cb x tag L = k) ∨ (is = false ∧ x = 0 ∧ (isT tag = false ∨ k < 0 ∨ cnt tag L ≤ k))
set_option maxHeartbeats 1000000 in
theorem Find_any {f : Int → Int} {size tag k : Int} {W : World} {p : Option Addr} (h : IsM f size W p) :
    ∃ L, Gs.Can f 0 L size ∧ Calls Try.prog 18 #[.agg #[.pointer p, .int .i64 size], .int .i64 tag, .int .i64 k] W fun e w' => ∃ x is, e = .returned (.tuple #[.int .i64 x, .bool is]) ∧ Hid (FindOf f size tag k L x is) ∧ Below W.heap.size W w' := by
  obtain ⟨b, rfl⟩ := h.some
  obtain ⟨t, t1, t2, t3⟩ := h.tr
  refine ⟨t.L, t2, ?_⟩
  have hcx := h.ctx
  obtain ⟨w0, HW⟩ : ∃ w0, w0 = W.alloc (.cells #[.pointer (some ⟨b, 0, none⟩), .int .i64 size] 27) := ⟨_, rfl⟩
  have hq : Mq W (some ⟨b, 0, none⟩) size w0 := by rw [HW]; exact Mq.new _ _ _ _
  have HTG := Lib.hid (isTag_any tag w0)
  have HQ := Lib.hid hq
  have HW' := Lib.hid HW
  by_cases g1 : isT tag = true
  · obtain ⟨e1, e2⟩ : 0 ≤ tag ∧ tag < 16 := of_decide_eq_true g1
    obtain ⟨j, rfl⟩ : ∃ j : Nat, tag = j := ⟨tag.toNat, by omega⟩
    have hj : j < 16 := by omega
    have HCN := Lib.hid (count_any t (.pointer (some ⟨b, 0, none⟩)) w0 j hj (IsT.below hq.bel t1))
    have HG1 := Lib.hid g1
    rw [g1] at HTG
    by_cases g2 : k < 0
    · have HF : Hid (FindOf f size j k t.L 0 false) := .inr ⟨rfl, rfl, .inr (.inl g2)⟩
      clear h t1 t2 t3 hcx hq HW g1
      go_enter Try.func18, Try.ntmps18
      go_wp2_with fail
      rw [← HW'.out]
      refine HTG.out.mono ?_
      rintro e w1 ⟨rfl, rfl⟩
      go_wp2_with fail
      refine bodyPost_ret (v := .tuple #[.int .i64 0, .bool false]) (by simp [results, Try.results18, go_sem]) rfl ?_
      exact ⟨0, false, rfl, HF, HQ.out.bel⟩
    · by_cases g3 : k < cnt j t.L
      · have HFI : Hid (Calls Try.prog 41 #[.pointer (some ⟨b, 0, none⟩), .int .i64 j, .int .i64 k] w0 fun e w' => ∃ x, e = .returned (.int .i64 x) ∧ Hid (0 ≤ x ∧ x < size ∧ f x = j ∧ cb x j t.L = k) ∧ Below w0.heap.size w0 w') := find_any f j hj t 0 size k _ w0 (IsT.below hq.bel t1) t2 hcx (by omega) g3
        have HF : Hid (∀ x, (0 ≤ x ∧ x < size ∧ f x = j ∧ cb x j t.L = k) → FindOf f size j k t.L x true) := fun x hx => .inl ⟨rfl, HG1.out, by omega, g3, hx.1, hx.2.1, hx.2.2.1, hx.2.2.2⟩
        have g4 : ¬ k ≥ cnt j t.L := by omega
        clear h t1 t2 t3 hcx hq HW g1 g3
        generalize cnt j t.L = CN at *
        have k0 := HQ.out.c0; have k1 := HQ.out.c1
        go_enter Try.func18, Try.ntmps18
        go_wp2_with fail
        rw [← HW'.out]
        refine HTG.out.mono ?_
        rintro e w1 ⟨rfl, rfl⟩
        go_wp2_with fail
        refine HCN.out.mono ?_
        rintro e w1 ⟨rfl, rfl⟩
        go_wp2_with fail
        refine HFI.out.mono ?_
        rintro e w2 ⟨x, rfl, HX, hb⟩
        have HB := Lib.hid (HQ.out.bel.trans (hb.mono HQ.out.bel.size))
        clear hb k0 k1
        go_wp2_with fail
        refine bodyPost_ret (v := .tuple #[.int .i64 x, .bool true]) (by simp [results, Try.results18, go_sem]) rfl ?_
        exact ⟨x, true, rfl, HF.out x HX.out, HB.out⟩
      · have HF : Hid (FindOf f size j k t.L 0 false) := .inr ⟨rfl, rfl, .inr (.inr (by omega))⟩
        have g4 : k ≥ cnt j t.L := by omega
        clear h t1 t2 t3 hcx hq HW g1 g3
        generalize cnt j t.L = CN at *
        have k0 := HQ.out.c0; have k1 := HQ.out.c1
        go_enter Try.func18, Try.ntmps18
        go_wp2_with fail
        rw [← HW'.out]
        refine HTG.out.mono ?_
        rintro e w1 ⟨rfl, rfl⟩
        go_wp2_with fail
        refine HCN.out.mono ?_
        rintro e w1 ⟨rfl, rfl⟩
        go_wp2_with fail
        refine bodyPost_ret (v := .tuple #[.int .i64 0, .bool false]) (by simp [results, Try.results18, go_sem]) rfl ?_
        exact ⟨0, false, rfl, HF, HQ.out.bel⟩
  · have HF : Hid (FindOf f size tag k t.L 0 false) := .inr ⟨rfl, rfl, .inl (Bool.eq_false_iff.2 g1)⟩
    rw [Bool.eq_false_iff.2 g1] at HTG
    clear h t1 t2 t3 hcx hq HW g1
    go_enter Try.func18, Try.ntmps18
    go_wp2_with fail
    rw [← HW'.out]
    refine HTG.out.mono ?_
    rintro e w1 ⟨rfl, rfl⟩
    go_wp2_with fail
    refine bodyPost_ret (v := .tuple #[.int .i64 0, .bool false]) (by simp [results, Try.results18, go_sem]) rfl ?_
    exact ⟨0, false, rfl, HF, HQ.out.bel⟩
end Go.Proofs.Ytjbenhmpeceaeab
