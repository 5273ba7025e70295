/- The contracts of countBelow and find. -/
import Derived.Test.YtahgfggcpmnnaaaYg
import Derived.WalkSmall
import Derived.BigQuiet
import Derived.Deep.QuietTactic
namespace Go.Proofs.Ytahgfggcpmnnaaa
open Go Go.RowKit Gs

set_option maxHeartbeats 1000000 in
theorem countBelow_any (f : Int → Int) (at' : Int) (k : Nat) (hk : k < 16) : ∀ (t : T) (a b : Int) (p : Option Addr) (W : World), IsT W t (.pointer p) → Gs.Can f a t.L b → Ctx f a b →
    Calls Try.prog 50 #[.pointer p, .int .i64 at', .int .i64 k] W fun e w' => e = .returned (.int .i64 (cb at' k t.L)) ∧ Below W.heap.size W w' := by
  intro t
  induction t with
  | nil =>
    intro a b p W h hc hx
    have h1 : Value.pointer p = .pointer none := h
    injection h1 with h1
    subst h1
    clear h hc hx hk
    go_enter Try.func50, Try.ntmps50
    go_wp2_with fail
    go_ret
    exact ⟨rfl, Below.refl _ _⟩
  | node c r d ihc ihd =>
    intro a b p W h hc hx
    obtain ⟨lo, hi, tag⟩ := r
    obtain ⟨m1, m2, m3, m4, m5, m6⟩ := hc.mid
    simp only at m1 m2 m3 m4 m5 m6
    have q1 := m1.le; have q2 := m2.le
    have x1 := hx.1; have x2 := hx.2.1
    obtain ⟨b0, u, v, rfl, hlt, h1, h2, hcs⟩ := h.open
    have HU := Lib.hid h1
    have HV := Lib.hid h2
    have HCS := Lib.hid hcs
    by_cases g : at' ≤ lo
    · have HE : Hid (cb at' k (T.node c ⟨lo, hi, tag⟩ d).L = cb at' k c.L) := cb_left hc g
      have HI : Hid (Calls Try.prog 50 #[.pointer u, .int .i64 at', .int .i64 k] W fun e w' => e = .returned (.int .i64 (cb at' k c.L)) ∧ Below W.heap.size W w') := ihc a lo u W h1 m1 (hx.sub (by omega) (by omega))
      obtain ⟨d0, d1, d2, d3, d4⟩ := hcs W (Below.refl _ _)
      clear h hc hx m1 m2 m3 m4 m5 m6 h1 h2 hcs ihc ihd
      go_enter Try.func50, Try.ntmps50
      go_wp2_with fail
      refine HI.out.mono ?_
      rintro e w1 ⟨rfl, hb⟩
      have HB := Lib.hid hb
      clear hb d0 d1 d2 d3 d4
      go_wp2_with fail
      go_ret
      exact ⟨by rw [HE.out]; rfl, HB.out⟩
    · have hcr := cb_right (at' := at') (k := k) hc (by show lo < at'; omega)
      have z1 := cb_bd at' k m1.1; have z2 := cb_bd at' k m2.1; have z3 := cb_bd at' k hc.1
      have HCN : Hid (∀ W', Below W.heap.size W W' → Calls Try.prog 53 #[.pointer u, .int .i64 k] W' fun e w' => e = .returned (.int .i64 (cnt k c.L)) ∧ W' = w') := fun W' h => count_any c _ W' k hk (IsT.below h h1)
      have HI : Hid (∀ W', Below W.heap.size W W' → Calls Try.prog 50 #[.pointer v, .int .i64 at', .int .i64 k] W' fun e w' => e = .returned (.int .i64 (cb at' k d.L)) ∧ Below W.heap.size W w') := fun W' h => (ihd hi b v W' (IsT.below h h2) m2 (hx.sub (by omega) (by omega))).mono fun e w' ⟨he, hB⟩ => ⟨he, h.trans (hB.mono h.size)⟩
      have HE := Lib.hid hcr
      simp only [T.L] at HE z3 ⊢
      generalize cb at' k (c.L ++ ⟨lo, hi, tag⟩ :: d.L) = full at *
      clear hcr h hc hx m1 m2 m4 m5 m6 h1 h2 ihc ihd hcs
      generalize cnt k c.L = cl at *
      generalize cb at' k d.L = cr at *
      generalize cb at' k c.L = c1 at *
      generalize cnt k d.L = c2 at *
      clear z3
      have y1 : -1000000000000000 ≤ cl ∧ cl ≤ 1000000000000000 := by omega
      have y2 : -1000000000000000 ≤ cr ∧ cr ≤ 1000000000000000 := by omega
      clear z1 z2
      obtain ⟨y1, y3⟩ := y1
      obtain ⟨y2, y4⟩ := y2
      have hw : IntKind.i64.wrap (cl + cr) = cl + cr := IntWalk.i64_in _ (by omega)
      have hs : Below W.heap.size W W := Below.refl _ _
      have hs2 := hs.drew
      have hcl := HCS.out _ hs2
      have hc0 := HCS.out _ hs
      unfold Cs at hcl hc0 HCS
      by_cases gt : (k : Int) = tag
      · have HE2 : Hid (full = cl + cr + (min at' hi - lo)) := by
          show _ = _
          rw [HE.out, if_pos gt.symm]
        subst gt
        clear HE
        go_enter Try.func50, Try.ntmps50
        go_wp2_with fail
        go_region_held3 (fun W' : World => (W'.cell? ⟨b0, 0, none⟩ = some (.pointer u) ∧ W'.cell? ⟨b0, 1, none⟩ = some (.int .i64 lo) ∧ W'.cell? ⟨b0, 2, none⟩ = some (.int .i64 hi) ∧ W'.cell? ⟨b0, 3, none⟩ = some (.int .i64 k) ∧ W'.cell? ⟨b0, 4, none⟩ = some (.pointer v)) ∧ Below W.heap.size W W') (first | (refine And.intro ?_ ?_ <;> assumption) | fail) (first
          | (go_at_call 53; with_reducible refine (HCN.out _ ?h).mono ?_; (case h => assumption); rintro e w' ⟨rfl, rfl⟩)
          | (go_at_call 50; with_reducible refine (HI.out _ ?h).mono ?_; (case h => assumption); rintro e w' ⟨rfl, hs'⟩; have hc' := HCS.out _ hs') | fail)
        all_goals
          have HB := Lib.hid hs'
          clear hs hs2 hcl hc0 hs'
          obtain ⟨e0, e1, e2, e3, e4⟩ := hc'
          by_cases gm : hi < at'
          · have HE3 : Hid (full = cl + cr + (hi - lo)) := by show _ = _; rw [HE2.out]; omega
            go_wp2_with fail
            go_region
            all_goals
              go_wp2_with fail
              go_ret
              exact ⟨by rw [HE3.out]; rfl, by first | exact HB.out | exact HB.out.drew | exact below_drewN HB.out _⟩
          · have HE3 : Hid (full = cl + cr + (at' - lo)) := by show _ = _; rw [HE2.out]; omega
            go_wp2_with fail
            go_region
            all_goals
              go_wp2_with fail
              go_ret
              exact ⟨by rw [HE3.out]; rfl, by first | exact HB.out | exact HB.out.drew | exact below_drewN HB.out _⟩
      · have HE2 : Hid (full = cl + cr) := by
          show _ = _
          rw [HE.out, if_neg (fun h => gt h.symm)]; omega
        have gb : (tag == (k : Int)) = false := beq_eq_false_iff_ne.2 (fun h => gt h.symm)
        clear HE
        go_enter Try.func50, Try.ntmps50
        go_wp2_with fail
        go_region_held3 (fun W' : World => (W'.cell? ⟨b0, 0, none⟩ = some (.pointer u) ∧ W'.cell? ⟨b0, 1, none⟩ = some (.int .i64 lo) ∧ W'.cell? ⟨b0, 2, none⟩ = some (.int .i64 hi) ∧ W'.cell? ⟨b0, 3, none⟩ = some (.int .i64 tag) ∧ W'.cell? ⟨b0, 4, none⟩ = some (.pointer v)) ∧ Below W.heap.size W W') (first | (refine And.intro ?_ ?_ <;> assumption) | fail) (first
          | (go_at_call 53; with_reducible refine (HCN.out _ ?h).mono ?_; (case h => assumption); rintro e w' ⟨rfl, rfl⟩)
          | (go_at_call 50; with_reducible refine (HI.out _ ?h).mono ?_; (case h => assumption); rintro e w' ⟨rfl, hs'⟩; have hc' := HCS.out _ hs') | fail)
        all_goals
          have HB := Lib.hid hs'
          clear hs hs2 hcl hc0 hs'
          obtain ⟨e0, e1, e2, e3, e4⟩ := hc'
          go_wp2_with fail
          go_ret
          exact ⟨by rw [HE2.out]; rfl, HB.out⟩
set_option maxHeartbeats 1000000 in
theorem find_any (f : Int → Int) (k : Nat) (hk : k < 16) : ∀ (t : T) (a b n : Int) (p : Option Addr) (W : World), IsT W t (.pointer p) → Gs.Can f a t.L b → Ctx f a b → 0 ≤ n → n < cnt k t.L →
    Calls Try.prog 54 #[.pointer p, .int .i64 k, .int .i64 n] W fun e w' => ∃ x, e = .returned (.int .i64 x) ∧ Hid (a ≤ x ∧ x < b ∧ f x = k ∧ cb x k t.L = n) ∧ Below W.heap.size W w' := by
  intro t
  induction t with
  | nil =>
    intro a b n p W h hc hx h0 hn
    simp only [T.L, cnt] at hn
    omega
  | node c r d ihc ihd =>
    intro a b n p W h hc hx h0 hn
    obtain ⟨lo, hi, tag⟩ := r
    obtain ⟨m1, m2, m3, m4, m5, m6⟩ := hc.mid
    simp only at m1 m2 m3 m4 m5 m6
    have q1 := m1.le; have q2 := m2.le
    have x1 := hx.1; have x2 := hx.2.1
    obtain ⟨b0, u, v, rfl, hlt, h1, h2, hcs⟩ := h.open
    have hcnt : cnt k (T.node c ⟨lo, hi, tag⟩ d).L = cnt k c.L + (if tag = k then hi - lo else 0) + cnt k d.L := by simp only [T.L, cnt_append, cnt]; omega
    rw [hcnt] at hn
    have z1 := cb_bd a k m1.1; have z2 := cb_bd a k m2.1
    have HCN : Hid (∀ W', Below W.heap.size W W' → Calls Try.prog 53 #[.pointer u, .int .i64 k] W' fun e w' => e = .returned (.int .i64 (cnt k c.L)) ∧ W' = w') := fun W' h => count_any c _ W' k hk (IsT.below h h1)
    have HCL : Hid (∀ m, 0 ≤ m → m < cnt k c.L → Calls Try.prog 54 #[.pointer u, .int .i64 k, .int .i64 m] W fun e w' => ∃ x, e = .returned (.int .i64 x) ∧ Hid (a ≤ x ∧ x < lo ∧ f x = k ∧ cb x k c.L = m) ∧ Below W.heap.size W w') := fun m g1 g2 => ihc a lo m u W h1 m1 (hx.sub (by omega) (by omega)) g1 g2
    have HDL : Hid (∀ W' m, Below W.heap.size W W' → 0 ≤ m → m < cnt k d.L → Calls Try.prog 54 #[.pointer v, .int .i64 k, .int .i64 m] W' fun e w' => ∃ x, e = .returned (.int .i64 x) ∧ Hid (hi ≤ x ∧ x < b ∧ f x = k ∧ cb x k d.L = m) ∧ Below W'.heap.size W' w') := fun W' m hb g1 g2 => ihd hi b m v W' (IsT.below hb h2) m2 (hx.sub (by omega) (by omega)) g1 g2
    have HLO : Hid (∀ x, a ≤ x → x < lo → cb x k (T.node c ⟨lo, hi, tag⟩ d).L = cb x k c.L) := fun x _ g2 => cb_left hc (by show x ≤ lo; omega)
    have HMI : Hid (∀ x, lo ≤ x → x < hi → cb x k (T.node c ⟨lo, hi, tag⟩ d).L = cnt k c.L + (if tag = k then x - lo else 0) ∧ f x = tag) := fun x g1 g2 => ⟨cb_mid hc g1 (by show x ≤ hi; omega), m4 x g1 g2⟩
    have HHI : Hid (∀ x, hi ≤ x → cb x k (T.node c ⟨lo, hi, tag⟩ d).L = cnt k c.L + (if tag = k then hi - lo else 0) + cb x k d.L) := fun x g1 => cb_past hc g1
    obtain ⟨d0, d1, d2, d3, d4⟩ := hcs W (Below.refl _ _)
    clear h hc hx m1 m2 m4 m5 m6 h1 h2 hcs hcnt ihc ihd
    generalize (T.node c ⟨lo, hi, tag⟩ d).L = FL at *
    generalize cnt k c.L = cl at *
    generalize cnt k d.L = cr at *
    obtain ⟨y1, y2⟩ : 0 ≤ cl ∧ cl ≤ 1099511627776 := by omega
    obtain ⟨y3, y4⟩ : 0 ≤ cr ∧ cr ≤ 1099511627776 := by omega
    clear z1 z2
    by_cases g : n < cl
    · clear hn
      go_enter Try.func54, Try.ntmps54
      go_wp2_with fail
      refine (HCN.out _ (Below.refl _ _)).mono ?_
      rintro e w1 ⟨rfl, rfl⟩
      go_wp2_with fail
      refine (HCL.out n h0 g).mono ?_
      rintro e w2 ⟨x, rfl, HX, hb⟩
      have HB := Lib.hid hb
      clear hb
      go_wp2_with fail
      go_ret
      have hx := HX.out
      exact ⟨x, rfl, ⟨hx.1, by omega, hx.2.2.1, by rw [HLO.out x hx.1 hx.2.1]; exact hx.2.2.2⟩, HB.out⟩
    · by_cases gt : (k : Int) = tag
      · subst gt
        rw [if_pos rfl] at hn
        have HMI2 : Hid (∀ x, lo ≤ x → x < hi → cb x k FL = cl + (x - lo) ∧ f x = k) := fun x g1 g2 => by
          have h := HMI.out x g1 g2; rw [if_pos rfl] at h; exact h
        have HHI2 : Hid (∀ x, hi ≤ x → cb x k FL = cl + (hi - lo) + cb x k d.L) := fun x g1 => by
          have h := HHI.out x g1; rw [if_pos rfl] at h; exact h
        clear HMI HHI
        by_cases g2 : n - cl < hi - lo
        · go_enter Try.func54, Try.ntmps54
          go_wp2_with fail
          refine (HCN.out _ (Below.refl _ _)).mono ?_
          rintro e w1 ⟨rfl, rfl⟩
          go_wp2_with fail
          go_quiet (fail)
          go_wp2_with fail
          go_ret
          have hx := HMI2.out (lo + (n - cl)) (by omega) (by omega)
          exact ⟨lo + (n - cl), rfl, ⟨by omega, by omega, hx.2, by rw [hx.1]; omega⟩, below_drewN (Below.refl _ _) _⟩
        · go_enter Try.func54, Try.ntmps54
          go_wp2_with fail
          refine (HCN.out _ (Below.refl _ _)).mono ?_
          rintro e w1 ⟨rfl, rfl⟩
          go_wp2_with fail
          go_quiet (fail)
          go_wp2_with fail
          go_quiet (fail)
          go_wp2_with fail
          refine (HDL.out _ (n - cl - (hi - lo)) (below_drewN (Below.refl _ _) _) (by omega) (by omega)).mono ?_
          rintro e w2 ⟨x, rfl, HX, hb⟩
          have HB := Lib.hid (hb.mono (below_drewN (Below.refl W.heap.size W) _).size)
          clear hb
          go_wp2_with fail
          go_ret
          have hx := HX.out
          exact ⟨x, rfl, ⟨by omega, hx.2.1, hx.2.2.1, by rw [HHI2.out x hx.1, hx.2.2.2]; omega⟩, (below_drewN (Below.refl _ _) _).trans HB.out⟩
      · have gb : (tag == (k : Int)) = false := beq_eq_false_iff_ne.2 (fun h => gt h.symm)
        rw [if_neg (fun h => gt h.symm)] at hn
        have HHI2 : Hid (∀ x, hi ≤ x → cb x k FL = cl + 0 + cb x k d.L) := fun x g1 => by
          have h := HHI.out x g1; rw [if_neg (fun h => gt h.symm)] at h; exact h
        clear HMI HHI gt
        go_enter Try.func54, Try.ntmps54
        go_wp2_with fail
        refine (HCN.out _ (Below.refl _ _)).mono ?_
        rintro e w1 ⟨rfl, rfl⟩
        go_wp2_with fail
        refine (HDL.out _ (n - cl) (Below.refl _ _) (by omega) (by omega)).mono ?_
        rintro e w2 ⟨x, rfl, HX, hb⟩
        have HB := Lib.hid hb
        clear hb
        go_wp2_with fail
        go_ret
        have hx := HX.out
        exact ⟨x, rfl, ⟨by omega, hx.2.1, hx.2.2.1, by rw [HHI2.out x hx.1, hx.2.2.2]; omega⟩, HB.out⟩
end Go.Proofs.Ytahgfggcpmnnaaa
