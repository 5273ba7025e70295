/- The law NatBinomials: the walk. -/
import Derived.Test.YtmbgnkgjmmhncaaDoorSg
import Derived.Test.YtmbgnkgjmmhncaaDoorKp
namespace Go.Proofs.YtmbgnkgjmmhncaaDoor
open Go Go.RowKit Gu

set_option maxHeartbeats 4000000 in
theorem natBinomials_bad (n k : Int) (w : World) (hn : n ≤ 9223372036854775807) (hk : k ≤ 9223372036854775807) (hb : n < 0 ∨ 4096 < n ∨ k < 0) (he : Env w) :
    Calls Tryd.prog 8 #[.int .i64 n, .int .i64 k] w fun e w' => e = .returned (.bool true) ∧ Below w.heap.size w w' := by
  have HS0 := Lib.hid (Kp.start he)
  have HX := Lib.hid (fun W => Binomial_any n k W hn hk)
  rw [show binE n k = 2 from if_pos hb, show binN n k = 0 from if_pos hb] at HX
  clear he
  by_cases h1 : n < 0
  · skip
    clear hb
    go_enter Tryd.func8, Tryd.ntmps8
    go_wp2_with fail
    refine (HX.out _).mono ?_
    rintro e w1 ⟨vx, rfl, hx, hb⟩
    obtain ⟨xo, xc, rfl, -⟩ := hx.shape
    have hs := ((HS0.out.next hb).addNum hx).boxed (.slice xo (nd 4294967296 (0)) xc) 28
    have HS1 := Lib.hid hs
    clear hs hb hx HS0
    have hto := told_err2 _ (.slice none 0 0) 2 _ (HS1.out.num _ (.head _)) (by decide) HS1.out.env
    have HTO := Lib.hid (hto.mono fun e w' h => And.intro h.1 (HS1.out.next h.2))
    clear hto
    have cx := HS1.out.cell (.head _)
    go_wp2_with fail
    refine (HTO.out).mono ?_
    rintro e w2 ⟨rfl, hs⟩
    have HS2 := Lib.hid hs
    clear hs HS1
    clear cx HTO
    go_wp2_with fail
    refine (awake_K HS2.out).mono ?_
    rintro e w3 ⟨rfl, hs⟩
    have HS3 := Lib.hid hs
    clear hs HS2
    go_wp2
    go_ret
    exact ⟨by simp, HS3.out.bel⟩
  · by_cases h2 : 4096 < n
    · skip
      clear hb
      go_enter Tryd.func8, Tryd.ntmps8
      go_wp2_with fail
      refine (HX.out _).mono ?_
      rintro e w1 ⟨vx, rfl, hx, hb⟩
      obtain ⟨xo, xc, rfl, -⟩ := hx.shape
      have hs := ((HS0.out.next hb).addNum hx).boxed (.slice xo (nd 4294967296 (0)) xc) 28
      have HS1 := Lib.hid hs
      clear hs hb hx HS0
      have hto := told_err2 _ (.slice none 0 0) 2 _ (HS1.out.num _ (.head _)) (by decide) HS1.out.env
      have HTO := Lib.hid (hto.mono fun e w' h => And.intro h.1 (HS1.out.next h.2))
      clear hto
      have cx := HS1.out.cell (.head _)
      go_wp2_with fail
      refine (HTO.out).mono ?_
      rintro e w2 ⟨rfl, hs⟩
      have HS2 := Lib.hid hs
      clear hs HS1
      clear cx HTO
      go_wp2_with fail
      refine (awake_K HS2.out).mono ?_
      rintro e w3 ⟨rfl, hs⟩
      have HS3 := Lib.hid hs
      clear hs HS2
      go_wp2
      go_ret
      exact ⟨by simp, HS3.out.bel⟩
    · have h3 : k < 0 := by omega
      clear hb
      go_enter Tryd.func8, Tryd.ntmps8
      go_wp2_with fail
      refine (HX.out _).mono ?_
      rintro e w1 ⟨vx, rfl, hx, hb⟩
      obtain ⟨xo, xc, rfl, -⟩ := hx.shape
      have hs := ((HS0.out.next hb).addNum hx).boxed (.slice xo (nd 4294967296 (0)) xc) 28
      have HS1 := Lib.hid hs
      clear hs hb hx HS0
      have hto := told_err2 _ (.slice none 0 0) 2 _ (HS1.out.num _ (.head _)) (by decide) HS1.out.env
      have HTO := Lib.hid (hto.mono fun e w' h => And.intro h.1 (HS1.out.next h.2))
      clear hto
      have cx := HS1.out.cell (.head _)
      go_wp2_with fail
      refine (HTO.out).mono ?_
      rintro e w2 ⟨rfl, hs⟩
      have HS2 := Lib.hid hs
      clear hs HS1
      clear cx HTO
      go_wp2_with fail
      refine (awake_K HS2.out).mono ?_
      rintro e w3 ⟨rfl, hs⟩
      have HS3 := Lib.hid hs
      clear hs HS2
      go_wp2
      go_ret
      exact ⟨by simp, HS3.out.bel⟩
set_option maxHeartbeats 4000000 in
set_option maxRecDepth 100000 in
theorem natBinomials_good (n k : Nat) (w : World) (hn : n ≤ 4096) (hk : k ≤ 9223372036854775807) (he : Env w) :
    Calls Tryd.prog 8 #[.int .i64 n, .int .i64 k] w fun e w' => e = .returned (.bool true) ∧ Below w.heap.size w w' := by
  have HS0 := Lib.hid (Kp.start he)
  have hok : ¬ ((n : Int) < 0 ∨ (4096 : Int) < n ∨ (k : Int) < 0) := by omega
  have HX := Lib.hid (fun W => Binomial_any n k W (by omega) (by omega))
  rw [show binE n k = 0 from if_neg hok, show binN n k = pascalN (n : Int).toNat (k : Int).toNat from if_neg hok, Int.toNat_natCast, Int.toNat_natCast] at HX
  have HR := Lib.hid (fun W => RBinomial_any n k W hn hk)
  have c1 := (pascalN_nd (n := n) (k := k) hn).1
  have c2 := pascalN_nd16 (n := n) (k := k) hn
  have h1 : ¬ ((n : Int) < 0) := by omega
  have h2 : ¬ ((4096 : Int) < n) := by omega
  have h3 : ¬ ((k : Int) < 0) := by omega
  clear he hok
  generalize pascalN n k = N at *
  go_enter Tryd.func8, Tryd.ntmps8
  go_wp2_with fail
  refine (HX.out _).mono ?_
  rintro e w1 ⟨vx, rfl, hx, hb⟩
  obtain ⟨xo, xc, rfl, -⟩ := hx.shape
  have hs := ((HS0.out.next hb).addNum hx).boxed (.slice xo (nd 4294967296 (N)) xc) 28
  have HS1 := Lib.hid hs
  clear hs hb hx HS0
  have hs := HS1.out
  obtain ⟨cs, hcs⟩ : ∃ cs : List (Nat × Value), cs = [(w1.heap.size, .slice xo (nd 4294967296 (N)) xc)] := ⟨_, rfl⟩
  obtain ⟨ns, hns⟩ : ∃ ns : List (Value × Nat), ns = [(.slice xo (nd 4294967296 (N)) xc, N)] := ⟨_, rfl⟩
  obtain ⟨rs, hrs⟩ : ∃ rs : List (Value × Nat), rs = [] := ⟨_, rfl⟩
  rw [← hcs, ← hns, ← hrs] at hs
  have HCL : Hid (∀ W, Kp cs ns rs w W → W.cell? ⟨w1.heap.size, 0, none⟩ = some (.slice xo (nd 4294967296 (N)) xc)) := fun W h => by
    rw [hcs] at h
    exact h.cell (.head _)
  have HMX : Hid ((Value.slice xo (nd 4294967296 (N)) xc, N) ∈ ns) := by show _ ∈ _; rw [hns]; exact .head _
  have HRK : Hid (∀ W, Kp cs ns rs w W → Calls Tryd.prog 31 #[.int .i64 n, .int .i64 k] W fun e w' => ∃ ro rl rc, e = .returned (.slice ro rl rc) ∧ R w' (.slice ro rl rc) N ∧ Below W.heap.size W w' ∧ Kp cs ns rs w w') := fun W h =>
    (HR.out W).mono fun e w' ⟨r, he, hr, hB⟩ => by
      obtain ⟨ro, rc, rfl, -⟩ := hr.shape
      exact ⟨ro, _, rc, he, hr, hB, h.next hB⟩
  have HTO : Hid (∀ W r, Kp cs ns rs w W → R W r N → Calls Tryd.prog 15 #[.agg #[.slice xo (nd 4294967296 (N)) xc], .int .i64 0, r, .int .i64 0] W fun e w' => e = .returned (.bool true) ∧ Kp cs ns rs w w') := fun W r h hr =>
    (told_is _ r N W (h.num _ HMX.out) hr (by omega) (by omega) h.env).mono fun _ _ ⟨he, hB⟩ => ⟨he, h.next hB⟩
  have HAW := Lib.hid (fun W (h : Kp cs ns rs w W) => awake_K h)
  have hs2 := hs.drew
  have hcl := HCL.out _ hs2
  have hc0 := HCL.out _ hs
  clear hcs hns hrs hs HS1 HX HR
  go_wp2_with fail
  go_region_held3 (fun W : World => W.cell? ⟨w1.heap.size, 0, none⟩ = some (.slice xo (nd 4294967296 (N)) xc) ∧ Kp cs ns rs w W) (first | (refine And.intro ?_ ?_ <;> assumption)) (first
    | (go_at_call 31; with_reducible refine (HRK.out _ ?h).mono ?_; (case h => assumption); rintro e w' ⟨ro, rl, rc, rfl, hr, hB, hs'⟩; have hc' := HCL.out _ hs')
    | (go_at_call 15; with_reducible refine (HTO.out _ _ ?h ?r).mono ?_; (case h => assumption); (case r => first | assumption | exact rchain (by assumption) (by assumption)); rintro e w' ⟨rfl, hs'⟩; have hc' := HCL.out _ hs')
    | (go_at_call 19; with_reducible refine (HAW.out _ ?h).mono ?_; (case h => assumption); rintro e w' ⟨rfl, hs'⟩; have hc' := HCL.out _ hs'))
  go_wp2
  go_ret
  exact ⟨by simp, hs'.bel⟩
end Go.Proofs.YtmbgnkgjmmhncaaDoor
