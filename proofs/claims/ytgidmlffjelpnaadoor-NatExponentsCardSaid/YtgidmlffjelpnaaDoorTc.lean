/- The contracts of estimate and divideWindow. -/
import Derived.Test.YtgidmlffjelpnaaDoorTb
import Derived.WalkMore
import Derived.Deep.LoopGhost
namespace Go.Proofs.YtgidmlffjelpnaaDoor
open Go Go.RowKit Gu

/-- what the loop of estimate keeps -/
def EstRel (f s high next : Nat) (g r : Nat) : Prop := g * f + r = high ∧ est 4294967296 (high * 4294967296 + next) (f * 4294967296 + s) ≤ g ∧ r < 4294967296
theorem est_or (h n : Nat) (hh : h < 4294967296) (hn : n < 4294967296) : bits BinOp.or IntKind.u64 ((h : Int) * 4294967296) n = ((h * 4294967296 + n : Nat) : Int) := or_digits h n hh hn
set_option maxHeartbeats 1000000 in
theorem estimate_any (g o n cap bb bo bc w1 w0 x f s : Nat) (w : World) (hn : 2 ≤ n) (hn2 : n ≤ 1048576)
    (c1 : w.cell? ⟨g, o + n, none⟩ = some (.int .u32 w1)) (c2 : w.cell? ⟨g, o + (n - 1), none⟩ = some (.int .u32 w0)) (c3 : w.cell? ⟨g, o + (n - 2), none⟩ = some (.int .u32 x))
    (d1 : w.cell? ⟨bb, bo + (n - 1), none⟩ = some (.int .u32 f)) (d2 : w.cell? ⟨bb, bo + (n - 2), none⟩ = some (.int .u32 s))
    (hf : 0 < f) (hf2 : f < 4294967296) (hs : s < 4294967296) (h1 : w1 ≤ f) (h0 : w0 < 4294967296) (hx : x < 4294967296) :
    Calls Tryd.prog 113 #[.slice (some ⟨g, o, none⟩) (n + 1) cap, .slice (some ⟨bb, bo, none⟩) n bc] w fun e w' => e = .returned (.int .u32 (est 4294967296 ((w1 * 4294967296 + w0) * 4294967296 + x) (f * 4294967296 + s) : Nat)) ∧ ∃ q, w' = w.drewN q := by
  have hor := est_or w1 w0 (by omega) h0
  have hhigh : w1 * 4294967296 + w0 < 18446744073709551616 := by omega
  obtain ⟨high, hh⟩ : ∃ high, high = w1 * 4294967296 + w0 := ⟨_, rfl⟩
  have HH := Lib.hid hh
  have HEQ : Hid (∀ q r, q * f + r = high → 4294967296 ≤ r → est 4294967296 (high * 4294967296 + x) (f * 4294967296 + s) ≤ q → q = est 4294967296 (high * 4294967296 + x) (f * 4294967296 + s)) :=
    fun q r h1' h2' h3' => est_stop hf (by decide) hs hh h1 h0 h1' h2' h3'
  rw [← hh] at hor hhigh ⊢
  have HOR := Lib.hid hor
  clear hor hh
  have hn1 : ((n : Int) - 1) = ((n - 1 : Nat) : Int) := by omega
  have hn3 : ((n : Int) - 2) = ((n - 2 : Nat) : Int) := by omega
  have HST : Hid (EstRel f s high x (high / f) (high % f)) := ⟨by rw [Nat.mul_comm]; exact Nat.div_add_mod _ _, est_first hf (by decide) hx, Nat.lt_trans (Nat.mod_lt _ hf) hf2⟩
  go_enter Tryd.func113, Tryd.ntmps113
  go_wp2
  go_step3
  go_wp2
  go_quiet (fail)
  go_wp2
  go_quiet (fail)
  rw [HOR.out]
  go_wp2
  have hf0 : ¬ (f : Int) = 0 := by omega
  clear c1 c2 c3 d1 d2 HOR hn1 hn3
  go_quiet (fail)
  go_wp2
  go_step3
  go_wp2
  simp only [World.drewN_drewN]
  rw [show (high : Int) / f = ((high / f : Nat) : Int) from by simp, show (high : Int) % f = ((high % f : Nat) : Int) from by simp]
  have hg0 : high / f < 18446744073709551616 := Nat.lt_of_le_of_lt (Nat.div_le_self _ _) hhigh
  have hw0 : IntKind.u64.wrap ((high / f : Nat) : Int) = ((high / f : Nat) : Int) := by
    generalize high / f = z at *
    rw [wrap_u64]; omega
  rw [hw0]
  clear hw0
  generalize high / f = g0 at *
  generalize high % f = r0 at *
  go_loopg [10, 11] g0 (fun m gs rs wr => ∃ r : Nat, gs = .int .u64 m ∧ rs = .int .u64 r ∧ EstRel f s high x m r ∧ ∃ q, wr = w.drewN q)
  case atStart => exact ⟨r0, rfl, rfl, HST.out, _, rfl⟩
  case round =>
    obtain ⟨r, rfl, rfl, ⟨e1, e2, e3⟩, q, rfl⟩ := hrel
    have E1 := Lib.hid e1; have E2 := Lib.hid e2
    have hgk : gk < 18446744073709551616 := by
      have : gk ≤ gk * f := Nat.le_mul_of_pos_right _ hf
      omega
    clear e1 e2
    have hor2 := or_digits r x e3 hx
    have HOR2 := Lib.hid hor2
    clear hor2
    have HDN : Hid (4294967296 ≤ gk ∨ r * 4294967296 + x < gk * s → est 4294967296 (high * 4294967296 + x) (f * 4294967296 + s) ≤ gk - 1 ∧ 0 < gk) := fun h => est_down (by decide) E1.out h E2.out
    have HE1 : Hid (0 < gk → (gk - 1) * f + (r + f) = high) := fun h => by
      have := E1.out
      obtain ⟨j, rfl⟩ : ∃ j, gk = j + 1 := ⟨gk - 1, by omega⟩
      rw [Nat.add_mul, Nat.one_mul] at this
      rw [Nat.add_sub_cancel]; omega
    by_cases hbig : 4294967295 < gk
    · have hbig' : (4294967295 : Int) < gk := by omega
      have hd := HDN.out (.inl (by omega))
      have HQ := Lib.hid (HE1.out hd.2)
      have HD := Lib.hid hd.1
      clear hd HDN HE1 HOR2
      by_cases hr : 4294967295 < r + f
      · have hr' : (4294967295 : Int) < r + f := by omega
        have HX := Lib.hid (HEQ.out _ _ HQ.out (by omega) HD.out)
        have hlt : gk - 1 < 4294967296 := by
          rw [HX.out]; exact Nat.lt_of_le_of_lt (Nat.min_le_left _ _) (by decide)
        go_wp2
        try rw [Exit.noGoto_ret]
        go_ret
        exact ⟨ret_int' (by rw [← HX.out]; omega), q, rfl⟩
      · have hr' : ¬ (4294967295 : Int) < r + f := by omega
        go_wp2
        go_roundg (gk - 1)
        case measure => omega
        case rel => exact ⟨r + f, by go_num, by go_num, ⟨HQ.out, HD.out, by omega⟩, q, rfl⟩
    · have hgs : gk * s ≤ 4294967295 * 4294967295 := Nat.mul_le_mul (by omega) (by omega)
      have hgs2 : gk * s < 18446744073709551616 := by omega
      have hsm : ¬ (4294967295 : Int) < gk := by omega
      have hpe : (gk : Int) * s = ((gk * s : Nat) : Int) := by simp
      by_cases hp : r * 4294967296 + x < gk * s
      · have hd := HDN.out (.inr hp)
        have HQ := Lib.hid (HE1.out hd.2)
        have HD := Lib.hid hd.1
        have hgk0 := hd.2
        clear hd HDN HE1
        have hcmp : bits BinOp.or IntKind.u64 ((r : Int) * 4294967296) x < (gk : Int) * s := by rw [HOR2.out]; omega
        clear hpe
        by_cases hr : 4294967295 < r + f
        · have hr' : (4294967295 : Int) < r + f := by omega
          have HX := Lib.hid (HEQ.out _ _ HQ.out (by omega) HD.out)
          have hlt : gk - 1 < 4294967296 := by omega
          go_wp2
          try rw [Exit.noGoto_ret]
          go_ret
          exact ⟨ret_int' (by rw [← HX.out]; omega), q, rfl⟩
        · have hr' : ¬ (4294967295 : Int) < r + f := by omega
          go_wp2
          go_roundg (gk - 1)
          case measure => omega
          case rel => exact ⟨r + f, by go_num, by go_num, ⟨HQ.out, HD.out, by omega⟩, q, rfl⟩
      · have hcmp : ¬ bits BinOp.or IntKind.u64 ((r : Int) * 4294967296) x < (gk : Int) * s := by rw [HOR2.out]; omega
        have HX := Lib.hid (est_found (B := 4294967296) (s := s) hf (by decide) E1.out (by omega) (by omega) E2.out)
        have hlt : gk < 4294967296 := by omega
        clear hpe HDN HE1
        go_wp2
        try rw [Exit.noGoto_ret]
        go_ret
        exact ⟨ret_int' (by rw [← HX.out]), q, rfl⟩
end Go.Proofs.YtgidmlffjelpnaaDoor
