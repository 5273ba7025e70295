/- The contract of power, whatever function is handed to it. -/
import Derived.Test.YtgidmlffjelpnaaDoorVa
namespace Go.Proofs.YtgidmlffjelpnaaDoor
open Go Go.RowKit Gu

set_option maxHeartbeats 2000000 in
set_option maxRecDepth 100000 in
/-- P j x: x stands for the power with the exponent j -/
theorem npower_any (f : Nat) (cap : Array Value) (P : Nat → Nat → Prop) (bv ev : Value) (b e : Nat) (w : World) (hb : D w bv b) (he : D w ev e) (hn : nd 4294967296 e ≤ 100000) (h1 : P 0 1) (hent : ∀ args w, (callFunc f args).run Tryd.prog w = .ok (.enter f args) w)
    (HF1 : ∀ W v x j, Below w.heap.size w W → D W v x → P j x → 2 * j ≤ e → Calls Tryd.prog f (#[v, v] ++ cap) W fun e w' => ∃ r y, e = .returned r ∧ D w' r y ∧ P (2 * j) y ∧ Below W.heap.size W w')
    (HF2 : ∀ W v u x j, Below w.heap.size w W → D W v x → D W u b → P j x → j + 1 ≤ e → Calls Tryd.prog f (#[v, u] ++ cap) W fun e w' => ∃ r y, e = .returned r ∧ D w' r y ∧ P (j + 1) y ∧ Below W.heap.size W w') :
    Calls Tryd.prog 53 #[bv, ev, .func (.func f) #[] cap] w fun x w' => ∃ r y, x = .returned r ∧ D w' r y ∧ P e y ∧ Below w.heap.size w w' := by
  have HB := Lib.hid hb; have HE := Lib.hid he
  have H1 := Lib.hid h1; have G1 := Lib.hid HF1; have G2 := Lib.hid HF2
  have HBL := Lib.hid (fun W (h : D W ev e) => bitLen_any ev e W h (by omega))
  have hT := nd_two_le hn
  have HT0 := Lib.hid (nd_lt (B := 2) (by decide) e)
  clear hb he h1 HF1 HF2
  go_enter Tryd.func53, Tryd.ntmps53
  go_wp2_with fail
  refine (digitsOf_any 1 _ (by decide)).mono ?_
  rintro e' w1 ⟨dv, rfl, hd, hb1⟩
  have HD := Lib.hid hd; have HB1 := Lib.hid hb1
  clear hd hb1
  go_wp2_with fail
  refine (HBL.out _ (HE.out.below HB1.out)).mono ?_
  rintro e' w2 ⟨rfl, rfl⟩
  generalize nd 2 e = n at *
  go_wp2
  go_loopw [7, 8] (fun v x wr => ∃ t y : Nat, t ≤ n ∧ x = .int .i64 ((t : Int) - 1) ∧ D wr v y ∧ P (e / 2 ^ t) y ∧ Below w.heap.size w wr) (fun _ x _ => (intOf x + 1).toNat)
  case atStart => exact ⟨n, 1, Nat.le_refl _, rfl, HD.out, by rw [Nat.div_eq_of_lt HT0.out]; exact H1.out, HB1.out⟩
  case round =>
    obtain ⟨t, y, ht, rfl, hv, hp, hbel⟩ := hrel
    have HV := Lib.hid hv; have HP := Lib.hid hp; have HBE := Lib.hid hbel
    clear hv hp hbel
    rcases Nat.eq_zero_or_pos t with h0 | h0
    · subst h0
      have hlt : ¬ ((0 : Int) ≤ ((0 : Nat) : Int) - 1) := by decide
      go_wp2
      go_ret
      exact ⟨u7, rfl, y, HV.out, by have := HP.out; rw [Nat.pow_zero, Nat.div_one] at this; exact this, HBE.out⟩
    · obtain ⟨s, rfl⟩ : ∃ s, t = s + 1 := ⟨t - 1, by omega⟩
      rw [show (((s + 1 : Nat)) : Int) - 1 = (s : Int) from by omega]
      have HJ : Hid (e / 2 ^ s = dg 2 e s + 2 * (e / 2 ^ (s + 1))) := div_succ 2 e s
      have HJ2 : Hid (e / 2 ^ s ≤ e) := Nat.div_le_self _ _
      have hdg := dg_lt (B := 2) (by decide) e s
      have hs0 : (0 : Int) ≤ (s : Int) := by omega
      go_wp2_with fail
      refine (G1.out wr u7 y (e / 2 ^ (s + 1)) HBE.out HV.out HP.out (by have := HJ.out; have := HJ2.out; omega)).mono ?_
      rintro e' w2 ⟨r, y2, rfl, hr, hp2, hb2⟩
      have HR := Lib.hid hr; have HP2 := Lib.hid hp2
      have HBE2 := Lib.hid (HBE.out.trans (hb2.mono HBE.out.size))
      have HBI := Lib.hid (bit_any ev e s w2 (HE.out.below HBE2.out) (by omega) (by omega))
      clear hr hp2 hb2 HV HP HBE
      generalize dg 2 e s = d at *
      go_wp2_with fail
      refine HBI.out.mono ?_
      rintro e' w3 ⟨rfl, rfl⟩
      rcases (show d = 0 ∨ d = 1 by omega) with rfl | rfl
      · go_wp2
        go_roundw
        case rel => exact ⟨s, y2, by omega, by go_num, HR.out, by rw [HJ.out, Nat.zero_add]; exact HP2.out, HBE2.out⟩
        case measure => simp [intOf]
      · go_wp2_with fail
        refine (G2.out w2 r bv y2 (2 * (e / 2 ^ (s + 1))) HBE2.out HR.out (HB.out.below HBE2.out) HP2.out (by have := HJ.out; have := HJ2.out; omega)).mono ?_
        rintro e' w4 ⟨r2, y3, rfl, hr3, hp3, hb3⟩
        have HR3 := Lib.hid hr3; have HP3 := Lib.hid hp3
        have HBE3 := Lib.hid (HBE2.out.trans (hb3.mono HBE2.out.size))
        clear hr3 hp3 hb3
        go_wp2
        go_roundw
        case rel => exact ⟨s, y3, by omega, by go_num, HR3.out, by rw [HJ.out, Nat.add_comm]; exact HP3.out, HBE3.out⟩
        case measure => simp [intOf]
end Go.Proofs.YtgidmlffjelpnaaDoor
