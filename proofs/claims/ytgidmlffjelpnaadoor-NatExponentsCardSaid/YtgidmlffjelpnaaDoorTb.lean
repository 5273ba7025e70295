/- The contract of subtractRow. -/
import Derived.Test.YtgidmlffjelpnaaDoorTa
import Derived.Test.YtgidmlffjelpnaaDoorDa
import Derived.Laws.MathBits
namespace Go.Proofs.YtgidmlffjelpnaaDoor
open Go Go.RowKit Gu

/-- one digit of a row times a digit, with a carry, as the machine makes it -/
theorem sub_t (c d f : Nat) (h1 : c < 4294967296) (h2 : d < 4294967296) (h3 : f < 4294967296) :
    IntKind.u64.wrap ((c : Int) + IntKind.u64.wrap ((d : Int) * f)) = ((c + d * f : Nat) : Int) ∧ c + d * f < 18446744073709551616 := by
  have h : d * f ≤ 4294967295 * 4294967295 := Nat.mul_le_mul (by omega) (by omega)
  refine ⟨?_, by omega⟩
  simp only [wrap_u64]
  rw [show ((d : Int) * f) = ((d * f : Nat) : Int) by simp]
  generalize d * f = p at *
  omega
/-- what the loop of subtractRow keeps -/
def SubRel (g M o n L W H r f : Nat) (w : World) (k X c br : Nat) (wr : World) : Prop :=
  c < 4294967296 ∧ br ≤ 1 ∧ X < 4294967296 ^ k ∧ X + f * (r % 4294967296 ^ k) = W % 4294967296 ^ k + 4294967296 ^ k * c + 4294967296 ^ k * br ∧
  Buf .u32 4294967296 85 wr g M (L + 4294967296 ^ o * (X + 4294967296 ^ k * (W / 4294967296 ^ k + 4294967296 ^ (n - k) * H))) ∧ w.grownBy wr (some g)
theorem SubRel.next {g M o n L W H r f : Nat} {w : World} {k X c br t d br' : Nat} {wr : World} (h : SubRel g M o n L W H r f w k X c br wr) (hL : L < 4294967296 ^ o) (hk : k < n) (_hf : f < 4294967296)
    (ht : t = c + dg 4294967296 r k * f) (htl : t < 18446744073709551616) (hd : d + t % 4294967296 + br = dg 4294967296 W k + 4294967296 * br') (hd1 : d < 4294967296) (hbr : br' ≤ 1) :
    SubRel g M o n L W H r f w (k + 1) (X + 4294967296 ^ k * d) (t / 4294967296) br' (wr.setCell ⟨g, o + k, none⟩ (.int .u32 (d : Nat))) := by
  obtain ⟨h1, h2, h3, h4, h5, h6⟩ := h
  have hdw := dg_lt (B := 4294967296) (by decide) W k
  have e : t % 4294967296 + 4294967296 * (t / 4294967296) = c + dg 4294967296 r k * f := by rw [← ht]; exact Nat.mod_add_div _ _
  rw [win_split hk] at h5
  refine ⟨by omega, hbr, snoc_lt h3 hd1, subrow_round h4 e hd, ?_, grownBy_trans h6 (grownBy_setCell _ _ _ _)⟩
  rw [← win_join hk]
  exact Buf.set h5 (by decide) (win_lt hL h3) hdw hd1
set_option maxHeartbeats 1000000 in
theorem subtractRow_any (g M o n cap L W H r f : Nat) (v : Value) (w : World) (hb : Buf .u32 4294967296 85 w g M (L + 4294967296 ^ o * (W + 4294967296 ^ n * H))) (hL : L < 4294967296 ^ o) (hW : W < 4294967296 ^ n) (hM : o + n ≤ M) (hn : n ≤ 1048576)
    (hr : D w v r) (hrn : nd 4294967296 r = n) (hne : ∀ b o c l, v = .slice (some ⟨b, o, none⟩) l c → 0 < r → b ≠ g) (hf : f < 4294967296) :
    Calls Tryd.prog 114 #[.slice (some ⟨g, o, none⟩) n cap, v, .int .u32 f] w fun e w' => ∃ X c : Nat, e = .returned (.int .u32 c) ∧ c < 4294967296 ∧ X < 4294967296 ^ n ∧ X + f * r = W + 4294967296 ^ n * c ∧
      Buf .u32 4294967296 85 w' g M (L + 4294967296 ^ o * (X + 4294967296 ^ n * H)) ∧ w.grownBy w' (some g) := by
  have hB : 2 ≤ 4294967296 := by decide
  have hstart : SubRel g M o n L W H r f w 0 0 0 0 w := ⟨by decide, by decide, by simp, by simp [Nat.mod_one], by simpa using hb, grownBy_refl _ _⟩
  have hrlt : r < 4294967296 ^ n := by rw [← hrn]; exact nd_lt hB r
  have HE : Hid (∀ X c br wr, SubRel g M o n L W H r f w n X c br wr → c + br < 4294967296 ∧ X < 4294967296 ^ n ∧ X + f * r = W + 4294967296 ^ n * (c + br) ∧ Buf .u32 4294967296 85 wr g M (L + 4294967296 ^ o * (X + 4294967296 ^ n * H)) ∧ w.grownBy wr (some g)) := by
    rintro X c br wr ⟨-, -, h2, h3, h4, h5⟩
    rw [Nat.mod_eq_of_lt hW, Nat.mod_eq_of_lt hrlt] at h3
    rw [Nat.div_eq_of_lt hW, Nat.sub_self, Nat.pow_zero, Nat.one_mul, Nat.zero_add] at h4
    have e : X + f * r = W + 4294967296 ^ n * (c + br) := by rw [Nat.mul_add]; omega
    refine ⟨?_, h2, e, h4, h5⟩
    have h6 : f * r ≤ 4294967295 * 4294967296 ^ n := Nat.mul_le_mul (by omega) (by omega)
    have h7 : 4294967296 ^ n * (c + br) < 4294967296 ^ n * 4294967296 := by
      rw [Nat.mul_comm _ 4294967296]
      generalize 4294967296 ^ n * (c + br) = z at *
      generalize f * r = y at *
      generalize (4294967296 : Nat) ^ n = p at *
      omega
    exact Nat.lt_of_mul_lt_mul_left h7
  have HR := Lib.hid hr
  have HNE := Lib.hid hne
  have hr0 : 0 < n → 0 < r := by
    intro h
    rcases Nat.eq_zero_or_pos r with h' | h'
    · subst h'; rw [nd_zero] at hrn; omega
    · exact h'
  obtain ⟨ao, ac, rfl, hcv⟩ := hr.shape
  rw [hrn] at hcv HR HNE ⊢
  have HS := Lib.hid hstart
  have HL := Lib.hid hL
  clear hb hW hr hne hstart hrlt hL hrn
  go_enter Tryd.func114, Tryd.ntmps114
  go_wp2
  go_loopw [7, 8, 13] (fun c b t wr => ∃ k X cc br : Nat, k ≤ n ∧ t = .int .i64 k ∧ c = .int .u64 cc ∧ b = .int .u64 br ∧ SubRel g M o n L W H r f w k X cc br wr) (fun _ _ t _ => n - (intOf t).toNat)
  case atStart => exact ⟨0, 0, 0, 0, Nat.zero_le _, rfl, rfl, rfl, HS.out⟩
  case round =>
    obtain ⟨k, X, c, br, hk, rfl, rfl, rfl, hrel⟩ := hrel
    have hc1 := hrel.1
    have hbr := hrel.2.1
    by_cases hlt : k < n
    · have HRR := Lib.hid hrel
      obtain ⟨-, -, h2, -, h4, h5⟩ := hrel
      rw [win_split hlt] at h4
      have hcell := h4.cell (i := o + k) (by omega)
      have hfr := h4.frozen (o + k)
      rw [dg_mid (by decide) (win_lt HL.out h2) (dg_lt (by decide) _ _), if_neg (Nat.lt_irrefl _), if_pos rfl] at hcell
      obtain ⟨gb, go, rfl, hca⟩ := hcv k hlt
      have hca' : wr.cell? ⟨gb, go + k, none⟩ = some (.int .u32 (dg 4294967296 r k : Nat)) := h5.cell hca (by
        simp only [Option.some.injEq, ne_eq]
        refine HNE.out gb go ac n rfl ?_
        exact hr0 (by omega))
      clear h2 h4 h5 hca hcv
      have hdr := dg_lt (B := 4294967296) (by decide) r k
      have hdw := dg_lt (B := 4294967296) (by decide) W k
      have hkl : (k : Int) < n := by omega
      have htl := (sub_t c _ f hc1 hdr hf).2
      have HNX := Lib.hid (fun d br' e3 e4 e5 => HRR.out.next (t := c + dg 4294967296 r k * f) (d := d) (br' := br') HL.out hlt hf rfl htl e3 e4 e5)
      have hte : (c : Int) + (dg 4294967296 r k : Int) * f = ((c + dg 4294967296 r k * f : Nat) : Int) := by simp
      have HTE := Lib.hid hte
      clear hte HRR
      generalize dg 4294967296 r k = dr at *
      generalize dg 4294967296 W k = dw at *
      go_wp2
      rw [HTE.out]
      generalize c + dr * f = t at *
      rw [and_low32 _ (by omega) (by omega), show (t : Int) % 4294967296 = ((t % 4294967296 : Nat) : Int) from by omega]
      obtain ⟨d, br', e1, e2, e3, e4, e5⟩ := sub_digits dw (t % 4294967296) br hdw (Nat.mod_lt _ (by decide)) hbr
      rw [e1, e2]
      have HN := HNX.out d br' e3 e4 e5
      clear HNX HTE
      go_roundw
      case rel => exact ⟨k + 1, _, t / 4294967296, br', by omega, by go_num, by go_num, rfl, HN⟩
      case measure => simp [intOf]; omega
    · obtain rfl : k = n := by omega
      have HF := HE.out X c br wr hrel
      have hcb := HF.1
      have HF2 := Lib.hid HF.2
      clear hrel hcv hlt hk HF
      go_wp2
      go_ret
      exact ⟨X, c + br, by first | rfl | (congr 2; omega), hcb, HF2.out⟩
end Go.Proofs.YtgidmlffjelpnaaDoor
