/- The contracts of addRow and product. -/
import Derived.Test.YtfkogbomijonjaaGreatDoorWe
namespace Go.Proofs.YtfkogbomijonjaaGreatDoor
open Go Go.RowKit Gu

/-- one digit of a row times a digit, as the machine adds it -/
theorem mul_digits (c d f o : Nat) (h1 : c < 4294967296) (h2 : d < 4294967296) (h3 : f < 4294967296) (h4 : o < 4294967296) :
    IntKind.u64.wrap ((c : Int) + IntKind.u64.wrap (IntKind.u64.wrap ((d : Int) * f) + o)) = ((c + d * f + o : Nat) : Int) := by
  obtain ⟨b1, b2, b3⟩ := mul_bound h1 h2 h3 h4
  simp only [wrap_u64]
  have e : ((d : Int) * f) = ((d * f : Nat) : Int) := by simp
  rw [e]
  generalize d * f = p at *
  omega
/-- what the loop of addRow keeps -/
def RowRel (g M o n L W H r f : Nat) (w : World) (k X c : Nat) (wr : World) : Prop :=
  c < 4294967296 ∧ X < 4294967296 ^ k ∧ X + 4294967296 ^ k * c = W % 4294967296 ^ k + f * (r % 4294967296 ^ k) ∧
  Buf .u32 4294967296 75 wr g M (L + 4294967296 ^ o * (X + 4294967296 ^ k * (W / 4294967296 ^ k + 4294967296 ^ (n - k) * H))) ∧ w.grownBy wr (some g)
theorem RowRel.next {g M o n L W H r f : Nat} {w : World} {k X c : Nat} {wr : World} (h : RowRel g M o n L W H r f w k X c wr) (hL : L < 4294967296 ^ o) (hk : k < n) (hf : f < 4294967296) (q : Nat) :
    RowRel g M o n L W H r f w (k + 1) (X + 4294967296 ^ k * ((c + dg 4294967296 r k * f + dg 4294967296 W k) % 4294967296)) ((c + dg 4294967296 r k * f + dg 4294967296 W k) / 4294967296)
      ((wr.drewN q).setCell ⟨g, o + k, none⟩ (.int .u32 (((c + dg 4294967296 r k * f + dg 4294967296 W k) % 4294967296 : Nat) : Int))) := by
  obtain ⟨h1, h2, h3, h4, h5⟩ := h
  have hdr := dg_lt (B := 4294967296) (by decide) r k
  have hdw := dg_lt (B := 4294967296) (by decide) W k
  have hd : (c + dg 4294967296 r k * f + dg 4294967296 W k) % 4294967296 < 4294967296 := Nat.mod_lt _ (by decide)
  rw [win_split hk] at h4
  refine ⟨carry_lt h1 hdr hf hdw, snoc_lt h2 hd, mul_round h3, ?_, grownBy_trans (grownBy_drewN h5 q) (grownBy_setCell _ _ _ _)⟩
  rw [← win_join hk]
  exact Buf.set (w := wr.drewN q) h4 (by decide) (win_lt hL h2) hdw hd
set_option maxHeartbeats 1000000 in
theorem addRow_any (g M o n cap L W H r f : Nat) (v : Value) (w : World) (hb : Buf .u32 4294967296 75 w g M (L + 4294967296 ^ o * (W + 4294967296 ^ n * H))) (hL : L < 4294967296 ^ o) (hW : W < 4294967296 ^ n) (hM : o + n ≤ M) (hn : n ≤ 1048576)
    (hr : D w v r) (hrn : nd 4294967296 r = n) (hne : ∀ b o c l, v = .slice (some ⟨b, o, none⟩) l c → 0 < r → b ≠ g) (hf : f < 4294967296) :
    Calls Tryz.prog 82 #[.slice (some ⟨g, o, none⟩) n cap, v, .int .u32 f] w fun e w' => ∃ X c : Nat, e = .returned (.int .u32 c) ∧ c < 4294967296 ∧ X < 4294967296 ^ n ∧ X + 4294967296 ^ n * c = W + f * r ∧
      Buf .u32 4294967296 75 w' g M (L + 4294967296 ^ o * (X + 4294967296 ^ n * H)) ∧ w.grownBy w' (some g) := by
  have hB : 2 ≤ 4294967296 := by decide
  have hstart : RowRel g M o n L W H r f w 0 0 0 w := ⟨by decide, by simp, by simp [Nat.mod_one], by simpa using hb, grownBy_refl _ _⟩
  have hrlt : r < 4294967296 ^ n := by rw [← hrn]; exact nd_lt hB r
  have HE : Hid (∀ X c wr, RowRel g M o n L W H r f w n X c wr → X < 4294967296 ^ n ∧ X + 4294967296 ^ n * c = W + f * r ∧ Buf .u32 4294967296 75 wr g M (L + 4294967296 ^ o * (X + 4294967296 ^ n * H)) ∧ w.grownBy wr (some g)) := by
    rintro X c wr ⟨-, h2, h3, h4, h5⟩
    rw [Nat.mod_eq_of_lt hW, Nat.mod_eq_of_lt hrlt] at h3
    rw [Nat.div_eq_of_lt hW, Nat.sub_self, Nat.pow_zero, Nat.one_mul, Nat.zero_add] at h4
    exact ⟨h2, h3, h4, h5⟩
  have HR := Lib.hid hr
  have HNE := Lib.hid hne
  have hr0 : 0 < n → 0 < r := by
    intro h
    rcases Nat.eq_zero_or_pos r with h' | h'
    · subst h'; rw [nd_zero] at hrn; omega
    · exact h'
  obtain ⟨ao, ac, rfl, hcv⟩ := hr.shape
  rw [hrn] at hcv HR HNE ⊢
  have HS := Lib.hid hstart
  have HL := Lib.hid hL
  clear hb hW hr hne hstart hrlt hL hrn
  go_enter Tryz.func82, Tryz.ntmps82
  go_wp2
  go_loopw [7, 11] (fun c t wr => ∃ k X cc : Nat, k ≤ n ∧ t = .int .i64 k ∧ c = .int .u64 cc ∧ RowRel g M o n L W H r f w k X cc wr) (fun _ t _ => n - (intOf t).toNat)
  case atStart => exact ⟨0, 0, 0, Nat.zero_le _, rfl, rfl, HS.out⟩
  case round =>
    obtain ⟨k, X, c, hk, rfl, rfl, hrel⟩ := hrel
    have hc1 := hrel.1
    by_cases hlt : k < n
    · have HRR := Lib.hid hrel
      obtain ⟨-, h2, -, h4, h5⟩ := hrel
      rw [win_split hlt] at h4
      have hcell := h4.cell (i := o + k) (by omega)
      have hfr := h4.frozen (o + k)
      rw [dg_mid (by decide) (win_lt HL.out h2) (dg_lt (by decide) _ _), if_neg (Nat.lt_irrefl _), if_pos rfl] at hcell
      obtain ⟨gb, go, rfl, hca⟩ := hcv k hlt
      have hca' : wr.cell? ⟨gb, go + k, none⟩ = some (.int .u32 (dg 4294967296 r k : Nat)) := h5.cell hca (by
        simp only [Option.some.injEq, ne_eq]
        refine HNE.out gb go ac n rfl ?_
        exact hr0 (by omega))
      clear h2 h4 h5 hca hcv
      have hdr := dg_lt (B := 4294967296) (by decide) r k
      have hdw := dg_lt (B := 4294967296) (by decide) W k
      have hkl : (k : Int) < n := by omega
      go_wp2
      go_quiet (fail)
      rw [mul_digits c _ f _ hc1 hdr hf hdw]
      have HNX := HRR.out.next HL.out hlt hf
      generalize dg 4294967296 r k = dr at *
      generalize dg 4294967296 W k = dw at *
      generalize ht : c + dr * f + dw = t at *
      go_wp2
      have HN := HNX nq
      rw [show ((t % 4294967296 : Nat) : Int) = (t : Int) % 4294967296 from by omega] at HN
      clear HNX
      go_roundw
      case rel => exact ⟨k + 1, X + 4294967296 ^ k * (t % 4294967296), t / 4294967296, by omega, by go_num, by go_num, HN⟩
      case measure => simp [intOf]; omega
    · obtain rfl : k = n := by omega
      have HF := Lib.hid (HE.out X c wr hrel)
      clear hrel hcv hlt hk
      go_wp2
      go_ret
      exact ⟨X, c, rfl, hc1, HF.out⟩
end Go.Proofs.YtfkogbomijonjaaGreatDoor
