/- The contract of the document's own function Mul. -/
import Derived.Test.YteieedfigoihpaaGreatDoorSd
namespace Go.Proofs.YteieedfigoihpaaGreatDoor
open Go Go.RowKit Gu

/-- any digit of a buffer is stored anew -/
theorem Buf.at {k : IntKind} {B : Nat} {T : TypeId} {w : World} {g m V : Nat} (h : Buf k B T w g m V) (hB : 0 < B) (j : Nat) {d : Nat} (hd : d < B) :
    Buf k B T (w.setCell ⟨g, j, none⟩ (.int k d)) g m (V % B ^ j + B ^ j * (d + B * (V / B ^ (j + 1)))) := by
  have e : V = V % B ^ j + B ^ j * (dg B V j + B * (V / B ^ (j + 1))) := by
    rw [← div_succ]; exact (Nat.mod_add_div _ _).symm
  rw [e] at h
  exact Buf.set h hB (Nat.mod_lt _ (Nat.pow_pos hB)) (dg_lt hB _ _) hd
/-- .. and what the number is then -/
theorem at_val {B V j d : Nat} : V % B ^ j + B ^ j * (d + B * (V / B ^ (j + 1))) + B ^ j * dg B V j = V + B ^ j * d := by
  have e : V = V % B ^ j + B ^ j * (dg B V j + B * (V / B ^ (j + 1))) := by
    rw [← div_succ]; exact (Nat.mod_add_div _ _).symm
  have e2 : B ^ j * (d + B * (V / B ^ (j + 1))) = B ^ j * d + B ^ j * (B * (V / B ^ (j + 1))) := Nat.mul_add _ _ _
  have e3 : B ^ j * (dg B V j + B * (V / B ^ (j + 1))) = B ^ j * dg B V j + B ^ j * (B * (V / B ^ (j + 1))) := Nat.mul_add _ _ _
  omega
/-- one round of the inner loop -/
theorem mulr_round {B V c i k P a b d q : Nat} (h : V + B ^ (i + k) * c = P + B ^ i * (a * (b % B ^ k))) (hd : d + B * q = c + dg B V (i + k) + a * dg B b k) :
    (V % B ^ (i + k) + B ^ (i + k) * (d + B * (V / B ^ (i + k + 1)))) + B ^ (i + (k + 1)) * q = P + B ^ i * (a * (b % B ^ (k + 1))) := by
  have e := at_val (B := B) (V := V) (j := i + k) (d := d)
  have e1 : B ^ (i + k) * (d + B * q) = B ^ (i + k) * (c + dg B V (i + k) + a * dg B b k) := by rw [hd]
  rw [mod_succ]
  have e2 : B ^ i * (a * (b % B ^ k + B ^ k * dg B b k)) = B ^ i * (a * (b % B ^ k)) + B ^ (i + k) * (a * dg B b k) := by
    rw [Nat.mul_add a, Nat.mul_add (B ^ i), Nat.pow_add, Nat.mul_assoc (B ^ i), Nat.mul_left_comm a]
  have e3 : B ^ (i + (k + 1)) * q = B ^ (i + k) * (B * q) := by rw [← Nat.add_assoc, Nat.pow_succ, Nat.mul_assoc]
  rw [e2, e3]
  rw [Nat.mul_add, Nat.mul_add, Nat.mul_add] at e1
  omega
/-- what the outer loop keeps -/
def MulRel (a b m : Nat) (w : World) (i : Nat) (wr : World) : Prop :=
  Buf .i64 65536 3 wr w.heap.size m ((a % 65536 ^ i) * b) ∧ Below w.heap.size w wr
/-- what the inner loop keeps -/
def RowIn (a b da m : Nat) (w : World) (i k c : Nat) (wr : World) : Prop :=
  c < 65536 ∧ ∃ V, V + 65536 ^ (i + k) * c = (a % 65536 ^ i) * b + 65536 ^ i * (da * (b % 65536 ^ k)) ∧ Buf .i64 65536 3 wr w.heap.size m V ∧ Below w.heap.size w wr
theorem RowIn.next {a b da m : Nat} {w : World} {i k c q : Nat} {wr : World} {V : Nat} (h1 : V + 65536 ^ (i + k) * c = (a % 65536 ^ i) * b + 65536 ^ i * (da * (b % 65536 ^ k))) (h2 : Buf .i64 65536 3 wr w.heap.size m V) (h3 : Below w.heap.size w wr)
    (hc : c < 65536) (ha : da < 65536) (n : Nat) (ht : q = c + dg 65536 V (i + k) + da * dg 65536 b k) : RowIn a b da m w i (k + 1) (q / 65536) ((wr.drewN n).setCell ⟨w.heap.size, i + k, none⟩ (.int .i64 (q % 65536 : Nat))) := by
  have hv := dg_lt (B := 65536) (by decide) V (i + k)
  have hb := dg_lt (B := 65536) (by decide) b k
  have hm : da * dg 65536 b k ≤ 65535 * 65535 := Nat.mul_le_mul (by omega) (by omega)
  refine ⟨by omega, _, mulr_round h1 (show q % 65536 + 65536 * (q / 65536) = _ by rw [Nat.mod_add_div]; exact ht), Buf.at (w := wr.drewN n) h2 (by decide) _ (Nat.mod_lt _ (by decide)), (below_drewN h3 n).setCell (Nat.le_refl _) _⟩
/-- where the inner loop ends, and that it stays inside the row -/
theorem row_in {a b da m : Nat} {w : World} {i k c : Nat} {wr : World} (h : RowIn a b da m w i k c wr) {lb : Nat} (hb : b < 65536 ^ lb) (hda : da < 65536) (hk : lb ≤ k) (hc : 0 < c) : k = lb := by
  obtain ⟨-, V, hV, -, -⟩ := h
  rcases Nat.lt_or_ge lb k with h1 | h1
  · exfalso
    have h2 : 65536 ^ (i + k) ≤ 65536 ^ (i + k) * c := Nat.le_mul_of_pos_right _ hc
    have h3 : (a % 65536 ^ i) * b ≤ 65536 ^ i * b := Nat.mul_le_mul_right _ (Nat.le_of_lt (Nat.mod_lt _ (Nat.pow_pos (by decide))))
    have h4 : 65536 ^ i * (da * (b % 65536 ^ k)) ≤ 65536 ^ i * (65535 * b) := Nat.mul_le_mul_left _ (Nat.mul_le_mul (by omega) (Nat.mod_le _ _))
    have h5 : 65536 ^ i * (65536 * b) < 65536 ^ i * (65536 * 65536 ^ lb) := Nat.mul_lt_mul_of_pos_left (Nat.mul_lt_mul_of_pos_left hb (by decide)) (Nat.pow_pos (by decide))
    have h6 : 65536 ^ i * (65536 * 65536 ^ lb) ≤ 65536 ^ (i + k) := by
      rw [Nat.mul_comm 65536, ← Nat.pow_succ, ← Nat.pow_add]
      exact Nat.pow_le_pow_right (by decide) (by omega)
    have h7 : 65536 ^ i * (65536 * b) = 65536 ^ i * b + 65536 ^ i * (65535 * b) := by
      rw [← Nat.mul_add]; congr 1; omega
    omega
  · omega
theorem RowIn.done {a b m : Nat} {w : World} {i k : Nat} {wr : World} {lb : Nat} (h : RowIn a b (dg 65536 a i) m w i k 0 wr) (hb : b < 65536 ^ lb) (hk : lb ≤ k) : MulRel a b m w (i + 1) wr := by
  obtain ⟨-, V, hV, h1, h2⟩ := h
  have hbk : b % 65536 ^ k = b := Nat.mod_eq_of_lt (Nat.lt_of_lt_of_le hb (Nat.pow_le_pow_right (by decide) hk))
  rw [hbk, Nat.mul_zero, Nat.add_zero] at hV
  refine ⟨?_, h2⟩
  rw [mod_succ, Nat.add_mul, Nat.mul_assoc, ← hV]
  exact h1
set_option maxHeartbeats 2000000 in
set_option maxRecDepth 100000 in
theorem RMul_any (v u : Value) (a b : Nat) (w : World) (hv : R w v a) (hu : R w u b) (ha : nd 65536 a ≤ 500000) (hb : nd 65536 b ≤ 500000) :
    Calls Tryz.prog 21 #[v, u] w fun e w' => ∃ r, e = .returned r ∧ R w' r (a * b) ∧ Below w.heap.size w w' := by
  have hB : 2 ≤ 65536 := by decide
  obtain ⟨ao, ac, rfl, hcv⟩ := hv.shape
  obtain ⟨bo, bc, rfl, -⟩ := hu.shape
  have HU := Lib.hid hu
  have HC := Lib.hid hcv
  clear hv hu hcv
  have HAl := Lib.hid (nd_lt hB a)
  have HBl := Lib.hid (nd_lt hB b)
  have HNb : Hid (nd 65536 b ≤ 4611686018427387904) := by show _ ≤ _; omega
  generalize nd 65536 a = la at *
  obtain ⟨lb, hlb⟩ : ∃ lb, nd 65536 b = lb := ⟨_, rfl⟩
  rw [hlb] at hb HU HBl ⊢
  clear hlb
  have hmk := made_int (la + lb) (by omega)
  rw [show (((la + lb : Nat)) : Int) = (la : Int) + lb from by omega] at hmk
  go_enter Tryz.func21, Tryz.ntmps21
  go_wp2
  go_loopw [6] (fun t wr => ∃ i : Nat, i ≤ la ∧ t = .int .i64 i ∧ MulRel a b (la + lb) w i wr) (fun t _ => la - (intOf t).toNat)
  case atStart => exact ⟨0, Nat.zero_le _, rfl, by simpa [Nat.mod_one] using Buf.made _ _ _ _ _, (Below.refl _ _).alloc (Nat.le_refl _) _⟩
  case round =>
    obtain ⟨i, hi, rfl, hrel⟩ := hrel
    by_cases hlt : i < la
    · have hil : (i : Int) < la := by omega
      have HM := Lib.hid hrel
      clear hrel
      obtain ⟨wo, rfl⟩ : ∃ wo : World, wo = wr := ⟨_, rfl⟩
      obtain ⟨gb, go, rfl, hca⟩ := HC.out i hlt
      have hda := dg_lt (B := 65536) (by decide) a i
      have HFIN := Lib.hid (fun k wr (h : RowIn a b (dg 65536 a i) (la + lb) w i k 0 wr) (hk : lb ≤ k) => h.done HBl.out hk)
      have HCA : Hid (∀ wr, Below w.heap.size w wr → wr.cell? ⟨gb, go + i, none⟩ = some (.int .i64 (dg 65536 a i : Nat))) := fun wr hb => by
        rw [hb.cell (p := ⟨gb, go + i, none⟩) (World.block_lt_of_cell? _ _ hca)]; exact hca
      clear hca
      have HDA : Hid (dg 65536 a i < 65536) := hda
      have HSTART : Hid (RowIn a b (dg 65536 a i) (la + lb) w i 0 0 wo) := ⟨by decide, _, by simp [Nat.mod_one], HM.out.1, HM.out.2⟩
      generalize dg 65536 a i = da at *
      go_wp2
      go_loopg [7, 8] (lb + 1) (fun m c x wr => ∃ k cc : Nat, Hid (m + k = lb + 1) ∧ x = .int .i64 k ∧ c = .int .i64 cc ∧ RowIn a b da (la + lb) w i k cc wr)
      case atStart => exact ⟨0, 0, rfl, rfl, rfl, HSTART.out⟩
      case round =>
        obtain ⟨k, c, HK, rfl, rfl, hrow⟩ := hrel
        have hk1 : k ≤ lb + 1 := by have := HK.out; omega
        by_cases hcont : k < lb ∨ 0 < c
        · have hklb : k ≤ lb := by
            rcases hcont with h | h
            · omega
            · rcases Nat.lt_or_ge k lb with h' | h'
              · omega
              · exact Nat.le_of_eq (row_in hrow HBl.out HDA.out h' h)
          have hc1 := hrow.1
          obtain ⟨-, V, hV, hbuf, hbel⟩ := hrow
          have HNX := Lib.hid (fun n q hq => RowIn.next (q := q) hV hbuf hbel hc1 HDA.out n hq)
          have HA := Lib.hid (fun q => Rat_any _ b k (wr.drewN q) (HU.out.below (below_drewN hbel q)) HNb.out)
          have hca := HCA.out _ hbel
          have hcell := hbuf.cell (i := i + k) (by omega)
          have hfr := hbuf.frozen (i + k)
          have hdv := dg_lt (B := 65536) (by decide) V (i + k)
          have hdb := dg_lt (B := 65536) (by decide) b k
          clear hV hbuf hbel
          generalize dg 65536 V (i + k) = dv at *
          generalize dg 65536 b k = db at *
          have hmul : da * db ≤ 65535 * 65535 := Nat.mul_le_mul (by omega) (by omega)
          obtain ⟨q, hq⟩ : ∃ q, q = c + dv + da * db := ⟨_, rfl⟩
          have hq1 : q < 8589934592 := by omega
          have HN := Lib.hid (fun n => HNX.out n q hq)
          have HW : Hid (wrap64 (↑c + wrap64 (↑dv + wrap64 (↑da * ↑db))) = (q : Int)) := by
            show _ = _
            have e : (da : Int) * db = ((da * db : Nat) : Int) := by simp
            rw [e, hq]
            generalize da * db = p at *
            rw [IntWalk.wrap64_in (p : Int) (by omega), IntWalk.wrap64_in ((dv : Int) + p) (by omega), IntWalk.wrap64_in _ (by omega)]
            omega
          clear hq HNX hmul
          have hcond : ((k : Int) < lb) ∨ (¬ ((k : Int) < lb) ∧ (0 : Int) < c) := by omega
          have hil2 : (i : Int) + k < ((la + lb : Nat) : Int) := by omega
          rcases hcond with h1 | ⟨h0, h1⟩
          all_goals
            go_wp2
            go_quiet ((go_at_call 40; exact Calls.quiet_of_same ((HA.out _).mono fun _ _ ⟨h, h'⟩ => ⟨h, h'.symm⟩)))
            rw [HW.out]
            go_wp2
            have HN2 := HN.out nq
            rw [show ((q % 65536 : Nat) : Int) = (q : Int) % 65536 from by omega] at HN2
            go_roundg (lb - k)
            case measure => have := HK.out; omega
            case rel => exact ⟨k + 1, q / 65536, by show _ = _; omega, by go_num, by go_num, HN2⟩
        · have hk2 : lb ≤ k := by omega
          have hc0 : c = 0 := by omega
          subst hc0
          have HF := Lib.hid (HFIN.out k wr hrow hk2)
          have h0 : ¬ ((k : Int) < lb) := by omega
          clear hrow hcont
          go_wp2
          go_roundw
          case rel => exact ⟨i + 1, by omega, by go_num, HF.out⟩
          case measure => simp [intOf]; omega
    · obtain rfl : i = la := by omega
      obtain ⟨hbuf, hbel⟩ := hrel
      rw [Nat.mod_eq_of_lt HAl.out] at hbuf
      have hlt2 : a * b < 65536 ^ (i + lb) := by
        rw [Nat.pow_add]
        exact Nat.mul_lt_mul_of_lt_of_le HAl.out (Nat.le_of_lt HBl.out) (Nat.pow_pos (by decide))
      have HR := Lib.hid (hbuf.isN hB hlt2 (i + lb))
      have HT := Lib.hid (Trim_buf w.heap.size (i + lb) (i + lb) (a * b) wr hbuf hlt2 (by omega) (by omega))
      have HBel := Lib.hid hbel
      clear hlt2 hbuf hbel hlt hi
      go_wp2_with fail
      refine HT.out.mono ?_
      rintro e w' ⟨rfl, rfl⟩
      go_wp2
      go_ret
      exact ⟨_, rfl, HR.out, HBel.out⟩
end Go.Proofs.YteieedfigoihpaaGreatDoor
