/- The contracts of the document's own functions on numbers: Trim, Small. -/
import Derived.Test.YtcmancfdlfhgbaaGreatDoorWu
namespace Go.Proofs.YtcmancfdlfhgbaaGreatDoor
open Go Go.RowKit Gu

abbrev R (w : World) (v : Value) (n : Nat) : Prop := IsN .i64 65536 w v n
theorem Tryz.infoInt : (Tryz.prog.info? 3).map (fun i => (i.zero, i.size, i.bytes)) = some (some (.int .i64 0), 1, 8) := by kernel_rfl
theorem made_int (n : Nat) (h : n ≤ 1099511627776) : ∀ w, (Instr.makeSlice 36 (.int .i64 (n : Int)) (.int .i64 (n : Int))).run Tryz.prog w = .ok (.slice (some ⟨w.heap.size, 0, none⟩) n n) (w.alloc (.cells (madeCells #[.int .i64 0] n) 3)) := fun w => by
  have := run_make_row' (P := Tryz.prog) 36 3 (.int .i64 0) 8 Tryz.underlying36 Tryz.infoInt rfl .i64 .i64 n (by omega) (by omega)
  exact this w
set_option maxHeartbeats 400000 in
theorem Trim_any (g m cap x : Nat) (w : World) (hc : ∀ i, i < m → w.cell? ⟨g, i, none⟩ = some (.int .i64 (dg 65536 x i : Nat))) (hx : x < 65536 ^ m) (hm : m ≤ 4611686018427387904) (hcap : m ≤ cap) :
    Calls Tryz.prog 85 #[.slice (some ⟨g, 0, none⟩) m cap] w fun e w' => e = .returned (.slice (some ⟨g, 0, none⟩) (nd 65536 x) cap) ∧ w = w' := by
  have hB : 2 ≤ 65536 := by decide
  have hle : nd 65536 x ≤ m := (nd_le hB).2 hx
  go_enter Tryz.func85, Tryz.ntmps85
  go_wp2
  go_loop [3] (fun n => ∃ k : Nat, nd 65536 x ≤ k ∧ k ≤ m ∧ n = .int .i64 k) (fun n => (intOf n).toNat)
  case atStart => exact ⟨m, hle, Nat.le_refl _, rfl⟩
  case round =>
    obtain ⟨k, hk1, hk2, rfl⟩ := hrel
    rcases Nat.eq_or_lt_of_le hk1 with hk | hk
    · have HK := Lib.hid hk
      rcases Nat.eq_zero_or_pos k with h0 | h0
      · subst h0
        clear hk hc
        go_wp2
        go_ret
        exact ⟨ret_slice HK.out.symm rfl, rfl⟩
      · have htop : 0 < dg 65536 x (k - 1) := by
          rw [← hk]; exact dg_top hB (by rcases Nat.eq_zero_or_pos x with h | h; (subst h; rw [nd_zero] at hk; omega); exact h)
        have hcell := hc (k - 1) (by omega)
        generalize dg 65536 x (k - 1) = t at *
        clear hk hc
        go_wp2
        go_ret
        exact ⟨ret_slice HK.out.symm rfl, rfl⟩
    · have hz : dg 65536 x (k - 1) = 0 := dg_high (by decide) (nd_lt hB x) (by omega)
      have hcell := hc (k - 1) (by omega)
      rw [hz] at hcell
      clear hz hc
      go_wp2
      go_round
      case rel => exact ⟨k - 1, by omega, by omega, by go_num⟩
      case measure => simp [intOf]; omega
theorem Trim_buf (g m cap x : Nat) (w : World) (h : Buf .i64 65536 3 w g m x) (hx : x < 65536 ^ m) (hm : m ≤ 4611686018427387904) (hcap : m ≤ cap) :
    Calls Tryz.prog 85 #[.slice (some ⟨g, 0, none⟩) m cap] w fun e w' => e = .returned (.slice (some ⟨g, 0, none⟩) (nd 65536 x) cap) ∧ w = w' :=
  Trim_any g m cap x w (fun _ hi => h.cell hi) hx hm hcap
/-- what the loop of Small keeps -/
def SmlRel (a b la : Nat) (w : World) (k Q r : Nat) (wr : World) : Prop :=
  a / 65536 ^ k = Q * b + r ∧ r < b ∧ Buf .i64 65536 3 wr w.heap.size la (0 + 65536 ^ k * Q) ∧ Below w.heap.size w wr
theorem SmlRel.next {a b la : Nat} {w : World} {k Q r : Nat} {wr : World} (h : SmlRel a b la w (k + 1) Q r wr) :
    SmlRel a b la w k (65536 * Q + (r * 65536 + dg 65536 a k) / b) ((r * 65536 + dg 65536 a k) % b) (wr.setCell ⟨w.heap.size, k, none⟩ (.int .i64 (((r * 65536 + dg 65536 a k) / b : Nat) : Int))) := by
  obtain ⟨h1, h2, h3, h4⟩ := h
  have hb : 0 < b := by omega
  have hda := dg_lt (B := 65536) (by decide) a k
  have hq := divdig_lt h2 hda
  refine ⟨divdig_round hb h1 h2, Nat.mod_lt _ hb, ?_, h4.setCell (Nat.le_refl _) _⟩
  have e : 0 + 65536 ^ (k + 1) * Q = 0 + 65536 ^ k * (0 + 65536 * Q) := by rw [Nat.pow_succ, Nat.mul_assoc, Nat.zero_add, Nat.zero_add, Nat.zero_add]
  rw [e] at h3
  have := Buf.set h3 (by decide) (Nat.pow_pos (by decide)) (by decide) hq
  rw [Nat.add_comm (65536 * Q)]
  exact this
set_option maxHeartbeats 1000000 in
theorem Small_any (v : Value) (a b : Nat) (w : World) (hv : R w v a) (ha : nd 65536 a ≤ 1048576) (hb : 0 < b) (hb2 : b ≤ 65536) :
    Calls Tryz.prog 106 #[v, .int .i64 b] w fun e w' => ∃ r, e = .returned (.tuple #[r, .int .i64 (a % b : Nat)]) ∧ R w' r (a / b) ∧ Below w.heap.size w w' ∧ ∃ c, r = .slice (some ⟨w.heap.size, 0, none⟩) (nd 65536 (a / b)) c := by
  have hB : 2 ≤ 65536 := by decide
  obtain ⟨ao, ac, hv', hcv⟩ := hv.shape
  have hla := nd_lt hB a
  subst hv'
  clear hv
  generalize hma : nd 65536 a = la at *
  clear hma
  have HL := Lib.hid hla; clear hla
  have hmk := made_int la (by omega)
  go_enter Tryz.func106, Tryz.ntmps106
  go_wp2
  go_loopw [7, 8] (fun r t wr => ∃ k Q rr : Nat, k ≤ la ∧ t = .int .i64 ((k : Int) - 1) ∧ r = .int .i64 rr ∧ SmlRel a b la w k Q rr wr) (fun _ t _ => (intOf t + 1).toNat)
  case atStart => exact ⟨la, 0, 0, Nat.le_refl _, rfl, rfl, by rw [Nat.div_eq_of_lt HL.out]; simp, hb, by simpa using Buf.made _ _ _ _ _, (Below.refl _ _).alloc (Nat.le_refl _) _⟩
  case round =>
    obtain ⟨k, Q, r, hk, rfl, rfl, hrel⟩ := hrel
    cases k with
    | succ k =>
      rw [show ((k + 1 : Nat) : Int) - 1 = k from by omega]
      have HN := Lib.hid hrel.next
      obtain ⟨-, hr, hbuf, hbel⟩ := hrel
      obtain ⟨gb, go, rfl, hca⟩ := hcv k (by omega)
      have hca' : wr.cell? ⟨gb, go + k, none⟩ = some (.int .i64 (dg 65536 a k : Nat)) := by
        rw [hbel.cell (p := ⟨gb, go + k, none⟩) (World.block_lt_of_cell? _ _ hca)]; exact hca
      have hcell := hbuf.cell (i := k) (by omega)
      have hfr := hbuf.frozen k
      clear hcv hca hbuf hbel
      have hkl : (k : Int) < la := by omega
      have hda := dg_lt (B := 65536) (by decide) a k
      have hq := divdig_lt hr hda
      generalize dg 65536 a k = d at *
      generalize dg 65536 (0 + 65536 ^ (k + 1) * Q) k = dx at *
      have hrb : r * 65536 + d < 4294967296 * 65536 := by omega
      have HE : Hid (((r * 65536 + d : Nat) : Int) = (r : Int) * 65536 + d) := by show _ = _; omega
      have HN2 := HN.out
      rw [show (((r * 65536 + d) / b : Nat) : Int) = ((r : Int) * 65536 + d) / b from by rw [Int.natCast_ediv, HE.out]] at HN2
      have HN3 := Lib.hid HN2
      have HM : Hid ((((r * 65536 + d) % b : Nat) : Int) = ((r : Int) * 65536 + d) % b) := by show _ = _; rw [Int.natCast_emod, HE.out]
      clear HN2 HN
      go_wp2
      go_roundw
      case rel => exact ⟨k, _, (r * 65536 + d) % b, by omega, by go_num, congrArg _ HM.out.symm, HN3.out⟩
      case measure => simp [intOf]
    | zero =>
      rw [show ((0 : Nat) : Int) - 1 = -1 from rfl]
      obtain ⟨h1, hr, hbuf, hbel⟩ := hrel
      rw [Nat.pow_zero, Nat.div_one] at h1
      rw [Nat.pow_zero, Nat.one_mul, Nat.zero_add] at hbuf
      have hq : a / b = Q := by rw [h1, Nat.add_comm, Nat.add_mul_div_right _ _ hb, Nat.div_eq_of_lt hr, Nat.zero_add]
      have hm : a % b = r := by rw [h1, Nat.add_comm, Nat.add_mul_mod_self_right, Nat.mod_eq_of_lt hr]
      have hlt : Q < 65536 ^ la := by rw [← hq]; exact Nat.lt_of_le_of_lt (Nat.div_le_self _ _) HL.out
      have HBuf := Lib.hid hbuf; have HBel := Lib.hid hbel; have HX := Lib.hid hlt; have HQ := Lib.hid hq; have HM := Lib.hid hm
      clear h1 hbuf hbel hlt hq hm hcv
      go_wp2_with fail
      refine (Trim_buf _ _ _ Q _ HBuf.out HX.out (by omega) (by omega)).mono ?_
      rintro e w' ⟨rfl, rfl⟩
      go_wp2
      go_ret2
      exact ⟨.slice (some ⟨w.heap.size, 0, none⟩) (nd 65536 Q) la, by rw [HM.out]; rfl, HQ.out ▸ HBuf.out.isN hB HX.out _, HBel.out, la, by rw [HQ.out]⟩
end Go.Proofs.YtcmancfdlfhgbaaGreatDoor
