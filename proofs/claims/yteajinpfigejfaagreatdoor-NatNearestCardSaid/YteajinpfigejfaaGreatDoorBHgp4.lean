/- Contracts and lemmas (several texts merged into one). -/
import Derived.Test.YteajinpfigejfaaGreatDoorBHgp3
import Derived.Laws.BytesArg
import Derived.Test.YteajinpfigejfaaGreatDoorBHgp2
import Derived.Deep.RegionHeld3
namespace Go.Proofs.YteajinpfigejfaaGreatDoor
open Go Go.RowKit Gu

abbrev R (w : World) (v : Value) (n : Nat) : Prop := IsN .i64 65536 w v n
theorem Tryz.infoInt : (Tryz.prog.info? 3).map (fun i => (i.zero, i.size, i.bytes)) = some (some (.int .i64 0), 1, 8) := by kernel_rfl
theorem made_int (n : Nat) (h : n ≤ 1099511627776) : ∀ w, (Instr.makeSlice 27 (.int .i64 (n : Int)) (.int .i64 (n : Int))).run Tryz.prog w = .ok (.slice (some ⟨w.heap.size, 0, none⟩) n n) (w.alloc (.cells (madeCells #[.int .i64 0] n) 3)) := fun w => by
  have := run_make_row' (P := Tryz.prog) 27 3 (.int .i64 0) 8 Tryz.underlying27 Tryz.infoInt rfl .i64 .i64 n (by omega) (by omega)
  exact this w
set_option maxHeartbeats 400000 in
theorem Trim_any (g m cap x : Nat) (w : World) (hc : ∀ i, i < m → w.cell? ⟨g, i, none⟩ = some (.int .i64 (dg 65536 x i : Nat))) (hx : x < 65536 ^ m) (hm : m ≤ 4611686018427387904) (hcap : m ≤ cap) :
    Calls Tryz.prog 58 #[.slice (some ⟨g, 0, none⟩) m cap] w fun e w' => e = .returned (.slice (some ⟨g, 0, none⟩) (nd 65536 x) cap) ∧ w = w' := by
  have hB : 2 ≤ 65536 := by decide
  have hle : nd 65536 x ≤ m := (nd_le hB).2 hx
  go_enter Tryz.func58, Tryz.ntmps58
  go_wp2
  go_loop [3] (fun n => ∃ k : Nat, nd 65536 x ≤ k ∧ k ≤ m ∧ n = .int .i64 k) (fun n => (intOf n).toNat)
  case atStart => exact ⟨m, hle, Nat.le_refl _, rfl⟩
  case round =>
    obtain ⟨k, hk1, hk2, rfl⟩ := hrel
    rcases Nat.eq_or_lt_of_le hk1 with hk | hk
    · have HK := Lib.hid hk
      rcases Nat.eq_zero_or_pos k with h0 | h0
      · subst h0
        clear hk hc
        go_wp2
        go_ret
        exact ⟨ret_slice HK.out.symm rfl, rfl⟩
      · have htop : 0 < dg 65536 x (k - 1) := by
          rw [← hk]; exact dg_top hB (by rcases Nat.eq_zero_or_pos x with h | h; (subst h; rw [nd_zero] at hk; omega); exact h)
        have hcell := hc (k - 1) (by omega)
        generalize dg 65536 x (k - 1) = t at *
        clear hk hc
        go_wp2
        go_ret
        exact ⟨ret_slice HK.out.symm rfl, rfl⟩
    · have hz : dg 65536 x (k - 1) = 0 := dg_high (by decide) (nd_lt hB x) (by omega)
      have hcell := hc (k - 1) (by omega)
      rw [hz] at hcell
      clear hz hc
      go_wp2
      go_round
      case rel => exact ⟨k - 1, by omega, by omega, by go_num⟩
      case measure => simp [intOf]; omega
theorem Trim_buf (g m cap x : Nat) (w : World) (h : Buf .i64 65536 3 w g m x) (hx : x < 65536 ^ m) (hm : m ≤ 4611686018427387904) (hcap : m ≤ cap) :
    Calls Tryz.prog 58 #[.slice (some ⟨g, 0, none⟩) m cap] w fun e w' => e = .returned (.slice (some ⟨g, 0, none⟩) (nd 65536 x) cap) ∧ w = w' :=
  Trim_any g m cap x w (fun _ hi => h.cell hi) hx hm hcap
/-- what the loop of Small keeps -/
def SmlRel (a b la : Nat) (w : World) (k Q r : Nat) (wr : World) : Prop :=
  a / 65536 ^ k = Q * b + r ∧ r < b ∧ Buf .i64 65536 3 wr w.heap.size la (0 + 65536 ^ k * Q) ∧ Below w.heap.size w wr
theorem SmlRel.next {a b la : Nat} {w : World} {k Q r : Nat} {wr : World} (h : SmlRel a b la w (k + 1) Q r wr) :
    SmlRel a b la w k (65536 * Q + (r * 65536 + dg 65536 a k) / b) ((r * 65536 + dg 65536 a k) % b) (wr.setCell ⟨w.heap.size, k, none⟩ (.int .i64 (((r * 65536 + dg 65536 a k) / b : Nat) : Int))) := by
  obtain ⟨h1, h2, h3, h4⟩ := h
  have hb : 0 < b := by omega
  have hda := dg_lt (B := 65536) (by decide) a k
  have hq := divdig_lt h2 hda
  refine ⟨divdig_round hb h1 h2, Nat.mod_lt _ hb, ?_, h4.setCell (Nat.le_refl _) _⟩
  have e : 0 + 65536 ^ (k + 1) * Q = 0 + 65536 ^ k * (0 + 65536 * Q) := by rw [Nat.pow_succ, Nat.mul_assoc, Nat.zero_add, Nat.zero_add, Nat.zero_add]
  rw [e] at h3
  have := Buf.set h3 (by decide) (Nat.pow_pos (by decide)) (by decide) hq
  rw [Nat.add_comm (65536 * Q)]
  exact this
set_option maxHeartbeats 1000000 in
theorem Small_any (v : Value) (a b : Nat) (w : World) (hv : R w v a) (ha : nd 65536 a ≤ 1048576) (hb : 0 < b) (hb2 : b ≤ 65536) :
    Calls Tryz.prog 96 #[v, .int .i64 b] w fun e w' => ∃ r, e = .returned (.tuple #[r, .int .i64 (a % b : Nat)]) ∧ R w' r (a / b) ∧ Below w.heap.size w w' ∧ ∃ c, r = .slice (some ⟨w.heap.size, 0, none⟩) (nd 65536 (a / b)) c := by
  have hB : 2 ≤ 65536 := by decide
  obtain ⟨ao, ac, hv', hcv⟩ := hv.shape
  have hla := nd_lt hB a
  subst hv'
  clear hv
  generalize hma : nd 65536 a = la at *
  clear hma
  have HL := Lib.hid hla; clear hla
  have hmk := made_int la (by omega)
  go_enter Tryz.func96, Tryz.ntmps96
  go_wp2
  go_loopw [7, 8] (fun r t wr => ∃ k Q rr : Nat, k ≤ la ∧ t = .int .i64 ((k : Int) - 1) ∧ r = .int .i64 rr ∧ SmlRel a b la w k Q rr wr) (fun _ t _ => (intOf t + 1).toNat)
  case atStart => exact ⟨la, 0, 0, Nat.le_refl _, rfl, rfl, by rw [Nat.div_eq_of_lt HL.out]; simp, hb, by simpa using Buf.made _ _ _ _ _, (Below.refl _ _).alloc (Nat.le_refl _) _⟩
  case round =>
    obtain ⟨k, Q, r, hk, rfl, rfl, hrel⟩ := hrel
    cases k with
    | succ k =>
      rw [show ((k + 1 : Nat) : Int) - 1 = k from by omega]
      have HN := Lib.hid hrel.next
      obtain ⟨-, hr, hbuf, hbel⟩ := hrel
      obtain ⟨gb, go, rfl, hca⟩ := hcv k (by omega)
      have hca' : wr.cell? ⟨gb, go + k, none⟩ = some (.int .i64 (dg 65536 a k : Nat)) := by
        rw [hbel.cell (p := ⟨gb, go + k, none⟩) (World.block_lt_of_cell? _ _ hca)]; exact hca
      have hcell := hbuf.cell (i := k) (by omega)
      have hfr := hbuf.frozen k
      clear hcv hca hbuf hbel
      have hkl : (k : Int) < la := by omega
      have hda := dg_lt (B := 65536) (by decide) a k
      have hq := divdig_lt hr hda
      generalize dg 65536 a k = d at *
      generalize dg 65536 (0 + 65536 ^ (k + 1) * Q) k = dx at *
      have hrb : r * 65536 + d < 4294967296 * 65536 := by omega
      have HE : Hid (((r * 65536 + d : Nat) : Int) = (r : Int) * 65536 + d) := by show _ = _; omega
      have HN2 := HN.out
      rw [show (((r * 65536 + d) / b : Nat) : Int) = ((r : Int) * 65536 + d) / b from by rw [Int.natCast_ediv, HE.out]] at HN2
      have HN3 := Lib.hid HN2
      have HM : Hid ((((r * 65536 + d) % b : Nat) : Int) = ((r : Int) * 65536 + d) % b) := by show _ = _; rw [Int.natCast_emod, HE.out]
      clear HN2 HN
      go_wp2
      go_roundw
      case rel => exact ⟨k, _, (r * 65536 + d) % b, by omega, by go_num, congrArg _ HM.out.symm, HN3.out⟩
      case measure => simp [intOf]
    | zero =>
      rw [show ((0 : Nat) : Int) - 1 = -1 from rfl]
      obtain ⟨h1, hr, hbuf, hbel⟩ := hrel
      rw [Nat.pow_zero, Nat.div_one] at h1
      rw [Nat.pow_zero, Nat.one_mul, Nat.zero_add] at hbuf
      have hq : a / b = Q := by rw [h1, Nat.add_comm, Nat.add_mul_div_right _ _ hb, Nat.div_eq_of_lt hr, Nat.zero_add]
      have hm : a % b = r := by rw [h1, Nat.add_comm, Nat.add_mul_mod_self_right, Nat.mod_eq_of_lt hr]
      have hlt : Q < 65536 ^ la := by rw [← hq]; exact Nat.lt_of_le_of_lt (Nat.div_le_self _ _) HL.out
      have HBuf := Lib.hid hbuf; have HBel := Lib.hid hbel; have HX := Lib.hid hlt; have HQ := Lib.hid hq; have HM := Lib.hid hm
      clear h1 hbuf hbel hlt hq hm hcv
      go_wp2_with fail
      refine (Trim_buf _ _ _ Q _ HBuf.out HX.out (by omega) (by omega)).mono ?_
      rintro e w' ⟨rfl, rfl⟩
      go_wp2
      go_ret2
      exact ⟨.slice (some ⟨w.heap.size, 0, none⟩) (nd 65536 Q) la, by rw [HM.out]; rfl, HQ.out ▸ HBuf.out.isN hB HX.out _, HBel.out, la, by rw [HQ.out]⟩
end Go.Proofs.YteajinpfigejfaaGreatDoor
namespace Go.Proofs.YteajinpfigejfaaGreatDoor
open Go Go.RowKit Gu

theorem nd_le_self16 {n : Nat} (h : n ≤ 9223372036854775807) : nd 65536 n ≤ 4 := (nd_le (by decide)).2 (by omega)
/-- what the loop of Of keeps: k digits are out -/
def OfRel (n : Nat) (w : World) (k : Nat) (v : Value) (wr : World) : Prop :=
  k ≤ nd 65536 n ∧ Own .i64 65536 3 wr w.heap.size v k (n % 65536 ^ k) ∧ Below w.heap.size w wr
set_option maxHeartbeats 1000000 in
set_option maxRecDepth 100000 in
theorem Of_any (n : Nat) (w : World) (hn : n ≤ 9223372036854775807) :
    Calls Tryz.prog 11 #[.int .i64 n] w fun e w' => ∃ r, e = .returned r ∧ R w' r n ∧ Below w.heap.size w w' := by
  obtain ⟨i0, hi, hz0, hz1, hz2⟩ := info_parts Tryz.infoInt
  have h4 := nd_le_self16 hn
  go_enter Tryz.func11, Tryz.ntmps11
  go_wp2
  go_loopg [0, 3] (nd 65536 n) (fun m x v wr => ∃ k, Hid (m + k = nd 65536 n) ∧ x = .int .i64 (n / 65536 ^ k : Nat) ∧ OfRel n w k v wr)
  case atStart => exact ⟨0, rfl, by simp, Nat.zero_le _, by rw [Nat.pow_zero, Nat.mod_one]; exact Own.nil _ _ _ _ _, Below.refl _ _⟩
  case round =>
    obtain ⟨k, HK, rfl, hk, hown, hbel⟩ := hrel
    have hle : n / 65536 ^ k ≤ n := Nat.div_le_self _ _
    rcases Nat.eq_zero_or_pos (n / 65536 ^ k) with hz | hz
    · have hkm : nd 65536 n = k := by
        have h1 := (nd_le (by decide : 2 ≤ 65536) (n := n) (k := k)).2 (by
          rcases Nat.lt_or_ge n (65536 ^ k) with h | h
          · exact h
          · have := Nat.div_pos h (Nat.pow_pos (by decide)); omega)
        omega
      have hmod : n % 65536 ^ k = n := Nat.mod_eq_of_lt (by rw [← hkm]; exact nd_lt (by decide) n)
      rw [hmod] at hown
      have HIS := Lib.hid (hown.isN (by decide) hkm)
      have HB := Lib.hid hbel
      rw [hz]
      clear hz hkm hmod hown hbel hle
      go_wp2
      go_ret
      exact ⟨_, rfl, HIS.out, HB.out⟩
    · have hpos : (0 : Int) < ((n / 65536 ^ k : Nat) : Int) := by omega
      have hdig : (n / 65536 ^ k) % 65536 = dg 65536 n k := rfl
      have hnext : (n / 65536 ^ k) / 65536 = n / 65536 ^ (k + 1) := by rw [Nat.div_div_eq_div_mul, ← Nat.pow_succ]
      have hkm : k < nd 65536 n := by
        rcases Nat.lt_or_ge k (nd 65536 n) with h | h
        · exact h
        · have := Nat.div_eq_of_lt (Nat.lt_of_lt_of_le (nd_lt (by decide : 2 ≤ 65536) n) (Nat.pow_le_pow_right (by decide) h))
          omega
      have hd := dg_lt (B := 65536) (by decide) n k
      have HD1 : Hid (((n / 65536 ^ k : Nat) : Int) % 65536 = (dg 65536 n k : Nat)) := by show _ = _; rw [← hdig]; omega
      have HD2 : Hid (((n / 65536 ^ k : Nat) : Int) / 65536 = (n / 65536 ^ (k + 1) : Nat)) := by show _ = _; rw [← hnext]; omega
      have HPS : Hid (pad 65536 (k + 1) (n % 65536 ^ (k + 1)) = pad 65536 k (n % 65536 ^ k) ++ [dg 65536 n k]) := by
        show _ = _
        rw [mod_succ]
        exact pad_succ (by decide) (Nat.mod_lt _ (Nat.pow_pos (by decide))) hd
      have HB := Lib.hid hbel
      have hlt := hown.lt
      have HLT := Lib.hid hlt
      have hsz := hbel.size
      unfold Own at hown
      clear hbel hdig hnext hlt hz
      generalize n / 65536 ^ k = x at *
      generalize dg 65536 n k = d at *
      go_wp2_with (at_builtin; refine wpList_append_own _ rfl _ _ 27 rfl w.heap.size 3 i0 (.int .i64 0) 1 8 Tryz.underlying27 hi hz0 hz1 hz2 rfl (by decide) _ _ _ rfl (hown.alloc _) ⟨wr.heap.size, 0, none⟩ 1 1 [.int .i64 ((x : Int) % 65536)] rfl rfl ?c1 ?c2 ?c3 ?c4 ?c5 ?_)
      case c1 => exact cell_one_new _ _ _
      case c2 => intro u hu; simp at hu; subst hu; rfl
      case c3 => unfold maxLen; omega
      case c4 => omega
      case c5 => simp; omega
      intro v' w4 hown4 hgrow hnil
      have HFIN : Hid (OfRel n w (k + 1) v' w4) := by
        refine ⟨by omega, ?_, ?_⟩
        · unfold Own
          rw [HPS.out, List.map_append]
          rw [HD1.out] at hown4
          exact hown4
        · refine Below.grown (HB.out.alloc (by omega) _) hgrow (by simp; omega) ?_
          intro j hj
          exact (HLT.out _ hj).1
      clear hown4 hgrow hnil hown
      go_wp2
      go_roundg (nd 65536 n - (k + 1))
      case measure => have := HK.out; omega
      case rel => exact ⟨k + 1, by show _ = _; omega, by rw [HD2.out], HFIN.out⟩
end Go.Proofs.YteajinpfigejfaaGreatDoor
namespace Go.Proofs.YteajinpfigejfaaGreatDoor
open Go Go.RowKit Gu

theorem nd_half {x : Nat} (h : 0 < x) : nd 2 x = nd 2 (x / 2) + 1 := by
  unfold nd; rw [digs_pos (by decide) h]; rfl
theorem bits_16 {n : Nat} (h : 0 < n) : nd 2 n = 16 * (nd 65536 n - 1) + nd 2 (dg 65536 n (nd 65536 n - 1)) := by
  have hB : 2 ≤ 65536 := by decide
  obtain ⟨k, hk⟩ : ∃ k, nd 65536 n = k + 1 := ⟨nd 65536 n - 1, by have := nd_pos hB h; omega⟩
  have ht := dg_top hB h
  rw [hk, Nat.add_sub_cancel] at ht ⊢
  have hl := nd_lt (by decide : 2 ≤ 2) (dg 65536 n k)
  have hp := nd_pow_le (by decide : 2 ≤ 2) ht
  have h0 := nd_pos (by decide : 2 ≤ 2) ht
  generalize hL : nd 2 (dg 65536 n k) = L at *
  obtain ⟨M, rfl⟩ : ∃ M, L = M + 1 := ⟨L - 1, by omega⟩
  rw [Nat.add_sub_cancel] at hp
  have := bits_top (s := 16) (by decide) hk hp hl
  rw [this]; rfl
set_option maxHeartbeats 400000 in
theorem RBitLen_any (v : Value) (n : Nat) (w : World) (hv : R w v n) (hn : nd 65536 n ≤ 1048576) :
    Calls Tryz.prog 77 #[v] w fun e w' => e = .returned (.int .i64 (nd 2 n)) ∧ w = w' := by
  rcases hv with ⟨h0, ao, cap, rfl⟩ | ⟨h0, b, o, cap, rfl, hc⟩
  · subst h0
    rw [nd_zero]
    go_enter Tryz.func77, Tryz.ntmps77
    go_wp2
    go_ret
    exact ⟨rfl, rfl⟩
  · have hp := nd_pos (by decide : 2 ≤ 65536) h0
    have hcell := hc (nd 65536 n - 1) (by omega)
    have hbits := bits_16 h0
    have hlt := dg_lt (B := 65536) (by decide) n (nd 65536 n - 1)
    rw [hbits]
    clear hc hbits
    generalize dg 65536 n (nd 65536 n - 1) = t at *
    generalize nd 65536 n = m at *
    have ht16 : nd 2 t ≤ 16 := (nd_le (by decide)).2 (by omega)
    go_enter Tryz.func77, Tryz.ntmps77
    go_wp2
    go_loop [3, 4] (fun c x => ∃ y k : Nat, y ≤ t ∧ k ≤ 16 ∧ c = .int .i64 ((16 * (m - 1) + k : Nat) : Int) ∧ x = .int .i64 y ∧ Hid (nd 2 t = k + nd 2 y)) (fun _ x => (intOf x).toNat)
    case atStart => exact ⟨t, 0, Nat.le_refl _, by omega, by go_num, rfl, (Nat.zero_add _).symm⟩
    case round =>
      obtain ⟨y, k, hy, hk, rfl, rfl, HY⟩ := hrel
      rcases Nat.eq_zero_or_pos y with hy0 | hy0
      · subst hy0
        go_wp2
        go_ret
        exact ⟨ret_int' (by rw [HY.out, nd_zero]; omega), rfl⟩
      · have hy0' : (0 : Int) < y := by omega
        have HN : Hid (nd 2 t = (k + 1) + nd 2 (y / 2)) := by have := HY.out; have h2 := nd_half hy0; show _ = _; omega
        have hk1 : k + 1 ≤ 16 := by have := HN.out; omega
        go_wp2
        go_round
        case rel => exact ⟨y / 2, k + 1, by omega, hk1, by go_num, by go_num, HN⟩
        case measure => simp [intOf]; omega
end Go.Proofs.YteajinpfigejfaaGreatDoor
namespace Go.Proofs.YteajinpfigejfaaGreatDoor
open Go Go.RowKit Gu

theorem Tryz.infoU8 : (Tryz.prog.info? 5).map (fun i => (i.zero, i.size, i.bytes)) = some (some (.int .u8 0), 1, 1) := by kernel_rfl
/-- an own row whose elements are one cell wide, by the index -/
theorem row_of_own {w : World} {base : Nat} {T : TypeId} {v : Value} {n : Nat} {xs : List Value} (h : w.ownsRow base T 1 v n xs) (hn : 0 < n) :
    ∃ g cap f, v = .slice (some ⟨g, 0, none⟩) n cap ∧ base ≤ g ∧ n ≤ cap ∧ w.rowIs g T cap f ∧ ∀ i, i < n → xs[i]? = some (f i) := by
  rcases h.2 with ⟨_, h2⟩ | ⟨g, cap, cur, hv, hb, hh, hle, hm, hs, ht⟩
  · omega
  · refine ⟨g, cap, fun i => (cur[i]?).getD (.bool false), hv, hb, hle, ⟨cur, hh, by omega, fun i hi => ?_⟩, fun i hi => ?_⟩
    · simp [Array.getElem?_eq_getElem (show i < cur.size by omega)]
    · rw [← ht, List.getElem?_take, if_pos (by omega), Array.getElem?_toList]; simp [Array.getElem?_eq_getElem (show i < cur.size by omega)]
/-- the first k decimal digits as bytes, the least first -/
def chs (n k : Nat) : List Value := (List.range k).map fun j => Value.int .u8 ((48 + dg 10 n j : Nat) : Int)
theorem chs_succ (n k : Nat) : chs n (k + 1) = chs n k ++ [Value.int .u8 ((48 + dg 10 n k : Nat) : Int)] := by
  unfold chs; rw [List.range_succ, List.map_append]; rfl
/-- a row of which i places at either end have changed sides -/
def rv {α : Type} (k i : Nat) (f : Nat → α) (p : Nat) : α := if p < k ∧ (p < i ∨ k ≤ p + i) then f (k - 1 - p) else f p
theorem rv_zero {α : Type} (k : Nat) (f : Nat → α) (p : Nat) : rv k 0 f p = f p := by unfold rv; rw [if_neg (by omega)]
theorem rv_in {α : Type} {k i p : Nat} (f : Nat → α) (h1 : i ≤ p) (h2 : p + i < k) : rv k i f p = f p := by unfold rv; rw [if_neg (by omega)]
theorem rv_all {α : Type} {k i p : Nat} (f : Nat → α) (h : k ≤ 2 * i + 1) (h1 : 2 * i ≤ k) (hp : p < k) : rv k i f p = f (k - 1 - p) := by
  unfold rv
  split
  · rfl
  · rw [show k - 1 - p = p from by omega]
theorem rv_next {α : Type} {k i j : Nat} (f : Nat → α) (hj : j + i + 1 = k) (hij : i < j) (p : Nat) :
    (if p = j then f i else if p = i then f j else rv k i f p) = rv k (i + 1) f p := by
  unfold rv
  by_cases h1 : p = j
  · rw [if_pos h1, if_pos (by omega)]; congr 1; omega
  · rw [if_neg h1]
    by_cases h2 : p = i
    · rw [if_pos h2, if_pos (by omega)]; congr 1; omega
    · rw [if_neg h2]
      by_cases h3 : p < k ∧ (p < i ∨ k ≤ p + i)
      · rw [if_pos h3, if_pos (by omega)]
      · rw [if_neg h3, if_neg (by omega)]
theorem dec_rev {n k : Nat} (h : 0 < n) (hk : nd 10 n = k) : (List.range k).map (fun p => UInt8.ofNat (48 + dg 10 n (k - 1 - p))) = Lib.decDigits n := by
  rw [dec_eq_digits h, hk]
  apply List.ext_getElem (by simp [pad])
  intro i h1 h2
  simp only [List.length_map, List.length_range] at h1
  simp only [List.getElem_map, List.getElem_range, List.getElem_reverse, pad_getElem, List.length_map, pad_length]
/-- what the first loop of Text keeps: k digits are out -/
def TxtRel (n : Nat) (w : World) (k : Nat) (av bv : Value) (wr : World) : Prop :=
  k ≤ nd 10 n ∧ R wr av (n / 10 ^ k) ∧ wr.ownsRow w.heap.size 5 1 bv k (chs n k) ∧ Below w.heap.size w wr
theorem nd_ten {n m : Nat} (h : nd 65536 n ≤ m) : nd 10 n ≤ 5 * m := by
  have h1 := (nd_le (by decide : 2 ≤ 65536)).1 h
  apply (nd_le (by decide : 2 ≤ 10)).2
  refine Nat.lt_of_lt_of_le h1 ?_
  rw [Nat.pow_mul]
  exact Nat.pow_le_pow_left (by decide) _
set_option maxHeartbeats 1000000 in
set_option maxRecDepth 100000 in
theorem Text_pos (v : Value) (n : Nat) (w : World) (hv : R w v n) (h0 : 0 < n) (hn : nd 65536 n ≤ 1000000) :
    Calls Tryz.prog 75 #[v] w fun e w' => e = .returned (.string ⟨(Lib.decDigits n).toArray⟩) ∧ Below w.heap.size w w' := by
  obtain ⟨i0, hi, hz0, hz1, hz2⟩ := info_parts Tryz.infoU8
  have HV := Lib.hid hv
  obtain ⟨ao, ac, rfl, -⟩ := hv.shape
  have hp0 : 0 < nd 65536 n := nd_pos (by decide) h0
  clear hv
  obtain ⟨L, hL⟩ : ∃ L, nd 65536 n = L + 1 := ⟨nd 65536 n - 1, by omega⟩
  rw [hL] at HV ⊢
  clear hp0 hL
  go_enter Tryz.func75, Tryz.ntmps75
  go_wp2
  go_loopg [0, 3, 4] (nd 10 n) (fun m av bv rv wr => ∃ k, ∃ r : Nat, Hid (m + k = nd 10 n) ∧ rv = .int .i64 r ∧ TxtRel n w k av bv wr)
  case atStart => exact ⟨0, 0, rfl, rfl, Nat.zero_le _, by rw [Nat.pow_zero, Nat.div_one]; exact HV.out, World.ownsRow_nil _ _ _ _, Below.refl _ _⟩
  case round =>
    obtain ⟨k, r, HK, rfl, hk, hr, hown, hbel⟩ := hrel
    have hd : nd 65536 (n / 10 ^ k) ≤ 1000000 := Nat.le_trans (nd_mono (by decide) (Nat.div_le_self _ _)) hn
    have hkb : k ≤ 5000000 := by have := nd_ten hn; omega
    have HR := Lib.hid hr
    obtain ⟨ro, rc, rfl, -⟩ := hr.shape
    clear hr
    by_cases hz : n / 10 ^ k = 0
    · have hkm : nd 10 n = k := by
        rcases Nat.lt_or_ge k (nd 10 n) with h | h
        · have h1 := nd_pow_le (by decide : 2 ≤ 10) h0
          have h2 : 10 ^ k ≤ 10 ^ (nd 10 n - 1) := Nat.pow_le_pow_right (by decide) (by omega)
          have h3 := Nat.div_pos (Nat.le_trans h2 h1) (Nat.pow_pos (by decide))
          omega
        · omega
      have hk0 : 0 < k := by rw [← hkm]; exact nd_pos (by decide) h0
      rw [hz, nd_zero]
      have HDR : Hid ((List.range k).map (fun p => UInt8.ofNat (48 + dg 10 n (k - 1 - p))) = Lib.decDigits n) := dec_rev h0 hkm
      obtain ⟨g, cap, f, rfl, hg, hkc, hrow, hf⟩ := row_of_own hown hk0
      have hf' : ∀ i, i < k → f i = Value.int .u8 ((48 + dg 10 n i : Nat) : Int) := by
        intro i hi
        have := hf i hi
        rw [chs, List.getElem?_map, List.getElem?_range hi] at this
        exact (Option.some.inj this).symm
      have HF := Lib.hid hf'
      have HROW := Lib.hid hrow
      have HBl := Lib.hid hbel
      clear hz hkm hown hbel hf hf' hrow HR hd hk
      go_wp2
      obtain ⟨wo, rfl⟩ : ∃ wo : World, wo = wr := ⟨_, rfl⟩
      go_loopw [5, 6] (fun a b wx => ∃ i : Nat, 2 * i ≤ k ∧ a = .int .i64 i ∧ b = .int .i64 ((k : Int) - 1 - i) ∧ wx.rowIs g 5 cap (rv k i f) ∧ Below w.heap.size w wx) (fun a _ _ => k - (intOf a).toNat)
      case atStart => exact ⟨0, Nat.zero_le _, rfl, by go_num, HROW.out.congr (fun p _ => (rv_zero k f p).symm), HBl.out⟩
      case round =>
        obtain ⟨i, hik, rfl, rfl, hrow, hbx⟩ := hrel
        have HB2 := Lib.hid hbx
        have HR2 := Lib.hid hrow
        clear hrow hbx
        by_cases hlt : 2 * i + 1 < k
        · obtain ⟨j, hj⟩ : ∃ j, j + i + 1 = k := ⟨k - 1 - i, by omega⟩
          rw [show (k : Int) - 1 - i = j from by omega]
          have hij : (i : Int) < j := by omega
          have hjk : (j : Int) < k := by omega
          have hne : i ≠ j := by omega
          have HJ := Lib.hid hj
          have h1 : wr.cell? ⟨g, i, none⟩ = some (.int .u8 ((48 + dg 10 n i : Nat) : Int)) := by
            rw [HR2.out.cell (i := i) (by omega), rv_in f (Nat.le_refl _) (by omega), HF.out i (by omega)]
          have h2 : wr.cell? ⟨g, j, none⟩ = some (.int .u8 ((48 + dg 10 n j : Nat) : Int)) := by
            rw [HR2.out.cell (i := j) (by omega), rv_in f (by omega) (by omega), HF.out j (by omega)]
          have h3 := HR2.out.frozen i
          have h4 := HR2.out.frozen j
          have HNX : Hid (((wr.setCell ⟨g, i, none⟩ (.int .u8 ((48 + dg 10 n j : Nat) : Int))).setCell ⟨g, j, none⟩ (.int .u8 ((48 + dg 10 n i : Nat) : Int))).rowIs g 5 cap (rv k (i + 1) f)) := by
            refine World.rowIs.congr ((HR2.out.set i _).set j _) fun p _ => ?_
            rw [← HF.out i (by omega), ← HF.out j (by omega)]
            exact rv_next f HJ.out (by omega) p
          clear hj
          generalize ((48 + dg 10 n i : Nat) : Int) = ci at *
          generalize ((48 + dg 10 n j : Nat) : Int) = cj at *
          go_wp2
          go_roundw
          case rel => exact ⟨i + 1, by have := HJ.out; omega, by go_num, by have := HJ.out; go_num, HNX.out, (HB2.out.setCell hg _).setCell hg _⟩
          case measure => simp [intOf]; omega
        · have hnl : ¬ ((i : Int) < (k : Int) - 1 - i) := by omega
          obtain ⟨S, hS⟩ : ∃ S : ByteArray, S = ⟨(Lib.decDigits n).toArray⟩ := ⟨_, rfl⟩
          have kc : ∀ dst, Tryz.prog.underlying dst = some .string → (convert 97 dst (.slice (some ⟨g, 0, none⟩) k cap)).run Tryz.prog wr = .ok (.string S) wr := by
            have h := run_convert_bytes_arg (P := Tryz.prog) wr 97 5 Tryz.underlying97 Tryz.underlying5 g 0 k cap ((List.range k).map fun p => ((48 + dg 10 n (k - 1 - p) : Nat) : Int)) (by simp) (fun p hp => by
              rw [Nat.zero_add, HR2.out.cell (i := p) (by omega), rv_all f (by omega) hik hp, HF.out _ (by omega)]
              simp [List.getD, hp])
            have e : strOfNums ((List.range k).map fun p => ((48 + dg 10 n (k - 1 - p) : Nat) : Int)) = S := by
              rw [hS, ← HDR.out]
              unfold strOfNums
              rw [List.map_map]
              rfl
            rw [e] at h
            exact h
          have kc1 := kc 9 Tryz.underlying9
          have HS := Lib.hid hS
          clear kc hS
          go_wp2
          go_ret
          exact ⟨by rw [← HS.out]; rfl, HB2.out⟩
    · have hz2 : 0 < n / 10 ^ k := Nat.pos_of_ne_zero hz
      have hzp : 0 < nd 65536 (n / 10 ^ k) := nd_pos (by decide) hz2
      have hkm : k < nd 10 n := by
        rcases Nat.lt_or_ge k (nd 10 n) with h | h
        · exact h
        · exact absurd (Nat.div_eq_of_lt (Nat.lt_of_lt_of_le (nd_lt (by decide) n) (Nat.pow_le_pow_right (by decide) h))) hz
      have HD := Lib.hid (Small_any _ (n / 10 ^ k) 10 wr HR.out (by omega) (by decide) (by decide))
      have hg : dg 10 n k < 10 := dg_lt (by decide) _ _
      rw [show (n / 10 ^ k) % 10 = dg 10 n k from rfl, Nat.div_div_eq_div_mul, ← Nat.pow_succ] at HD
      have HO := Lib.hid hown; have HBl := Lib.hid hbel
      have HRB := Lib.hid hown.lt
      have HGS := Lib.hid (chs_succ n k)
      clear hz hz2 hown hbel hd HR
      generalize dg 10 n k = g at *
      generalize nd 65536 (n / 10 ^ k) = l at *
      go_wp2_with fail
      refine HD.out.mono ?_
      rintro e w2 ⟨q, rfl, hr2, hb2, hrf⟩
      have HRF := Lib.hid hrf; clear hrf
      have HR2 := Lib.hid hr2; have HB2 := Lib.hid hb2
      have hown3 := ownsRow_below HO.out hb2
      have hsz : w.heap.size ≤ w2.heap.size := Nat.le_trans HBl.out.size HB2.out.size
      clear hr2 hb2
      go_wp2_with (at_builtin; refine wpList_append_own _ rfl _ _ 97 rfl w.heap.size 5 i0 (.int .u8 0) 1 1 Tryz.underlying97 hi hz0 hz1 hz2 rfl (by decide) _ _ _ rfl (hown3.alloc _) ⟨w2.heap.size, 0, none⟩ 1 1 [.int .u8 ((48 + g : Nat) : Int)] rfl rfl ?c1 ?c2 ?c3 ?c4 ?c5 ?_)
      case c1 => exact cell_one_new _ _ _
      case c2 => intro u hu; simp at hu; subst hu; rfl
      case c3 => unfold maxLen; omega
      case c4 => omega
      case c5 => simp; omega
      intro v' w4 hown4 hgrow hnil
      have HFIN : Hid (TxtRel n w (k + 1) q v' w4) := by
        refine ⟨by omega, ?_, by rw [HGS.out]; exact hown4, ?_⟩
        · have h1 := (HR2.out.below ((Below.refl w2.heap.size w2).alloc (Nat.le_refl _) (.cells #[.int .u8 ((48 + g : Nat) : Int)] 5)))
          rcases h1 with h1 | ⟨p1, b, o, cap, hv1, hc1⟩
          · exact .inl h1
          · refine .inr ⟨p1, b, o, cap, hv1, fun i hi => hgrow.cell (hc1 i hi) ?_⟩
            intro e
            have h3 := HRB.out _ e.symm
            obtain ⟨c4, h4⟩ := HRF.out
            rw [hv1] at h4
            simp only [Value.slice.injEq, Option.some.injEq, Addr.mk.injEq, and_true] at h4
            have h5 := h4.1.1
            have h6 : b = wr.heap.size := h5
            have h7 : b < wr.heap.size := h3.2
            omega
        · refine Below.grown ((HBl.out.trans (HB2.out.mono HBl.out.size)) |>.alloc (by omega) _) hgrow (by simp; omega) ?_
          intro j hj
          exact (HRB.out _ hj).1
      clear hown4 hgrow hnil hown3
      go_wp2
      go_roundg (nd 10 n - (k + 1))
      case measure => have := HK.out; omega
      case rel => exact ⟨k + 1, g, by show _ = _; omega, rfl, HFIN.out⟩
theorem Text_any (v : Value) (n : Nat) (w : World) (hv : R w v n) (hn : nd 65536 n ≤ 1000000) :
    Calls Tryz.prog 75 #[v] w fun e w' => e = .returned (.string ⟨(Lib.decDigits n).toArray⟩) ∧ Below w.heap.size w w' := by
  rcases Nat.eq_zero_or_pos n with h0 | h0
  · subst h0
    obtain ⟨ao, ac, rfl, -⟩ := hv.shape
    rw [nd_zero]
    have HD : Hid (Lib.decDigits 0 = [48]) := decDigits_small (by decide)
    clear hv
    go_enter Tryz.func75, Tryz.ntmps75
    go_wp2
    go_ret
    exact ⟨by rw [HD.out]; rfl, Below.refl _ _⟩
  · exact Text_pos v n w hv h0 hn
end Go.Proofs.YteajinpfigejfaaGreatDoor
namespace Go.Proofs.YteajinpfigejfaaGreatDoor
open Go Go.RowKit Gu

theorem New_neg (n : Int) (w : World) (hn : n < 0) :
    Calls Tryz.prog 13 #[.int .i64 n] w fun e w' => e = .returned (.tuple #[.agg #[.slice none 0 0], .int .i64 2]) ∧ Below w.heap.size w w' := by
  go_enter Tryz.func13, Tryz.ntmps13
  go_wp2
  refine bodyPost_ret (v := .tuple #[.agg #[.slice none 0 0], .int .i64 2]) (by simp [results, Tryz.results13, go_sem]) rfl ⟨rfl, ?_⟩
  exact (Below.refl _ _).alloc (Nat.le_refl _) _
end Go.Proofs.YteajinpfigejfaaGreatDoor
namespace Go.Proofs.YteajinpfigejfaaGreatDoor
open Go Go.RowKit Gu

/-- a number as an int, and whether it is one -/
def intN (n : Nat) : Nat := if n ≤ 9223372036854775807 then n else 0
def intB (n : Nat) : Bool := decide (n ≤ 9223372036854775807)
theorem nd63 {n : Nat} : nd 2 n ≤ 63 ↔ n ≤ 9223372036854775807 := by
  rw [nd_le (by decide)]; omega
theorem Int_any (v : Value) (n : Nat) (w : World) (hv : D w v n) (hn : nd 4294967296 n ≤ 1048576) :
    Calls Tryz.prog 16 #[.agg #[v]] w fun e w' => e = .returned (.tuple #[.int .i64 (intN n), .bool (intB n)]) ∧ Below w.heap.size w w' := by
  by_cases hb : n ≤ 9223372036854775807
  · rw [show intN n = n from if_pos hb, show intB n = true from by simp [intB, hb]]
    exact Int_small v n w hv hb
  · rw [show intN n = 0 from if_neg hb, show intB n = false from by simp [intB]; omega]
    have HL := Lib.hid (fun o => bitLen_any v n (w.alloc o) (hv.below ((Below.refl _ _).alloc (Nat.le_refl _) _)) hn)
    obtain ⟨ao, ac, rfl, -⟩ := hv.shape
    have h63 : (64 : Int) ≤ ((nd 2 n : Nat) : Int) := by have := (nd63 (n := n)).1; omega
    generalize nd 2 n = L at *
    clear hv
    go_enter Tryz.func16, Tryz.ntmps16
    go_wp2_with fail
    refine (HL.out _).mono ?_
    rintro e w1 ⟨rfl, rfl⟩
    go_wp2
    go_ret2
    exact ⟨rfl, (Below.refl _ _).alloc (Nat.le_refl _) _⟩
theorem power_any (n : Nat) (w : World) (hn : n ≤ 16) :
    Calls Tryz.prog 80 #[.int .i64 n] w fun e w' => e = .returned (.int .i64 (2 ^ n : Nat)) ∧ w = w' := by
  have HP : Hid (∀ k, k ≤ n → 2 ^ k ≤ 65536) := fun k hk => Nat.le_trans (Nat.pow_le_pow_right (by decide) (show k ≤ 16 by omega)) (by decide)
  go_enter Tryz.func80, Tryz.ntmps80
  go_wp2
  go_loopw [3, 4] (fun x i wr => ∃ k : Nat, k ≤ n ∧ x = .int .i64 (2 ^ k : Nat) ∧ i = .int .i64 k ∧ wr = w) (fun _ i _ => (n - intOf i).toNat)
  case atStart => exact ⟨0, Nat.zero_le _, rfl, rfl, rfl⟩
  case round =>
    obtain ⟨k, hk, rfl, rfl, rfl⟩ := hrel
    have hp := HP.out k hk
    have HS : Hid (((2 ^ (k + 1) : Nat) : Int) = 2 * ((2 ^ k : Nat) : Int)) := by show _ = _; rw [Nat.pow_succ]; omega
    rcases Nat.eq_or_lt_of_le hk with h | h
    · subst h
      clear HS
      go_wp2
      go_ret
      exact ⟨rfl, rfl⟩
    · generalize 2 ^ k = x at *
      go_wp2
      go_roundw
      case rel => exact ⟨k + 1, by omega, congrArg _ HS.out.symm, by go_num, by trivial⟩
      case measure => simp [intOf]; omega
end Go.Proofs.YteajinpfigejfaaGreatDoor
namespace Go.Proofs.YteajinpfigejfaaGreatDoor
open Go Go.RowKit Gu

/-- a binary digit, 0 for a negative place -/
def bitN (n : Nat) (i : Int) : Nat := if i < 0 then 0 else dg 2 n i.toNat
set_option maxHeartbeats 1000000 in
theorem RBit_any (v : Value) (n : Nat) (i : Int) (w : World) (hv : R w v n) (hi : i ≤ 9223372036854775807) (hn : nd 65536 n ≤ 1048576) :
    Calls Tryz.prog 79 #[v, .int .i64 i] w fun e w' => e = .returned (.int .i64 (bitN n i)) ∧ Below w.heap.size w w' := by
  obtain ⟨ao, ac, rfl, hcv⟩ := hv.shape
  clear hv
  by_cases h0 : i < 0
  · have HN : Hid (bitN n i = 0) := if_pos h0
    clear hcv
    go_enter Tryz.func79, Tryz.ntmps79
    go_wp2
    go_ret
    exact ⟨by rw [HN.out]; rfl, Below.refl _ _⟩
  · obtain ⟨j, rfl⟩ : ∃ j : Nat, i = j := ⟨i.toNat, by omega⟩
    have HN : Hid (bitN n j = dg 2 n j) := by show _ = _; rw [bitN, if_neg h0, Int.toNat_natCast]
    have HT := Lib.hid (dg_two 16 n j (by decide))
    rw [show (2 ^ 16 : Nat) = 65536 from by decide] at HT
    by_cases hj : j < 16 * nd 65536 n
    · obtain ⟨gb, go, rfl, hca⟩ := hcv (j / 16) (by omega)
      have hjl : (j : Int) < 16 * ((nd 65536 n : Nat) : Int) := by omega
      obtain ⟨q, hqd⟩ : ∃ q, j / 16 = q := ⟨_, rfl⟩
      obtain ⟨r, hrd⟩ : ∃ r, j % 16 = r := ⟨_, rfl⟩
      rw [hqd] at HT hca
      rw [hrd] at HT
      have hq : (j : Int) / 16 = q := by omega
      have hr : (j : Int) % 16 = r := by omega
      have HP := Lib.hid (fun w => power_any r w (by omega))
      have hd := dg_lt (B := 65536) (by decide) n q
      have hpp : 0 < 2 ^ r := Nat.pow_pos (by decide)
      have hpl : 2 ^ r ≤ 65536 := Nat.le_trans (Nat.pow_le_pow_right (by decide) (show r ≤ 16 by omega)) (by decide)
      have hql : (q : Int) < ((nd 65536 n : Nat) : Int) := by omega
      clear hcv h0 hqd hrd
      generalize dg 65536 n q = d at *
      generalize 2 ^ r = p at *
      have HE : Hid ((wrap64 ((d : Int) / (p : Int))).tmod 2 = ((dg 2 n j : Nat) : Int)) := by
        show _ = _
        have e1 : (d : Int) / p = ((d / p : Nat) : Int) := by rw [Int.natCast_ediv]
        have e2 : d / p ≤ d := Nat.div_le_self _ _
        rw [e1, HT.out]
        generalize d / p = x at *
        rw [IntWalk.wrap64_in _ (by omega), Int.tmod_eq_emod_of_nonneg (by omega)]
        omega
      have hp0 : ¬ (p : Int) = 0 := by omega
      go_enter Tryz.func79, Tryz.ntmps79
      go_wp2_with fail
      go_quiet (first | (go_at_call 80; exact Calls.quiet_of_same ((HP.out _).mono fun _ _ ⟨h, h'⟩ => ⟨h, h'.symm⟩)))
      go_wp2
      rw [HE.out]
      go_ret
      exact ⟨by rw [HN.out]; rfl, below_drewN (Below.refl _ _) _⟩
    · have hjl : ¬ (j : Int) < 16 * ((nd 65536 n : Nat) : Int) := by omega
      have hz : dg 2 n j = 0 := by
        refine dg_high (B := 2) (k := 16 * nd 65536 n) (by decide) ?_ (by omega)
        have := nd_lt (by decide : 2 ≤ 65536) n
        rw [Nat.pow_mul]; exact this
      have HZ := Lib.hid hz
      clear hcv hz
      go_enter Tryz.func79, Tryz.ntmps79
      go_wp2
      go_ret
      exact ⟨by rw [HN.out, HZ.out]; rfl, Below.refl _ _⟩
theorem lt_ten {n t : Nat} (h : nd 65536 n ≤ 3 * t) : n < 10 ^ (15 * t) := by
  have h1 := (nd_le (by decide : 2 ≤ 65536)).1 h
  rw [Nat.pow_mul] at h1 ⊢
  exact Nat.lt_of_lt_of_le h1 (Nat.pow_le_pow_left (by decide) _)
theorem fit_len {n m : Nat} (h : nd 65536 n ≤ m) : nd 2 n ≤ 16 * m := by
  have h1 := (nd_le (by decide : 2 ≤ 65536)).1 h
  apply (nd_le (by decide : 2 ≤ 2)).2
  rw [Nat.pow_mul]
  exact h1
theorem fit_ok {n : Nat} (h : nd 65536 n ≤ 1024) : nd 2 n ≤ 16384 := fit_len h
theorem nd_32 {n m : Nat} (h : nd 65536 n ≤ m) : nd 4294967296 n ≤ m := by
  have h1 := (nd_le (by decide : 2 ≤ 65536)).1 h
  exact (nd_le (by decide : 2 ≤ 4294967296)).2 (Nat.lt_of_lt_of_le h1 (Nat.pow_le_pow_left (by decide) _))
theorem made_any (v : Value) (n : Nat) (w : World) (hv : R w v n) (hn : nd 65536 n ≤ 1024) :
    Calls Tryz.prog 59 #[v] w fun e w' => ∃ r, e = .returned (.tuple #[.agg #[r], .bool true]) ∧ D w' r n ∧ Below w.heap.size w w' := by
  have hlen := dec_len_le (by decide) (lt_ten (t := 342) (by omega : nd 65536 n ≤ 3 * 342))
  have b1 : ∀ o, Below w.heap.size w (w.alloc o) := fun o => (Below.refl _ _).alloc (Nat.le_refl _) _
  have HT := Lib.hid (fun o => Text_any v n (w.alloc o) (hv.below (b1 o)) (by omega))
  have HP := Lib.hid (fun w => Parse_num ⟨(Lib.decDigits n).toArray⟩ w (by rw [← len_data]; exact Nat.le_trans hlen (by decide)) (isNum_dec n))
  have hsv : sval (Lib.decDigits n) = n := sval_dec n
  have hd : (⟨(Lib.decDigits n).toArray⟩ : ByteArray).data.toList = Lib.decDigits n := rfl
  rw [hd, hsv, show fitE n = 0 from if_pos (fit_ok hn), show fitN n = n from if_pos (fit_ok hn)] at HP
  obtain ⟨S, hS⟩ : ∃ S : ByteArray, S = ⟨(Lib.decDigits n).toArray⟩ := ⟨_, rfl⟩
  rw [← hS] at HT HP
  obtain ⟨ao, ac, rfl, -⟩ := hv.shape
  clear hv hS hsv hd hlen
  go_enter Tryz.func59, Tryz.ntmps59
  go_wp2_with fail
  refine (HT.out _).mono ?_
  rintro e w1 ⟨rfl, hb⟩
  obtain ⟨hc, hf⟩ := bcell hb
  have hz := hb.size
  simp only [World.size_alloc] at hz
  have HB := Lib.hid ((b1 _).trans (hb.mono (by simp)))
  have HC := Lib.hid hb
  clear hb
  go_wp2_with fail
  refine (HP.out _).mono ?_
  rintro e w2 ⟨r, rfl, hr, hb⟩
  obtain ⟨hc2, hf2⟩ := bcell hb
  have hz2 := hb.size
  have HB2 := Lib.hid (HB.out.trans (hb.mono HB.out.size))
  have HD := Lib.hid hr
  obtain ⟨ro, rc, rfl, -⟩ := hr.shape
  have hx : w2.cell? ⟨w.heap.size, 0, none⟩ = some (.slice none 0 0) := ((hc2 _ _ (by omega)).trans (hc _ _ (by simp))).trans (World.cell?_alloc_at _ _ _ _ rfl)
  have hy : w2.frozen? ⟨w.heap.size, 0, none⟩ = false := ((hf2 _ _ (by omega)).trans (hf _ _ (by simp))).trans (by simp)
  have hne : w.heap.size ≠ w2.heap.size := by omega
  have hx2 : ∀ o, (w2.alloc o).cell? ⟨w.heap.size, 0, none⟩ = some (.slice none 0 0) := fun o => (((Below.refl w2.heap.size w2).alloc (Nat.le_refl _) o).cell (p := ⟨w.heap.size, 0, none⟩) (show w.heap.size < w2.heap.size by omega)).trans hx
  have hy2 : ∀ o, (w2.alloc o).frozen? ⟨w.heap.size, 0, none⟩ = false := fun o => (((Below.refl w2.heap.size w2).alloc (Nat.le_refl _) o).frozen (p := ⟨w.heap.size, 0, none⟩) (show w.heap.size < w2.heap.size by omega)).trans hy
  have HX := Lib.hid hx2
  clear hr hb hc hf hc2 hf2
  go_wp2
  refine bodyPost_ret (v := .tuple #[.agg #[.slice ro (nd 4294967296 n) rc], .bool true]) (by simp [results, Tryz.results59, go_sem, hx2]) rfl ⟨_, rfl, (HD.out.below ((Below.refl _ _).alloc (Nat.le_refl _) _)).setCell (HX.out _) (by intro d h; cases h) _, (HB2.out.alloc HB2.out.size _).setCell (Nat.le_refl _) _⟩
end Go.Proofs.YteajinpfigejfaaGreatDoor
namespace Go.Proofs.YteajinpfigejfaaGreatDoor
open Go Go.RowKit Gu

theorem Trim_none (w : World) : Calls Tryz.prog 58 #[.slice none 0 0] w fun e w' => e = .returned (.slice none 0 0) ∧ w = w' := by
  go_enter Tryz.func58, Tryz.ntmps58
  go_wp2
  go_loop [3] (fun n => n = .int .i64 0) (fun _ => 0)
  case atStart => rfl
  case round =>
    subst hrel
    go_wp2
    go_ret
    exact ⟨rfl, rfl⟩
theorem Trim_own (base k X : Nat) (v : Value) (w : World) (h : Own .i64 65536 3 w base v k X) (hX : X < 65536 ^ k) (hk : k ≤ 4611686018427387904) :
    Calls Tryz.prog 58 #[v] w fun e w' => ∃ r, e = .returned r ∧ R w' r X ∧ w = w' := by
  rcases h.shape with ⟨rfl, rfl⟩ | ⟨g, cap, rfl, _, _, hm, hc, hcell⟩
  · obtain rfl : X = 0 := by rw [Nat.pow_zero] at hX; omega
    exact (Trim_none w).mono fun e w' ⟨he, hw⟩ => ⟨_, he, IsN.zero _ _ _ _ _, hw⟩
  · refine (Trim_any g k cap X w hcell hX hk hm).mono fun e w' ⟨he, hw⟩ => ⟨_, he, ?_, hw⟩
    rw [← hw]
    rcases Nat.eq_zero_or_pos X with h0 | h0
    · subst h0; rw [nd_zero]; exact IsN.zero _ _ _ _ _
    · exact .inr ⟨h0, g, 0, cap, rfl, fun i hi => by rw [Nat.zero_add]; exact hcell i (Nat.lt_of_lt_of_le hi ((nd_le (by decide)).2 hX))⟩
/-- a slice of digits that came in -/
def IsRaw (w : World) (v : Value) (xs : List Nat) : Prop :=
  Dig 65536 xs ∧ ((xs = [] ∧ ∃ ao c, v = .slice ao 0 c) ∨ ∃ b o c, v = .slice (some ⟨b, o, none⟩) xs.length c ∧ ∀ i (h : i < xs.length), w.cell? ⟨b, o + i, none⟩ = some (.int .u16 (xs[i] : Nat)))
theorem IsRaw.shape {w : World} {v : Value} {xs : List Nat} (h : IsRaw w v xs) : ∃ ao c, v = .slice ao xs.length c ∧ ∀ i (h : i < xs.length), ∃ b o, ao = some ⟨b, o, none⟩ ∧ w.cell? ⟨b, o + i, none⟩ = some (.int .u16 (xs[i] : Nat)) := by
  rcases h.2 with ⟨rfl, ao, c, rfl⟩ | ⟨b, o, c, rfl, hc⟩
  · exact ⟨ao, c, rfl, fun i h => by simp at h⟩
  · exact ⟨_, c, rfl, fun i h => ⟨b, o, rfl, hc i h⟩⟩
/-- the number that the first m digits make -/
def rawN (xs : List Nat) (m : Nat) : Nat := val 65536 (xs.take m)
theorem rawN_lt {xs : List Nat} (h : Dig 65536 xs) {k : Nat} (hk : k ≤ xs.length) : rawN xs k < 65536 ^ k := by
  have := val_lt (h.take k)
  rw [List.length_take, Nat.min_eq_left hk] at this
  exact this
theorem rawN_nd {xs : List Nat} (h : Dig 65536 xs) (m : Nat) : nd 65536 (rawN xs m) ≤ m := by
  apply (nd_le (by decide : 2 ≤ 65536)).2
  have := val_lt (h.take m)
  refine Nat.lt_of_lt_of_le this (Nat.pow_le_pow_right (by decide) ?_)
  rw [List.length_take]; omega
/-- what the loop of Raw keeps -/
def RawRel (xs : List Nat) (w : World) (k : Nat) (v : Value) (wr : World) : Prop :=
  Own .i64 65536 3 wr w.heap.size v k (rawN xs k) ∧ Below w.heap.size w wr
set_option maxHeartbeats 1000000 in
set_option maxRecDepth 100000 in
theorem Raw_any (v : Value) (xs : List Nat) (most : Nat) (w : World) (hv : IsRaw w v xs) (_hlen : xs.length ≤ maxLen) (hm : most ≤ 1048576) :
    Calls Tryz.prog 28 #[v, .int .i64 most] w fun e w' => ∃ r, e = .returned r ∧ R w' r (rawN xs most) ∧ Below w.heap.size w w' := by
  obtain ⟨i0, hi, hz0, hz1, hz2⟩ := info_parts Tryz.infoInt
  have HDg := Lib.hid hv.1
  obtain ⟨ao, c, rfl, hcv⟩ := hv.shape
  have HC := Lib.hid hcv
  obtain ⟨K, hK⟩ : ∃ K, K = min xs.length most := ⟨_, rfl⟩
  have hL : Hid (rawN xs K = rawN xs most) := by
    show _ = _
    rw [hK]; unfold rawN
    rcases Nat.le_total xs.length most with h | h
    · rw [Nat.min_eq_left h, List.take_of_length_le (Nat.le_refl _), List.take_of_length_le h]
    · rw [Nat.min_eq_right h]
  have hKl : K ≤ xs.length := by omega
  have hKm : K ≤ most := by omega
  have hKe : K = xs.length ∨ K = most := by omega
  have HKE := Lib.hid hKe
  unfold maxLen at _hlen
  clear hv hcv hK hKe
  obtain ⟨L, hxl⟩ : ∃ L, xs.length = L := ⟨_, rfl⟩
  have HXL := Lib.hid hxl
  rw [hxl] at _hlen hKl HKE ⊢
  clear hxl
  go_enter Tryz.func28, Tryz.ntmps28
  go_wp2
  go_loopg [5, 6] K (fun m out x wr => ∃ k, Hid (m + k = K) ∧ x = .int .i64 k ∧ RawRel xs w k out wr)
  case atStart => exact ⟨0, rfl, rfl, by unfold rawN; exact Own.nil _ _ _ _ _, Below.refl _ _⟩
  case round =>
    obtain ⟨k, HKK, rfl, hown, hbel⟩ := hrel
    have hkK : k ≤ K := by have := HKK.out; omega
    by_cases hlt : k < K
    · have h1 : (k : Int) < L := by omega
      have h2 : (k : Int) < most := by omega
      have hkx : k < xs.length := by rw [HXL.out]; omega
      obtain ⟨gb, go, rfl, hca⟩ := HC.out k hkx
      have hd : xs[k] < 65536 := HDg.out k hkx
      have hca' : wr.cell? ⟨gb, go + k, none⟩ = some (.int .u16 (xs[k] : Nat)) := by
        rw [hbel.cell (p := ⟨gb, go + k, none⟩) (World.block_lt_of_cell? _ _ hca)]; exact hca
      have HPS : Hid (pad 65536 (k + 1) (rawN xs (k + 1)) = pad 65536 k (rawN xs k) ++ [xs[k]]) := by
        show _ = _
        unfold rawN
        rw [val_take_succ _ _ _ hkx]
        exact pad_succ (by decide) (rawN_lt HDg.out (by omega)) hd
      have HB := Lib.hid hbel
      have hltw := hown.lt
      have HLT := Lib.hid hltw
      have hsz := hbel.size
      unfold Own at hown
      clear hca hbel hltw
      generalize xs[k] = d at *
      go_wp2_with (at_builtin; refine wpList_append_own _ rfl _ _ 27 rfl w.heap.size 3 i0 (.int .i64 0) 1 8 Tryz.underlying27 hi hz0 hz1 hz2 rfl (by decide) _ _ _ rfl (hown.alloc _) ⟨wr.heap.size, 0, none⟩ 1 1 [.int .i64 (d : Int)] rfl rfl ?c1 ?c2 ?c3 ?c4 ?c5 ?_)
      case c1 => exact cell_one_new _ _ _
      case c2 => intro u hu; simp at hu; subst hu; rfl
      case c3 => unfold maxLen; omega
      case c4 => omega
      case c5 => simp; omega
      intro v' w4 hown4 hgrow hnil
      have HFIN : Hid (RawRel xs w (k + 1) v' w4) := by
        refine ⟨?_, ?_⟩
        · unfold Own
          rw [HPS.out, List.map_append]
          exact hown4
        · refine Below.grown (HB.out.alloc (by omega) _) hgrow (by simp; omega) ?_
          intro j hj
          exact (HLT.out _ hj).1
      clear hown4 hgrow hnil hown
      go_wp2
      go_roundg (K - (k + 1))
      case measure => have := HKK.out; omega
      case rel => exact ⟨k + 1, by show _ = _; omega, by go_num, HFIN.out⟩
    · obtain rfl : k = K := by omega
      have HT := Lib.hid (Trim_own _ _ _ _ _ hown (rawN_lt HDg.out (by rw [HXL.out]; omega)) (by omega))
      have HB := Lib.hid hbel
      have hor : ¬ (k : Int) < L ∨ ¬ (k : Int) < most := by have := HKE.out; omega
      have h3 : ((decide ((k : Int) < L)) && (decide ((k : Int) < most))) = false := by
        rcases hor with h | h <;> simp [h]
      clear hown hbel
      rcases hor with h | h
      · clear h3
        go_wp2_with fail
        refine HT.out.mono ?_
        rintro e w5 ⟨r, rfl, hr, rfl⟩
        obtain ⟨ro, rc, rfl, -⟩ := hr.shape
        have HR := Lib.hid hr
        clear hr
        go_wp2
        go_ret
        exact ⟨_, rfl, by rw [← hL.out]; exact HR.out, HB.out⟩
      · clear h3
        by_cases h4 : (k : Int) < L
        all_goals
          go_wp2_with fail
          refine HT.out.mono ?_
          rintro e w5 ⟨r, rfl, hr, rfl⟩
          obtain ⟨ro, rc, rfl, -⟩ := hr.shape
          have HR := Lib.hid hr
          clear hr
          go_wp2
          go_ret
          exact ⟨_, rfl, by rw [← hL.out]; exact HR.out, HB.out⟩
end Go.Proofs.YteajinpfigejfaaGreatDoor
namespace Go.Proofs.YteajinpfigejfaaGreatDoor
open Go Go.RowKit Gu

theorem Rat_any (v : Value) (n i : Nat) (w : World) (h : R w v n) (hn : nd 65536 n ≤ 4611686018427387904) :
    Calls Tryz.prog 76 #[v, .int .i64 i] w fun e w' => e = .returned (.int .i64 (dg 65536 n i)) ∧ w = w' := by
  rcases h with ⟨h0, ao, cap, hv⟩ | ⟨h0, b, o, cap, hv, hc⟩
  · subst h0; subst hv
    go_enter Tryz.func76, Tryz.ntmps76
    go_wp2
    go_ret
    exact ⟨by rw [dg_zero]; rfl, rfl⟩
  · subst hv
    have hB : 2 ≤ 65536 := by decide
    have hx := dg_lt (B := 65536) (by decide) n i
    by_cases hlt : i < nd 65536 n
    · have hci := hc i hlt
      clear hc
      generalize hd : dg 65536 n i = d at *
      generalize hm : nd 65536 n = m at *
      clear hd hm
      go_enter Tryz.func76, Tryz.ntmps76
      go_wp2
      go_ret
      exact ⟨rfl, rfl⟩
    · have hz : dg 65536 n i = 0 := dg_high (by decide) (nd_lt hB n) (by omega)
      clear hc
      rw [hz]
      generalize hm : nd 65536 n = m at *
      clear hm hz hx
      go_enter Tryz.func76, Tryz.ntmps76
      go_wp2
      go_ret
      exact ⟨rfl, rfl⟩
theorem lt_of_div {a b P : Nat} (h : a / P < b / P) : a < b := by
  rcases Nat.lt_or_ge a b with h1 | h1
  · exact h1
  · have := Nat.div_le_div_right (c := P) h1; omega
set_option maxHeartbeats 1000000 in
theorem RCmp_any (v u : Value) (a b : Nat) (w : World) (hv : R w v a) (hu : R w u b) (ha : nd 65536 a ≤ 1048576) (_hb : nd 65536 b ≤ 1048576) :
    Calls Tryz.prog 10 #[v, u] w fun e w' => e = .returned (.int .i64 (cmpN a b)) ∧ ∃ k, w' = w.drewN k := by
  have hB : 2 ≤ 65536 := by decide
  obtain ⟨ao, ac, rfl, hca⟩ := hv.shape
  obtain ⟨bo, bc, rfl, hcb⟩ := hu.shape
  clear hv hu
  rcases Nat.lt_trichotomy (nd 65536 a) (nd 65536 b) with hl | hl | hl
  · have hlt : a < b := by
      rcases Nat.lt_or_ge a b with h | h
      · exact h
      · have := nd_mono hB h; omega
    have HN : Hid (cmpN a b = -1) := cmpN_lt (by omega)
    clear hca hcb hlt
    generalize nd 65536 a = la at *
    generalize nd 65536 b = lb at *
    have hl' : (la : Int) < lb := by omega
    go_enter Tryz.func10, Tryz.ntmps10
    go_wp2
    go_ret
    exact ⟨by rw [HN.out]; rfl, 0, rfl⟩
  · have hla := nd_lt hB a
    have hlb := nd_lt hB b
    rw [← hl] at hlb hcb ⊢
    have HA := Lib.hid hla; have HBd := Lib.hid hlb
    clear hla hlb hl _hb
    generalize nd 65536 a = n at *
    go_enter Tryz.func10, Tryz.ntmps10
    go_wp2
    go_loopw [5] (fun i wr => ∃ k : Nat, k ≤ n ∧ i = .int .i64 ((k : Int) - 1) ∧ Hid (a / 65536 ^ k = b / 65536 ^ k) ∧ ∃ q, wr = w.drewN q) (fun i _ => (intOf i + 1).toNat)
    case atStart => exact ⟨n, Nat.le_refl _, rfl, by show _ = _; rw [Nat.div_eq_of_lt HA.out, Nat.div_eq_of_lt HBd.out], 0, rfl⟩
    case round =>
      obtain ⟨k, hk, rfl, HE, q, rfl⟩ := hrel
      cases k with
      | zero =>
        rw [show ((0 : Nat) : Int) - 1 = -1 from rfl]
        have HN : Hid (cmpN a b = 0) := by
          show _ = _
          have := HE.out
          rw [Nat.pow_zero, Nat.div_one, Nat.div_one] at this
          exact cmpN_eq (by omega)
        clear hca hcb
        go_wp2
        go_ret
        exact ⟨by rw [HN.out]; rfl, q, rfl⟩
      | succ k =>
        rw [show ((k + 1 : Nat) : Int) - 1 = k from by omega]
        obtain ⟨ga, oa, rfl, h1⟩ := hca k (by omega)
        obtain ⟨gb, ob, rfl, h2⟩ := hcb k (by omega)
        have HDa := Lib.hid (div_succ 65536 a k)
        have HDb := Lib.hid (div_succ 65536 b k)
        have hkn : (k : Int) < n := by omega
        clear hca hcb
        generalize dg 65536 a k = da at *
        generalize dg 65536 b k = db at *
        rcases Nat.lt_trichotomy da db with h | h | h
        · have HN : Hid (cmpN a b = -1) := by
            show _ = _
            have : a < b := lt_of_div (P := 65536 ^ k) (by rw [HDa.out, HDb.out, HE.out]; omega)
            exact cmpN_lt (by omega)
          have h' : (da : Int) < db := by omega
          go_wp2
          go_quiet (fail)
          go_wp2
          go_ret
          refine ⟨by rw [HN.out]; rfl, ?_⟩
          simp only [World.drewN_drewN]
          exact ⟨_, rfl⟩
        · subst h
          have HS : Hid (a / 65536 ^ k = b / 65536 ^ k) := by show _ = _; rw [HDa.out, HDb.out, HE.out]
          go_wp2
          go_quiet (fail)
          go_wp2
          go_quiet (fail)
          go_wp2
          go_roundw
          case rel => exact ⟨k, by omega, by go_num, HS, by first | exact ⟨_, rfl⟩ | (simp only [World.drewN_drewN]; exact ⟨_, rfl⟩)⟩
          case measure => simp [intOf]
        · have HN : Hid (cmpN a b = 1) := by
            show _ = _
            have : b < a := lt_of_div (P := 65536 ^ k) (by rw [HDa.out, HDb.out, HE.out]; omega)
            exact cmpN_gt (by omega)
          have h' : (db : Int) < da := by omega
          have h'' : ¬ (da : Int) < db := by omega
          go_wp2
          go_quiet (fail)
          go_wp2
          go_quiet (fail)
          go_wp2
          go_ret
          refine ⟨by rw [HN.out]; rfl, ?_⟩
          simp only [World.drewN_drewN]
          exact ⟨_, rfl⟩
  · have hlt : b < a := by
      rcases Nat.lt_or_ge b a with h | h
      · exact h
      · have := nd_mono hB h; omega
    have HN : Hid (cmpN a b = 1) := cmpN_gt (by omega)
    clear hca hcb hlt
    generalize nd 65536 a = la at *
    generalize nd 65536 b = lb at *
    have hl' : (lb : Int) < la := by omega
    go_enter Tryz.func10, Tryz.ntmps10
    go_wp2
    go_ret
    exact ⟨by rw [HN.out]; rfl, 0, rfl⟩
end Go.Proofs.YteajinpfigejfaaGreatDoor
namespace Go.Proofs.YteajinpfigejfaaGreatDoor
open Go Go.RowKit Gu

/-- what the loop of Add keeps: k digits are out, the carry -/
def AddRel (a b : Nat) (w : World) (k X c : Nat) (v : Value) (wr : World) : Prop :=
  c ≤ 1 ∧ X < 65536 ^ k ∧ X + 65536 ^ k * c = a % 65536 ^ k + b % 65536 ^ k ∧ Own .i64 65536 3 wr w.heap.size v k X ∧ Below w.heap.size w wr
/-- how many digits a sum has -/
theorem sum_top {B a b M : Nat} (hB : 2 ≤ B) (ha : a < B ^ M) (hb : b < B ^ M) : a + b < B ^ (M + 1) := by
  rw [Nat.pow_succ]
  have := Nat.mul_le_mul_left (B ^ M) hB
  omega
theorem add_len {a b la lb k : Nat} (ha : nd 65536 a = la) (hb : nd 65536 b = lb) (hX : a + b < 65536 ^ k) (h1 : la ≤ k) (h2 : lb ≤ k)
    (h : k ≤ la ∨ k ≤ lb ∨ (0 < k ∧ 65536 ^ (k - 1) ≤ a + b)) : nd 65536 (a + b) = k := by
  have hB : 2 ≤ 65536 := by decide
  have hle := (nd_le hB).2 hX
  rcases Nat.eq_or_lt_of_le hle with h3 | h3
  · exact h3
  · exfalso
    have h4 := nd_mono hB (show a ≤ a + b by omega)
    have h5 := nd_mono hB (show b ≤ a + b by omega)
    rcases h with h | h | ⟨h0, h⟩
    · omega
    · omega
    · have := (nd_le hB (n := a + b) (k := k - 1)).1 (by omega)
      omega
set_option maxHeartbeats 2000000 in
set_option maxRecDepth 100000 in
theorem RAdd_any (v u : Value) (a b : Nat) (w : World) (hv : R w v a) (hu : R w u b) (ha : nd 65536 a ≤ 1048576) (hb : nd 65536 b ≤ 1048576) :
    Calls Tryz.prog 43 #[v, u] w fun e w' => ∃ r, e = .returned r ∧ R w' r (a + b) ∧ Below w.heap.size w w' := by
  obtain ⟨i0, hi, hz0, hz1, hz2⟩ := info_parts Tryz.infoInt
  have hB : 2 ≤ 65536 := by decide
  obtain ⟨ao, ac, rfl, -⟩ := hv.shape
  obtain ⟨bo, bc, rfl, -⟩ := hu.shape
  have HV := Lib.hid hv; have HU := Lib.hid hu
  clear hv hu
  have HAl := Lib.hid (nd_lt hB a); have HBl := Lib.hid (nd_lt hB b)
  have HNa : Hid (nd 65536 a ≤ 4611686018427387904) := by show _ ≤ _; omega
  have HNb : Hid (nd 65536 b ≤ 4611686018427387904) := by show _ ≤ _; omega
  obtain ⟨la, hla⟩ : ∃ la, nd 65536 a = la := ⟨_, rfl⟩
  obtain ⟨lb, hlb⟩ : ∃ lb, nd 65536 b = lb := ⟨_, rfl⟩
  have HLA := Lib.hid hla; have HLB := Lib.hid hlb
  rw [hla] at ha HV HAl ⊢
  rw [hlb] at hb HU HBl ⊢
  clear hla hlb
  obtain ⟨M, hM1, hM2, hM3⟩ : ∃ M, la ≤ M ∧ lb ≤ M ∧ (M = la ∨ M = lb) := ⟨max la lb, by omega, by omega, by omega⟩
  have HM3 := Lib.hid hM3
  have hM : M ≤ 1048576 := by omega
  clear hM3
  go_enter Tryz.func43, Tryz.ntmps43
  go_wp2
  go_loopg [5, 6, 7] (M + 1) (fun m out c i wr => ∃ k X cc : Nat, Hid (m + k = M + 1) ∧ i = .int .i64 k ∧ c = .int .i64 cc ∧ AddRel a b w k X cc out wr ∧ Hid (k ≤ M ∨ (65536 ^ M ≤ a + b ∧ cc = 0)))
  case atStart => exact ⟨0, 0, 0, rfl, rfl, rfl, ⟨by omega, by simp, by simp [Nat.mod_one], Own.nil _ _ _ _ _, Below.refl _ _⟩, .inl (Nat.zero_le _)⟩
  case round =>
    obtain ⟨k, X, c, HK, rfl, rfl, hrel, HKM⟩ := hrel
    have hc1 : c ≤ 1 := hrel.1
    have hk1 : k ≤ M + 1 := by have := HK.out; omega
    by_cases hcont : k < la ∨ k < lb ∨ 0 < c
    · have hkM : k ≤ M := by
        rcases HKM.out with h | ⟨_, h⟩
        · exact h
        · omega
      obtain ⟨-, hX, hsum, hown, hbel⟩ := hrel
      have hA := Lib.hid (Rat_any _ a k wr (HV.out.below hbel) HNa.out)
      have hB' := Lib.hid (Rat_any _ b k wr (HU.out.below hbel) HNb.out)
      have hda := dg_lt (B := 65536) (by decide) a k
      have hdb := dg_lt (B := 65536) (by decide) b k
      have hd : (c + dg 65536 a k + dg 65536 b k) % 65536 < 65536 := Nat.mod_lt _ (by decide)
      have HSR := Lib.hid (sum_round (B := 65536) hsum)
      have HPS := Lib.hid (pad_succ (by decide) hX hd)
      have HLT2 := Lib.hid (snoc_lt hX hd)
      have HKM2 : Hid (k + 1 ≤ M ∨ (65536 ^ M ≤ a + b ∧ (c + dg 65536 a k + dg 65536 b k) / 65536 = 0)) := by
        show _ ∨ _
        rcases Nat.lt_or_ge k M with h | h
        · exact .inl h
        · refine .inr ?_
          have hkM2 : k = M := by omega
          subst hkM2
          have h1 : a < 65536 ^ k := Nat.lt_of_lt_of_le HAl.out (Nat.pow_le_pow_right (by decide) hM1)
          have h2 : b < 65536 ^ k := Nat.lt_of_lt_of_le HBl.out (Nat.pow_le_pow_right (by decide) hM2)
          rw [Nat.mod_eq_of_lt h1, Nat.mod_eq_of_lt h2] at hsum
          have hcc : c = 1 := by omega
          subst hcc
          refine ⟨by omega, ?_⟩
          have h3 : dg 65536 a k = 0 := dg_high (by decide) h1 (Nat.le_refl _)
          have h4 : dg 65536 b k = 0 := dg_high (by decide) h2 (Nat.le_refl _)
          rw [h3, h4]
      have HB := Lib.hid hbel
      have hltw := hown.lt
      have HLT := Lib.hid hltw
      have hsz := hbel.size
      unfold Own at hown
      clear hbel hltw hsum hX
      generalize dg 65536 a k = da at *
      generalize dg 65536 b k = db at *
      have HE : Hid ((((c + da + db) % 65536 : Nat) : Int) = (c + (da + db) : Int) % 65536) := by show _ = _; omega
      have HE2 : Hid ((((c + da + db) / 65536 : Nat) : Int) = (c + (da + db) : Int) / 65536) := by show _ = _; omega
      have hcond : (k : Int) < la ∨ (¬ (k : Int) < la ∧ (k : Int) < lb) ∨ (¬ (k : Int) < la ∧ ¬ (k : Int) < lb ∧ (0 : Int) < c) := by omega
      clear hcont
      rcases hcond with hcond | ⟨hcond0, hcond⟩ | ⟨hcond0, hcond1, hcond⟩
      all_goals
        go_wp2_with fail
        refine hA.out.mono ?_
        rintro e w' ⟨rfl, rfl⟩
        go_wp2_with fail
        refine hB'.out.mono ?_
        rintro e w' ⟨rfl, rfl⟩
        go_wp2_with (at_builtin; refine wpList_append_own _ rfl _ _ 27 rfl w.heap.size 3 i0 (.int .i64 0) 1 8 Tryz.underlying27 hi hz0 hz1 hz2 rfl (by decide) _ _ _ rfl (hown.alloc _) ⟨wr.heap.size, 0, none⟩ 1 1 [.int .i64 ((c + (da + db) : Int) % 65536)] rfl rfl ?c1 ?c2 ?c3 ?c4 ?c5 ?_)
        case c1 => exact cell_one_new _ _ _
        case c2 => intro u hu; simp at hu; subst hu; rfl
        case c3 => unfold maxLen; omega
        case c4 => omega
        case c5 => simp; omega
        intro v' w4 hown4 hgrow hnil
        have HFIN : Hid (AddRel a b w (k + 1) (X + 65536 ^ k * ((c + da + db) % 65536)) ((c + da + db) / 65536) v' w4) := by
          refine ⟨by omega, HLT2.out, HSR.out, ?_, ?_⟩
          · unfold Own
            rw [HPS.out, List.map_append]
            show w4.ownsRow _ _ _ _ _ (_ ++ [Value.int .i64 (((c + da + db) % 65536 : Nat) : Int)])
            rw [HE.out]
            exact hown4
          · refine Below.grown (HB.out.alloc (by omega) _) hgrow (by simp; omega) ?_
            intro j hj
            exact (HLT.out _ hj).1
        clear hown4 hgrow hnil
        go_wp2
        go_roundg (M + 1 - (k + 1))
        case measure => have := HK.out; omega
        case rel => exact ⟨k + 1, _, _, by show _ = _; omega, by go_num, congrArg _ HE2.out.symm, HFIN.out, HKM2.out⟩
    · have hk : la ≤ k ∧ lb ≤ k ∧ c = 0 := by omega
      obtain ⟨hk2, hk3, hc0⟩ := hk
      subst hc0
      obtain ⟨-, hX, hsum, hown, hbel⟩ := hrel
      have h1 : a < 65536 ^ k := Nat.lt_of_lt_of_le HAl.out (Nat.pow_le_pow_right (by decide) hk2)
      have h2 : b < 65536 ^ k := Nat.lt_of_lt_of_le HBl.out (Nat.pow_le_pow_right (by decide) hk3)
      rw [Nat.mod_eq_of_lt h1, Nat.mod_eq_of_lt h2, Nat.mul_zero, Nat.add_zero] at hsum
      subst hsum
      have hnd : nd 65536 (a + b) = k := by
        refine add_len HLA.out HLB.out hX hk2 hk3 ?_
        rcases HKM.out with h | ⟨h, _⟩
        · have := HM3.out; omega
        · rcases Nat.lt_or_ge k (M + 1) with h' | h'
          · have := HM3.out; omega
          · have : k = M + 1 := by omega
            subst this
            exact .inr (.inr ⟨by omega, h⟩)
      have HIS := Lib.hid (hown.isN (by decide) hnd)
      have HB := Lib.hid hbel
      have hn1 : ¬ (k : Int) < la := by omega
      have hn2 : ¬ (k : Int) < lb := by omega
      clear hX hown hbel hcont
      go_wp2
      go_ret
      exact ⟨_, rfl, HIS.out, HB.out⟩
end Go.Proofs.YteajinpfigejfaaGreatDoor
namespace Go.Proofs.YteajinpfigejfaaGreatDoor
open Go Go.RowKit Gu

/-- what the loop of Sub keeps: k digits are out, the borrow -/
def SbRel (a b : Nat) (w : World) (k X br : Nat) (v : Value) (wr : World) : Prop :=
  br ≤ 1 ∧ X < 65536 ^ k ∧ X + b % 65536 ^ k = a % 65536 ^ k + 65536 ^ k * br ∧ Own .i64 65536 3 wr w.heap.size v k X ∧ Below w.heap.size w wr
set_option maxHeartbeats 2000000 in
set_option maxRecDepth 100000 in
theorem RSub_any (v u : Value) (a b : Nat) (w : World) (hv : R w v a) (hu : R w u b) (ha : nd 65536 a ≤ 1048576) (hb : nd 65536 b ≤ 1048576) (hle : b ≤ a) :
    Calls Tryz.prog 42 #[v, u] w fun e w' => ∃ r, e = .returned r ∧ R w' r (a - b) ∧ Below w.heap.size w w' := by
  obtain ⟨i0, hi, hz0, hz1, hz2⟩ := info_parts Tryz.infoInt
  have hB : 2 ≤ 65536 := by decide
  obtain ⟨ao, ac, rfl, hcv⟩ := hv.shape
  obtain ⟨bo, bc, rfl, -⟩ := hu.shape
  have HU := Lib.hid hu
  have HC := Lib.hid hcv
  have HAB := Lib.hid hle
  clear hv hu hcv hle
  have HAl := Lib.hid (nd_lt hB a)
  have HNb : Hid (nd 65536 b ≤ 4611686018427387904) := by show _ ≤ _; omega
  generalize nd 65536 a = la at *
  obtain ⟨lb, hlb⟩ : ∃ lb, nd 65536 b = lb := ⟨_, rfl⟩
  rw [hlb] at hb HU ⊢
  clear hlb
  go_enter Tryz.func42, Tryz.ntmps42
  go_wp2
  go_loopg [5, 6, 7] la (fun m out c i wr => ∃ k X br : Nat, Hid (m + k = la) ∧ i = .int .i64 k ∧ c = .int .i64 br ∧ SbRel a b w k X br out wr)
  case atStart => exact ⟨0, 0, 0, rfl, rfl, rfl, by omega, by simp, by simp [Nat.mod_one], Own.nil _ _ _ _ _, Below.refl _ _⟩
  case round =>
    obtain ⟨k, X, br, HK, rfl, rfl, hrel⟩ := hrel
    have hkl : k ≤ la := by have := HK.out; omega
    obtain ⟨hbr, hX, hsum, hown, hbel⟩ := hrel
    by_cases hlt : k < la
    · have hlt' : (k : Int) < la := by omega
      have hB' := Lib.hid (fun q => Rat_any _ b k (wr.drewN q) (HU.out.below (below_drewN hbel q)) HNb.out)
      obtain ⟨gb, go, rfl, hca⟩ := HC.out k hlt
      have hca' : wr.cell? ⟨gb, go + k, none⟩ = some (.int .i64 (dg 65536 a k : Nat)) := by
        rw [hbel.cell (p := ⟨gb, go + k, none⟩) (World.block_lt_of_cell? _ _ hca)]; exact hca
      have hda := dg_lt (B := 65536) (by decide) a k
      have hdb := dg_lt (B := 65536) (by decide) b k
      obtain ⟨d, br', hd, hd1, hd2, hneg⟩ : ∃ d br' : Nat, d + dg 65536 b k + br = dg 65536 a k + 65536 * br' ∧ d < 65536 ∧ br' ≤ 1 ∧ ((br' = 1 ∧ (dg 65536 a k : Int) - (dg 65536 b k : Nat) - br < 0) ∨ (br' = 0 ∧ 0 ≤ (dg 65536 a k : Int) - (dg 65536 b k : Nat) - br)) := by
        by_cases h : dg 65536 b k + br ≤ dg 65536 a k
        · exact ⟨dg 65536 a k - dg 65536 b k - br, 0, by omega, by omega, by omega, .inr ⟨rfl, by omega⟩⟩
        · exact ⟨dg 65536 a k + 65536 - dg 65536 b k - br, 1, by omega, by omega, by omega, .inl ⟨rfl, by omega⟩⟩
      have HSR := Lib.hid (sub_round (B := 65536) hsum hd)
      have HPS := Lib.hid (pad_succ (by decide) hX hd1)
      have HLT2 := Lib.hid (snoc_lt hX hd1)
      have HB := Lib.hid hbel
      have hltw := hown.lt
      have HLT := Lib.hid hltw
      have hsz := hbel.size
      unfold Own at hown
      clear hbel hltw hsum hX hca
      generalize dg 65536 a k = da at *
      generalize dg 65536 b k = db at *
      rcases hneg with ⟨rfl, hneg⟩ | ⟨rfl, hneg⟩
      · go_wp2_with fail
        go_quiet ((go_at_call 76; exact Calls.quiet_of_same ((hB'.out _).mono fun _ _ ⟨h, h'⟩ => ⟨h, h'.symm⟩)))
        have hown' := ownsRow_below hown (below_drewN (Below.refl wr.heap.size wr) nq)
        have hsz2 : w.heap.size ≤ (wr.drewN nq).heap.size := by have := (below_drewN (Below.refl wr.heap.size wr) nq).size; omega
        have HB2 : Hid (Below w.heap.size w (wr.drewN nq)) := below_drewN HB.out nq
        have HLT3 := Lib.hid hown'.lt
        have HD : Hid (((d : Nat) : Int) = (da : Int) - db - br + 65536) := by show _ = _; omega
        generalize wr.drewN nq = wq at *
        go_wp2_with (at_builtin; refine wpList_append_own _ rfl _ _ 27 rfl w.heap.size 3 i0 (.int .i64 0) 1 8 Tryz.underlying27 hi hz0 hz1 hz2 rfl (by decide) _ _ _ rfl (hown'.alloc _) ⟨wq.heap.size, 0, none⟩ 1 1 [.int .i64 ((da : Int) - db - br + 65536)] rfl rfl ?c1 ?c2 ?c3 ?c4 ?c5 ?_)
        case c1 => exact cell_one_new _ _ _
        case c2 => intro u hu; simp at hu; subst hu; rfl
        case c3 => unfold maxLen; omega
        case c4 => omega
        case c5 => simp; omega
        intro v' w4 hown4 hgrow hnil
        have HFIN : Hid (SbRel a b w (k + 1) (X + 65536 ^ k * d) 1 v' w4) := by
          refine ⟨by omega, HLT2.out, HSR.out, ?_, ?_⟩
          · unfold Own
            rw [HPS.out, List.map_append]
            show w4.ownsRow _ _ _ _ _ (_ ++ [Value.int .i64 ((d : Nat) : Int)])
            rw [HD.out]
            exact hown4
          · refine Below.grown (HB2.out.alloc (by omega) _) hgrow (by simp; omega) ?_
            intro j hj
            exact (HLT3.out _ hj).1
        clear hown4 hgrow hnil
        go_wp2
        go_roundg (la - (k + 1))
        case measure => have := HK.out; omega
        case rel => exact ⟨k + 1, _, 1, by show _ = _; omega, by go_num, rfl, HFIN.out⟩
      · go_wp2_with fail
        go_quiet ((go_at_call 76; exact Calls.quiet_of_same ((hB'.out _).mono fun _ _ ⟨h, h'⟩ => ⟨h, h'.symm⟩)))
        have hown' := ownsRow_below hown (below_drewN (Below.refl wr.heap.size wr) nq)
        have hsz2 : w.heap.size ≤ (wr.drewN nq).heap.size := by have := (below_drewN (Below.refl wr.heap.size wr) nq).size; omega
        have HB2 : Hid (Below w.heap.size w (wr.drewN nq)) := below_drewN HB.out nq
        have HLT3 := Lib.hid hown'.lt
        have HD : Hid (((d : Nat) : Int) = (da : Int) - db - br) := by show _ = _; omega
        generalize wr.drewN nq = wq at *
        go_wp2_with (at_builtin; refine wpList_append_own _ rfl _ _ 27 rfl w.heap.size 3 i0 (.int .i64 0) 1 8 Tryz.underlying27 hi hz0 hz1 hz2 rfl (by decide) _ _ _ rfl (hown'.alloc _) ⟨wq.heap.size, 0, none⟩ 1 1 [.int .i64 ((da : Int) - db - br)] rfl rfl ?c1 ?c2 ?c3 ?c4 ?c5 ?_)
        case c1 => exact cell_one_new _ _ _
        case c2 => intro u hu; simp at hu; subst hu; rfl
        case c3 => unfold maxLen; omega
        case c4 => omega
        case c5 => simp; omega
        intro v' w4 hown4 hgrow hnil
        have HFIN : Hid (SbRel a b w (k + 1) (X + 65536 ^ k * d) 0 v' w4) := by
          refine ⟨by omega, HLT2.out, HSR.out, ?_, ?_⟩
          · unfold Own
            rw [HPS.out, List.map_append]
            show w4.ownsRow _ _ _ _ _ (_ ++ [Value.int .i64 ((d : Nat) : Int)])
            rw [HD.out]
            exact hown4
          · refine Below.grown (HB2.out.alloc (by omega) _) hgrow (by simp; omega) ?_
            intro j hj
            exact (HLT3.out _ hj).1
        clear hown4 hgrow hnil
        go_wp2
        go_roundg (la - (k + 1))
        case measure => have := HK.out; omega
        case rel => exact ⟨k + 1, _, 0, by show _ = _; omega, by go_num, rfl, HFIN.out⟩
    · obtain rfl : k = la := by omega
      have hb1 : b < 65536 ^ k := Nat.lt_of_le_of_lt HAB.out HAl.out
      rw [Nat.mod_eq_of_lt HAl.out, Nat.mod_eq_of_lt hb1] at hsum
      have hb0 : br = 0 := by
        rcases Nat.lt_or_ge br 1 with h | h
        · omega
        · have h1 : br = 1 := by omega
          subst h1
          have := HAB.out
          rw [Nat.mul_one] at hsum
          omega
      subst hb0
      have hXe : X = a - b := by rw [Nat.mul_zero] at hsum; omega
      subst hXe
      have HT := Lib.hid (Trim_own _ _ _ _ _ hown hX (by omega))
      have HB := Lib.hid hbel
      clear hown hbel hsum hX
      go_wp2_with fail
      refine HT.out.mono ?_
      rintro e w5 ⟨r, rfl, hr, rfl⟩
      obtain ⟨ro, rc, rfl, -⟩ := hr.shape
      have HR := Lib.hid hr
      clear hr
      go_wp2
      go_ret
      exact ⟨_, rfl, HR.out, HB.out⟩
end Go.Proofs.YteajinpfigejfaaGreatDoor
namespace Go.Proofs.YteajinpfigejfaaGreatDoor
open Go Go.RowKit Gu

theorem NCmp_any (v u : Value) (a b : Nat) (w : World) (hv : D w v a) (hu : D w u b) (ha : nd 4294967296 a ≤ 1048576) (hb : nd 4294967296 b ≤ 1048576) :
    Calls Tryz.prog 19 #[.agg #[v], .agg #[u]] w fun e w' => e = .returned (.int .i64 (cmpN a b)) ∧ Below w.heap.size w w' := by
  have b2 : ∀ o1 o2, Below w.heap.size w ((w.alloc o1).alloc o2) := fun o1 o2 => ((Below.refl _ _).alloc (Nat.le_refl _) _).alloc (by simp) _
  have HC := Lib.hid (fun o1 o2 => compare_any v u a b ((w.alloc o1).alloc o2) (hv.below (b2 o1 o2)) (hu.below (b2 o1 o2)) ha hb)
  have HB2 := Lib.hid b2
  obtain ⟨ao, ac, rfl, -⟩ := hv.shape
  obtain ⟨bo, bc, rfl, -⟩ := hu.shape
  clear hv hu b2
  go_enter Tryz.func19, Tryz.ntmps19
  go_wp2_with fail
  refine (HC.out _ _).mono ?_
  rintro e w1 ⟨rfl, q, rfl⟩
  go_wp2
  go_ret
  exact ⟨rfl, below_drewN (HB2.out _ _) q⟩
theorem third_cell {w w2 : World} {o1 o2 : Obj} {T : TypeId} {q : Nat} (hb : Below ((((w.alloc o1).alloc o2).alloc (.cells #[.slice none 0 0] T)).drewN q).heap.size ((((w.alloc o1).alloc o2).alloc (.cells #[.slice none 0 0] T)).drewN q) w2) :
    w2.cell? ⟨w.heap.size + 1 + 1, 0, none⟩ = some (.slice none 0 0) ∧ w2.frozen? ⟨w.heap.size + 1 + 1, 0, none⟩ = false := by
  have h1 := below_drewN (Below.refl (((w.alloc o1).alloc o2).alloc (.cells #[.slice none 0 0] T)).heap.size (((w.alloc o1).alloc o2).alloc (.cells #[.slice none 0 0] T))) q
  have hlt : w.heap.size + 1 + 1 < (((w.alloc o1).alloc o2).alloc (.cells #[.slice none 0 0] T)).heap.size := by simp
  exact ⟨(hb.cell (p := ⟨w.heap.size + 1 + 1, 0, none⟩) (Nat.lt_of_lt_of_le hlt h1.size)).trans ((h1.cell (p := ⟨w.heap.size + 1 + 1, 0, none⟩) hlt).trans (World.cell?_alloc_at _ _ _ _ (by simp))),
    (hb.frozen (p := ⟨w.heap.size + 1 + 1, 0, none⟩) (Nat.lt_of_lt_of_le hlt h1.size)).trans ((h1.frozen (p := ⟨w.heap.size + 1 + 1, 0, none⟩) hlt).trans (World.frozen?_alloc_at _ _ _ _ (by simp)))⟩
def subE (a b : Nat) : Int := if a < b then 10 else 0
theorem pair_cells {w w2 : World} {T : TypeId} (hb : Below ((w.alloc (.cells #[.slice none 0 0] T)).alloc (.cells #[.slice none 0 0] T)).heap.size ((w.alloc (.cells #[.slice none 0 0] T)).alloc (.cells #[.slice none 0 0] T)) w2) :
    (w2.cell? ⟨w.heap.size, 0, none⟩ = some (.slice none 0 0) ∧ w2.frozen? ⟨w.heap.size, 0, none⟩ = false) ∧ (w2.cell? ⟨w.heap.size + 1, 0, none⟩ = some (.slice none 0 0) ∧ w2.frozen? ⟨w.heap.size + 1, 0, none⟩ = false) := by
  have h0 : Below (w.alloc (.cells #[.slice none 0 0] T)).heap.size (w.alloc (.cells #[.slice none 0 0] T)) ((w.alloc (.cells #[.slice none 0 0] T)).alloc (.cells #[.slice none 0 0] T)) := (Below.refl _ _).alloc (Nat.le_refl _) _
  have l1 : w.heap.size < (w.alloc (.cells #[.slice none 0 0] T)).heap.size := by simp
  have l2 : w.heap.size < ((w.alloc (.cells #[.slice none 0 0] T)).alloc (.cells #[.slice none 0 0] T)).heap.size := by simp; omega
  have l3 : w.heap.size + 1 < ((w.alloc (.cells #[.slice none 0 0] T)).alloc (.cells #[.slice none 0 0] T)).heap.size := by simp
  exact ⟨⟨(hb.cell (p := ⟨w.heap.size, 0, none⟩) l2).trans ((h0.cell (p := ⟨w.heap.size, 0, none⟩) l1).trans (World.cell?_alloc_at _ _ _ _ rfl)), (hb.frozen (p := ⟨w.heap.size, 0, none⟩) l2).trans ((h0.frozen (p := ⟨w.heap.size, 0, none⟩) l1).trans (World.frozen?_alloc_at _ _ _ _ rfl))⟩,
    ⟨(hb.cell (p := ⟨w.heap.size + 1, 0, none⟩) l3).trans (World.cell?_alloc_at _ _ _ _ (by simp)), (hb.frozen (p := ⟨w.heap.size + 1, 0, none⟩) l3).trans (World.frozen?_alloc_at _ _ _ _ (by simp))⟩⟩
set_option maxHeartbeats 1000000 in
theorem two_any (v u : Value) (a b : Nat) (w : World) (hv : R w v a) (hu : R w u b) (ha : nd 65536 a ≤ 1024) (hb : nd 65536 b ≤ 1024) :
    Calls Tryz.prog 29 #[v, u] w fun e w' => ∃ r s, e = .returned (.tuple #[.agg #[r], .agg #[s], .bool true]) ∧ D w' r a ∧ D w' s b ∧ Below w.heap.size w w' := by
  have b2 : ∀ o1 o2, Below w.heap.size w ((w.alloc o1).alloc o2) := fun o1 o2 => ((Below.refl _ _).alloc (Nat.le_refl _) _).alloc (by simp) _
  have HM1 := Lib.hid (fun o1 o2 => made_any v a ((w.alloc o1).alloc o2) (hv.below (b2 o1 o2)) ha)
  have HM2 := Lib.hid (fun W h => made_any u b W h hb)
  have HU := Lib.hid (fun o1 o2 => hu.below (b2 o1 o2))
  have HB2 := Lib.hid b2
  obtain ⟨ao, ac, rfl, -⟩ := hv.shape
  obtain ⟨bo, bc, rfl, -⟩ := hu.shape
  clear hv hu b2
  go_enter Tryz.func29, Tryz.ntmps29
  go_wp2_with fail
  refine (HM1.out _ _).mono ?_
  rintro e w1 ⟨r, rfl, hr, hb1⟩
  obtain ⟨ro, rc, rfl, -⟩ := hr.shape
  obtain ⟨⟨p1, p2⟩, ⟨p3, p4⟩⟩ := pair_cells hb1
  have hz1 := hb1.size
  simp only [World.size_alloc] at hz1
  have hx1 : Below w1.heap.size w1 (w1.alloc (.cells #[.slice ro (nd 4294967296 a) rc] 42)) := (Below.refl _ _).alloc (Nat.le_refl _) _
  have HB1 := Lib.hid (((HB2.out _ _).trans (hb1.mono (HB2.out _ _).size)).alloc ((HB2.out _ _).trans (hb1.mono (HB2.out _ _).size)).size (.cells #[.slice ro (nd 4294967296 a) rc] 42))
  have HU1 := Lib.hid (((HU.out _ _).below hb1).below hx1)
  have HR1 := Lib.hid (hr.below hx1)
  have HX1 := Lib.hid hx1
  have P1 := Lib.hid p1; have P2 := Lib.hid p2; have P3 := Lib.hid p3; have P4 := Lib.hid p4
  clear hr hb1 hx1 p1 p2 p3 p4
  go_wp2_with fail
  refine (HM2.out _ HU1.out).mono ?_
  rintro e w2 ⟨s, rfl, hs, hb2⟩
  obtain ⟨so, sc, rfl, -⟩ := hs.shape
  have hz2 := hb2.size
  simp only [World.size_alloc] at hz2
  have hx2 : ∀ o, Below w2.heap.size w2 (w2.alloc o) := fun o => (Below.refl _ _).alloc (Nat.le_refl _) _
  have hall : ∀ o, Below w1.heap.size w1 (w2.alloc o) := fun o => (HX1.out.trans (hb2.mono (by simp))).trans ((hx2 o).mono (by omega))
  have c1 : ∀ o, (w2.alloc o).cell? ⟨w.heap.size, 0, none⟩ = some (.slice none 0 0) := fun o => ((hall o).cell (p := ⟨w.heap.size, 0, none⟩) (show w.heap.size < w1.heap.size by omega)).trans P1.out
  have c2 : ∀ o, (w2.alloc o).frozen? ⟨w.heap.size, 0, none⟩ = false := fun o => ((hall o).frozen (p := ⟨w.heap.size, 0, none⟩) (show w.heap.size < w1.heap.size by omega)).trans P2.out
  have c3 : ∀ o, (w2.alloc o).cell? ⟨w.heap.size + 1, 0, none⟩ = some (.slice none 0 0) := fun o => ((hall o).cell (p := ⟨w.heap.size + 1, 0, none⟩) (show w.heap.size + 1 < w1.heap.size by omega)).trans P3.out
  have c4 : ∀ o, (w2.alloc o).frozen? ⟨w.heap.size + 1, 0, none⟩ = false := fun o => ((hall o).frozen (p := ⟨w.heap.size + 1, 0, none⟩) (show w.heap.size + 1 < w1.heap.size by omega)).trans P4.out
  have c5 : ∀ o, (w2.alloc o).cell? ⟨w1.heap.size, 0, none⟩ = some (.slice ro (nd 4294967296 a) rc) := fun o =>
    ((hx2 o).cell (p := ⟨w1.heap.size, 0, none⟩) (show w1.heap.size < w2.heap.size by omega)).trans ((hb2.cell (p := ⟨w1.heap.size, 0, none⟩) (by simp)).trans (World.cell?_alloc_at _ _ _ _ rfl))
  have HD1 := Lib.hid (fun o => (HR1.out.below hb2).below (hx2 o))
  have HD2 := Lib.hid (fun o => hs.below (hx2 o))
  have HBF := Lib.hid (fun o => (HB1.out.trans (hb2.mono HB1.out.size)).alloc (HB1.out.trans (hb2.mono HB1.out.size)).size o)
  have C1 := Lib.hid c1; have C3 := Lib.hid c3
  clear hs hb2 hx2 hall
  have hne : (⟨w.heap.size, 0, none⟩ : Addr) ≠ ⟨w.heap.size + 1, 0, none⟩ := by intro e; injection e with e1; omega
  have d3 : ∀ o u, ((w2.alloc o).setCell ⟨w.heap.size, 0, none⟩ u).cell? ⟨w.heap.size + 1, 0, none⟩ = some (.slice none 0 0) := fun o u => (World.cell?_setCell_other _ _ _ _ hne).trans (c3 o)
  have D3 := Lib.hid d3
  have q0 : ∀ o u u', (((w2.alloc o).setCell ⟨w.heap.size, 0, none⟩ u).setCell ⟨w.heap.size + 1, 0, none⟩ u').cell? ⟨w.heap.size, 0, none⟩ = some u := fun o u u' => (World.cell?_setCell_other _ _ _ _ (fun e => hne e.symm)).trans (World.cell?_setCell_same _ _ _ (c1 o))
  have q1 : ∀ o u u', (((w2.alloc o).setCell ⟨w.heap.size, 0, none⟩ u).setCell ⟨w.heap.size + 1, 0, none⟩ u').cell? ⟨w.heap.size + 1, 0, none⟩ = some u' := fun o u u' => World.cell?_setCell_same _ _ _ (d3 o u)
  have Q0 := Lib.hid q0; have Q1 := Lib.hid q1
  clear d3 q0 q1 hne
  go_wp2
  go_region
  have q0 := Q0.out; have q1 := Q1.out
  go_wp2
  refine bodyPost_ret (v := .tuple #[.agg #[.slice ro (nd 4294967296 a) rc], .agg #[.slice so (nd 4294967296 b) sc], .bool true]) (by simp [results, Tryz.results29, go_sem, q0, q1]) rfl
    ⟨_, _, rfl, (((HD1.out _).setCell (C1.out _) (by intro d h; cases h) _).setCell (D3.out _ _) (by intro d h; cases h) _).below (Below.refl _ _).drew, (((HD2.out _).setCell (C1.out _) (by intro d h; cases h) _).setCell (D3.out _ _) (by intro d h; cases h) _).below (Below.refl _ _).drew, ?_⟩
  exact (((HBF.out _).setCell (Nat.le_refl _) _).setCell (Nat.le_succ _) _).drew
end Go.Proofs.YteajinpfigejfaaGreatDoor
namespace Go.Proofs.YteajinpfigejfaaGreatDoor
open Go Go.RowKit Gu

/-- a number of an earlier world, a step on -/
theorem rchain {W W' : World} {v : Value} {n : Nat} (hb : Below W.heap.size W W') (h : R W v n) : R W' v n := h.below hb
theorem dchain {W W' : World} {v : Value} {n : Nat} (hb : Below W.heap.size W W') (h : D W v n) : D W' v n := h.below hb
/-- boxes, the program's numbers, the document's numbers -/
structure Kp (cs : List (Nat × Value)) (ns rs : List (Value × Nat)) (w W : World) : Prop where
  num : ∀ p ∈ ns, D W p.1 p.2
  dig : ∀ p ∈ rs, R W p.1 p.2
  box : ∀ p ∈ cs, p.1 < W.heap.size ∧ W.cell? ⟨p.1, 0, none⟩ = some p.2
  env : Env W
  bel : Below w.heap.size w W
theorem IsRaw.below {w w' : World} {v : Value} {xs : List Nat} (h : IsRaw w v xs) (hb : Below w.heap.size w w') : IsRaw w' v xs := by
  refine ⟨h.1, ?_⟩
  rcases h.2 with h1 | ⟨b, o, c, hv, hc⟩
  · exact .inl h1
  · refine .inr ⟨b, o, c, hv, fun i hi => ?_⟩
    rw [hb.cell (p := ⟨b, o + i, none⟩) (World.block_lt_of_cell? _ _ (hc i hi))]
    exact hc i hi
section
variable {cs : List (Nat × Value)} {ns rs : List (Value × Nat)} {w W W' : World}
theorem Kp.start (he : Env w) : Kp [] [] [] w w := ⟨fun _ h => by simp at h, fun _ h => by simp at h, fun _ h => by simp at h, he, Below.refl _ _⟩
theorem Kp.next (h : Kp cs ns rs w W) (hb : Below W.heap.size W W') : Kp cs ns rs w W' :=
  ⟨fun p hp => (h.num p hp).below hb, fun p hp => (h.dig p hp).below hb, fun p hp => ⟨Nat.lt_of_lt_of_le (h.box p hp).1 hb.size, (hb.cell (p := ⟨p.1, 0, none⟩) (h.box p hp).1).trans (h.box p hp).2⟩, h.env.below hb, h.bel.trans (hb.mono h.bel.size)⟩
theorem Kp.drewN (h : Kp cs ns rs w W) (q : Nat) : Kp cs ns rs w (W.drewN q) := h.next (below_drewN (Below.refl _ _) q)
theorem Kp.drew (h : Kp cs ns rs w W) : Kp cs ns rs w W.drew := h.next (Below.refl _ _).drew
theorem Kp.addNum (h : Kp cs ns rs w W) {v : Value} {n : Nat} (hv : D W v n) : Kp cs ((v, n) :: ns) rs w W :=
  ⟨fun p hp => by
    rcases List.mem_cons.1 hp with rfl | hp
    · exact hv
    · exact h.num p hp, h.dig, h.box, h.env, h.bel⟩
theorem Kp.addDig (h : Kp cs ns rs w W) {v : Value} {n : Nat} (hv : R W v n) : Kp cs ns ((v, n) :: rs) w W :=
  ⟨h.num, fun p hp => by
    rcases List.mem_cons.1 hp with rfl | hp
    · exact hv
    · exact h.dig p hp, h.box, h.env, h.bel⟩
theorem Kp.alloc (h : Kp cs ns rs w W) (o : Obj) : Kp cs ns rs w (W.alloc o) := h.next ((Below.refl _ _).alloc (Nat.le_refl _) _)
/-- a variable gets its box -/
theorem Kp.boxed (h : Kp cs ns rs w W) (v : Value) (T : TypeId) : Kp ((W.heap.size, v) :: cs) ns rs w (W.alloc (.cells #[v] T)) :=
  ⟨(h.alloc _).num, (h.alloc _).dig, fun p hp => by
    rcases List.mem_cons.1 hp with rfl | hp
    · exact ⟨by simp, World.cell?_alloc_at _ _ _ _ rfl⟩
    · exact (h.alloc _).box p hp, (h.alloc _).env, (h.alloc _).bel⟩
theorem Kp.cell (h : Kp cs ns rs w W) {g : Nat} {v : Value} (hm : (g, v) ∈ cs) : W.cell? ⟨g, 0, none⟩ = some v := (h.box _ hm).2
theorem NCmp_K {v u : Value} {a b : Nat} (h : Kp cs ns rs w W) (h1 : (v, a) ∈ ns) (h2 : (u, b) ∈ ns) (ha : nd 4294967296 a ≤ 1048576) (hb : nd 4294967296 b ≤ 1048576) :
    Calls Tryz.prog 19 #[.agg #[v], .agg #[u]] W fun e w' => e = .returned (.int .i64 (cmpN a b)) ∧ Kp cs ns rs w w' :=
  (NCmp_any _ _ a b W (h.num _ h1) (h.num _ h2) ha hb).mono fun _ _ ⟨he, hB⟩ => ⟨he, h.next hB⟩
theorem RCmp_K {v u : Value} {a b : Nat} (h : Kp cs ns rs w W) (h1 : (v, a) ∈ rs) (h2 : (u, b) ∈ rs) (ha : nd 65536 a ≤ 1048576) (hb : nd 65536 b ≤ 1048576) :
    Calls Tryz.prog 10 #[v, u] W fun e w' => e = .returned (.int .i64 (cmpN a b)) ∧ Kp cs ns rs w w' :=
  (RCmp_any _ _ a b W (h.dig _ h1) (h.dig _ h2) ha hb).mono fun _ _ ⟨he, k, hw⟩ => ⟨he, by rw [hw]; exact h.drewN k⟩
theorem awake_K (h : Kp cs ns rs w W) : Calls Tryz.prog 7 #[] W fun e w' => e = .returned (.bool true) ∧ Kp cs ns rs w w' :=
  (awake_any W h.env).mono fun _ _ ⟨he, hB⟩ => ⟨he, h.next hB⟩
theorem Parse_dec (n : Nat) (hn : nd 65536 n ≤ 1024) :
    Calls Tryz.prog 31 #[.string ⟨(Lib.decDigits n).toArray⟩] W fun e w' => ∃ r, e = .returned (.tuple #[.agg #[r], .int .i64 0]) ∧ D w' r n ∧ Below W.heap.size W w' := by
  have hlen := dec_len_le (by decide) (lt_ten (t := 342) (by omega : nd 65536 n ≤ 3 * 342))
  have HP := Parse_num ⟨(Lib.decDigits n).toArray⟩ W (by rw [← len_data]; exact Nat.le_trans hlen (by decide)) (isNum_dec n)
  have hsv : sval (Lib.decDigits n) = n := sval_dec n
  have hd : (⟨(Lib.decDigits n).toArray⟩ : ByteArray).data.toList = Lib.decDigits n := rfl
  rw [hd, hsv, show fitE n = 0 from if_pos (fit_ok hn), show fitN n = n from if_pos (fit_ok hn)] at HP
  exact HP
theorem String_K {v : Value} {n : Nat} (h : Kp cs ns rs w W) (hv : (v, n) ∈ ns) (hn : nd 4294967296 n ≤ 100000) :
    Calls Tryz.prog 33 #[.agg #[v]] W fun e w' => e = .returned (.string ⟨(Lib.decDigits n).toArray⟩) ∧ Kp cs ns rs w w' :=
  (String_any v n W (h.num _ hv) hn h.env).mono fun _ _ ⟨he, hB⟩ => ⟨he, h.next hB⟩
theorem BitLen_K {v : Value} {n : Nat} (h : Kp cs ns rs w W) (hv : (v, n) ∈ ns) (hn : nd 4294967296 n ≤ 1048576) :
    Calls Tryz.prog 26 #[.agg #[v]] W fun e w' => e = .returned (.int .i64 (nd 2 n)) ∧ Kp cs ns rs w w' :=
  (BitLen_any v n W (h.num _ hv) hn).mono fun _ _ ⟨he, hB⟩ => ⟨he, h.next hB⟩
end
end Go.Proofs.YteajinpfigejfaaGreatDoor
namespace Go.Proofs.YteajinpfigejfaaGreatDoor
open Go Go.RowKit Gu

def divE (b : Nat) : Int := if b = 0 then 11 else 0
def modN (a b : Nat) : Nat := if b = 0 then 0 else a % b
end Go.Proofs.YteajinpfigejfaaGreatDoor
namespace Go.Proofs.YteajinpfigejfaaGreatDoor
open Go Go.RowKit Gu

theorem am_gm {r t m : Nat} (h : r + t ≤ 2 * m) : r * t ≤ m * m := by
  rcases Nat.le_total r m with h1 | h1
  · obtain ⟨d, rfl⟩ := Nat.exists_eq_add_of_le h1
    have e1 : r * t ≤ r * (r + 2 * d) := Nat.mul_le_mul_left _ (by omega)
    have e2 : r * (r + 2 * d) = r * r + 2 * (r * d) := by rw [Nat.mul_add, Nat.mul_left_comm]
    have e3 : (r + d) * (r + d) = r * r + r * d + (r * d + d * d) := by rw [Nat.add_mul, Nat.mul_add, Nat.mul_add, Nat.mul_comm d r]
    omega
  · obtain ⟨d, rfl⟩ := Nat.exists_eq_add_of_le h1
    obtain ⟨x, rfl⟩ : ∃ x, m = t + x := ⟨m - t, by omega⟩
    have e1 : (t + x + d) * t = t * t + t * x + t * d := by rw [Nat.add_mul, Nat.add_mul, Nat.mul_comm x t, Nat.mul_comm d t]
    have e2 : (t + x) * (t + x) = t * t + t * x + (t * x + x * x) := by rw [Nat.add_mul, Nat.mul_add, Nat.mul_add, Nat.mul_comm x t]
    have e3 : t * d ≤ t * x := Nat.mul_le_mul_left _ (by omega)
    omega
theorem newton {a r : Nat} (hr : 0 < r) (ha : 0 < a) : 0 < (r + a / r) / 2 ∧ a < ((r + a / r) / 2 + 1) * ((r + a / r) / 2 + 1) ∧ (r ≤ (r + a / r) / 2 → r * r ≤ a) := by
  have h1 : a < r * (a / r + 1) := Nat.lt_mul_div_succ a hr
  have h2 : r * (a / r) ≤ a := Nat.mul_div_le a r
  have h3 : r = 1 → a / r = a := fun h => by rw [h, Nat.div_one]
  generalize a / r = q at *
  refine ⟨?_, ?_, fun h => ?_⟩
  · rcases Nat.lt_or_ge 1 r with h | h
    · omega
    · have := h3 (by omega); omega
  · exact Nat.lt_of_lt_of_le h1 (am_gm (by omega))
  · exact Nat.le_trans (Nat.mul_le_mul_left _ (by omega)) h2
theorem sqrt_start {a : Nat} (_ha : 0 < a) : a < (1 * 2 ^ ((nd 2 a + 1) / 2) + 1) * (1 * 2 ^ ((nd 2 a + 1) / 2) + 1) := by
  have h := nd_lt (B := 2) (by decide) a
  rw [Nat.one_mul]
  have h1 : 2 ^ nd 2 a ≤ 2 ^ ((nd 2 a + 1) / 2) * 2 ^ ((nd 2 a + 1) / 2) := by rw [← Nat.pow_add]; exact Nat.pow_le_pow_right (by decide) (by omega)
  have h2 : 2 ^ ((nd 2 a + 1) / 2) * 2 ^ ((nd 2 a + 1) / 2) ≤ (2 ^ ((nd 2 a + 1) / 2) + 1) * (2 ^ ((nd 2 a + 1) / 2) + 1) := Nat.mul_le_mul (by omega) (by omega)
  omega
theorem sqrt_room {a : Nat} (ha : 0 < a) : 1 * 2 ^ ((nd 2 a + 1) / 2) < 4294967296 ^ (nd 4294967296 a + 1) := by
  have h1 := nd_pow_le (B := 2) (by decide) ha
  have h0 := nd_pos (B := 2) (by decide) ha
  have h2 := nd_lt (B := 4294967296) (by decide) a
  have h3 : 2 ^ ((nd 2 a + 1) / 2) ≤ 2 ^ (nd 2 a - 1 + 1) := Nat.pow_le_pow_right (by decide) (by omega)
  rw [Nat.pow_succ] at h3
  rw [Nat.pow_succ, Nat.one_mul]
  omega
/-- what a region keeps whose calls make memory: a number, and all that lay there when it began -/
structure St1 (W0 : World) (v : Value) (a : Nat) (W : World) : Prop where
  num : D W v a
  bel : Below W0.heap.size W0 W
theorem St1.next {W0 W W' : World} {v : Value} {a : Nat} (h : St1 W0 v a W) (hb : Below W.heap.size W W') : St1 W0 v a W' :=
  ⟨h.num.below hb, h.bel.trans (hb.mono h.bel.size)⟩
theorem St1.cell {W0 W : World} {v : Value} {a k : Nat} {x : Value} (h : St1 W0 v a W) (hk : k < W0.heap.size) (hc : W0.cell? ⟨k, 0, none⟩ = some x) : W.cell? ⟨k, 0, none⟩ = some x :=
  (h.bel.cell (p := ⟨k, 0, none⟩) hk).trans hc
theorem St1.frozen {W0 W : World} {v : Value} {a k : Nat} (h : St1 W0 v a W) (hk : k < W0.heap.size) (hc : W0.frozen? ⟨k, 0, none⟩ = false) : W.frozen? ⟨k, 0, none⟩ = false :=
  (h.bel.frozen (p := ⟨k, 0, none⟩) hk).trans hc
end Go.Proofs.YteajinpfigejfaaGreatDoor
