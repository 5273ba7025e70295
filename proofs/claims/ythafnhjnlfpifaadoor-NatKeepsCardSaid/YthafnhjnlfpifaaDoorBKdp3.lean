/- Contracts and lemmas (several texts merged into one). -/
import Derived.Test.YthafnhjnlfpifaaDoorBKdp2
import Derived.Laws.CopyOwn
import Derived.Deep.DeepMust
import Derived.Lib.ItoaNum
import Derived.Lib.Strings
import Derived.Lib.IndexBytes
import Derived.Lib.AppendIntMem
namespace Go.Proofs.YthafnhjnlfpifaaDoor
open Go Go.RowKit Gu

/-- a number's digits copied over a row of zeros -/
theorem copy_row {cur : List Value} {m x : Nat} (hz : ∀ i, i < m → cur[i]? = some (.int .u32 0)) (hx : x < 4294967296 ^ m) (i : Nat) (hi : i < m) :
    ((splice cur 0 ((pad 4294967296 (nd 4294967296 x) x).map fun d : Nat => Value.int .u32 (d : Int))).toArray)[i]? = some (.int .u32 (dg 4294967296 x i : Nat)) := by
  have hnd : nd 4294967296 x ≤ m := (nd_le (by decide)).2 hx
  have hl : ((pad 4294967296 (nd 4294967296 x) x).map fun d : Nat => Value.int .u32 (d : Int)).length = nd 4294967296 x := by simp [pad]
  simp only [splice, List.take_zero, List.nil_append, List.getElem?_toArray]
  by_cases h : i < nd 4294967296 x
  · rw [List.getElem?_append_left (by rw [hl]; exact h)]
    simp [pad, h]
  · rw [List.getElem?_append_right (by rw [hl]; omega), hl, List.getElem?_drop, show 0 + nd 4294967296 x + (i - nd 4294967296 x) = i from by omega, hz i hi]
    rw [dg_high (by decide) (nd_lt (by decide) x) (by omega)]
    rfl
theorem lz_pow {t : Nat} (h0 : 0 < t) (h : t < 4294967296) : Go.Lib.bitLen t ≤ 32 ∧ 0 < Go.Lib.bitLen t ∧ t * 2 ^ (32 - Go.Lib.bitLen t) < 4294967296 := by
  have h1 : Go.Lib.bitLen t ≤ 32 := Go.Lib.bitLen_le t 32 (by decide) (by simpa using h)
  have h2 : t < 2 ^ Go.Lib.bitLen t := (Go.Lib.bitLenAux_bounds 64 t (by omega) (by omega)).2.2
  refine ⟨h1, ?_, ?_⟩
  · rcases Nat.eq_zero_or_pos (Go.Lib.bitLen t) with h' | h'
    · rw [h'] at h2; simp at h2; omega
    · exact h'
  · have h3 : t * 2 ^ (32 - Go.Lib.bitLen t) < 2 ^ Go.Lib.bitLen t * 2 ^ (32 - Go.Lib.bitLen t) := Nat.mul_lt_mul_of_pos_right h2 (Nat.pow_pos (by decide))
    rw [← Nat.pow_add, show Go.Lib.bitLen t + (32 - Go.Lib.bitLen t) = 32 from by omega] at h3
    simpa using h3
/-- the divisor, shifted, has as many digits -/
theorem shl_nd {b s n : Nat} (hn : nd 4294967296 b = n) (hn2 : 2 ≤ n) (hs : dg 4294967296 b (n - 1) * 2 ^ s < 4294967296) (hs32 : s ≤ 32) : nd 4294967296 (b * 2 ^ s) = n := by
  have hB : 2 ≤ 4294967296 := by decide
  have hp : 0 < 2 ^ s := Nat.pow_pos (by decide)
  have h1 := nd_lt hB b
  rw [hn] at h1
  have hle : nd 4294967296 b ≤ nd 4294967296 (b * 2 ^ s) := nd_mono hB (Nat.le_mul_of_pos_right _ hp)
  have hge : nd 4294967296 (b * 2 ^ s) ≤ n := by
    apply (nd_le hB).2
    have e1 := div_succ 4294967296 b (n - 1)
    rw [show n - 1 + 1 = n from by omega, Nat.div_eq_of_lt h1, Nat.mul_zero, Nat.add_zero] at e1
    rw [← e1] at hs
    have e2 : b < (b / 4294967296 ^ (n - 1) + 1) * 4294967296 ^ (n - 1) := by
      have := Nat.lt_div_mul_add (Nat.pow_pos (n := n - 1) (by decide : 0 < 4294967296)) (a := b)
      rw [Nat.add_mul, Nat.one_mul]; exact this
    have e3 : b * 2 ^ s < ((b / 4294967296 ^ (n - 1) + 1) * 4294967296 ^ (n - 1)) * 2 ^ s := Nat.mul_lt_mul_of_pos_right e2 hp
    have e4 : (b / 4294967296 ^ (n - 1) + 1) * 2 ^ s ≤ 4294967296 := by
      have e6 := pow_dvd32 hs32
      have e7 : b / 4294967296 ^ (n - 1) * 2 ^ s < 2 ^ (32 - s) * 2 ^ s := by rw [Nat.mul_comm (2 ^ (32 - s)), ← e6]; exact hs
      have e8 := Nat.lt_of_mul_lt_mul_right e7
      have e9 : (b / 4294967296 ^ (n - 1) + 1) * 2 ^ s ≤ 2 ^ (32 - s) * 2 ^ s := Nat.mul_le_mul_right _ e8
      rw [Nat.mul_comm (2 ^ (32 - s)), ← e6] at e9
      exact e9
    have e5 : ((b / 4294967296 ^ (n - 1) + 1) * 4294967296 ^ (n - 1)) * 2 ^ s ≤ 4294967296 ^ n := by
      rw [Nat.mul_right_comm]
      refine Nat.le_trans (Nat.mul_le_mul_right _ e4) ?_
      rw [Nat.mul_comm, ← Nat.pow_succ]
      exact Nat.pow_le_pow_right (by decide) (by omega)
    omega
  omega
theorem Buf.grown {k : IntKind} {B : Nat} {T : TypeId} {w w' : World} {g gq m x : Nat} (h : Buf k B T w gq m x) (hb : w.grownBy w' (some g)) (hne : gq ≠ g) : Buf k B T w' gq m x :=
  World.rowIs.of_block h (hb.block gq (Buf.lt h) (by simp only [ne_eq, Option.some.injEq]; intro e; exact hne e))
/-- the arithmetic of one round -/
theorem long_digit {B x d k : Nat} (hd : 0 < d) : (x / B ^ k) % d = (dg B x k + B * ((x / B ^ (k + 1)) % d)) % d ∧ (x / B ^ k) / d = (dg B x k + B * ((x / B ^ (k + 1)) % d)) / d + B * ((x / B ^ (k + 1)) / d) := by
  have e1 := div_succ B x k
  have e2 := Nat.div_add_mod (x / B ^ (k + 1)) d
  generalize x / B ^ (k + 1) = y at *
  have e3 : x / B ^ k = dg B x k + B * (y % d) + d * (B * (y / d)) := by
    rw [e1]
    have : B * y = B * (d * (y / d)) + B * (y % d) := by rw [← Nat.mul_add, e2]
    rw [this, Nat.mul_left_comm]; omega
  rw [e3]
  exact ⟨Nat.add_mul_mod_self_left _ _ _, Nat.add_mul_div_left _ _ hd⟩
theorem long_lt {B x d k : Nat} (hB : 0 < B) (hd : 0 < d) : dg B x k + B * ((x / B ^ (k + 1)) % d) < d * B := by
  have h1 := dg_lt hB x k
  have h2 := Nat.mod_lt (x / B ^ (k + 1)) hd
  have h3 : B * ((x / B ^ (k + 1)) % d) + B ≤ B * d := by rw [← Nat.mul_succ]; exact Nat.mul_le_mul_left _ h2
  rw [Nat.mul_comm d]; omega
theorem long_shape {B x R n H k : Nat} : x % B ^ (k + 1) + B ^ (k + 1) * (R + B ^ n * H) = x % B ^ k + B ^ k * ((dg B x k + B * R) + B ^ (n + 1) * H) := by
  rw [mod_succ, Nat.pow_succ, Nat.mul_assoc, Nat.mul_add B, Nat.mul_add (B ^ k), Nat.mul_add (B ^ k), Nat.mul_add (B ^ k), Nat.pow_succ, Nat.mul_comm (B ^ n) B, Nat.mul_assoc B]
  omega
/-- what the loop of divideLong keeps: k digits of the quotient are still to come -/
def LongRel (x d n m : Nat) (g gq : Nat) (w : World) (k : Nat) (wr : World) : Prop :=
  ∃ H, Buf .u32 4294967296 54 wr g (m + n) (x % 4294967296 ^ k + 4294967296 ^ k * ((x / 4294967296 ^ k) % d + 4294967296 ^ n * H)) ∧
    Buf .u32 4294967296 54 wr gq m (0 + 4294967296 ^ k * ((x / 4294967296 ^ k) / d)) ∧ Below w.heap.size w wr
/-- what stands when the loop has ended -/
structure LongEnd (g gq n m q r : Nat) (w1 W : World) : Prop where
  bq : Buf .u32 4294967296 54 W gq m q
  br : ∀ i, i < n → W.cell? ⟨g, i, none⟩ = some (.int .u32 (dg 4294967296 r i : Nat))
  bel : Below w1.heap.size w1 W
  lt : g < W.heap.size
theorem LongEnd.next {g gq n m q r : Nat} {w1 W W' : World} (h : LongEnd g gq n m q r w1 W) (hb : Below W.heap.size W W') : LongEnd g gq n m q r w1 W' :=
  ⟨Gu.Buf.below h.bq hb (Gu.Buf.lt h.bq), fun i hi => (hb.cell (p := ⟨g, i, none⟩) h.lt).trans (h.br i hi), h.bel.trans (hb.mono h.bel.size), Nat.lt_of_lt_of_le h.lt hb.size⟩
theorem LongEnd.rest {g gq n m q r : Nat} {w1 W : World} (h : LongEnd g gq n m q r w1 W) (hr : r < 4294967296 ^ n) (cap : Nat) : D W (.slice (some ⟨g, 0, none⟩) (nd 4294967296 r) cap) r := by
  rcases Nat.eq_zero_or_pos r with h0 | h0
  · subst h0; rw [nd_zero]; exact IsN.zero _ _ _ _ _
  · exact .inr ⟨h0, g, 0, cap, rfl, fun i hi => by rw [Nat.zero_add]; exact h.br i (Nat.lt_of_lt_of_le hi ((nd_le (by decide)).2 hr))⟩
set_option maxHeartbeats 2000000 in
set_option maxRecDepth 100000 in
theorem divideLong_any (v u : Value) (a b : Nat) (w : World) (hv : D w v a) (hu : D w u b) (hab : b ≤ a) (hb2 : 2 ≤ nd 4294967296 b) (ha : nd 4294967296 a ≤ 400000) :
    Calls Tryd.prog 61 #[v, u] w fun e w' => ∃ q r, e = .returned (.tuple #[q, r]) ∧ D w' q (a / b) ∧ D w' r (a % b) ∧ Below w.heap.size w w' := by
  have hB : 2 ≤ 4294967296 := by decide
  have hnm := nd_mono hB hab
  have hb0 : 0 < b := by
    rcases Nat.eq_zero_or_pos b with h | h
    · subst h; rw [nd_zero] at hb2; omega
    · exact h
  have htop := dg_top hB hb0
  have htl := dg_lt (B := 4294967296) (by decide) b (nd 4294967296 b - 1)
  obtain ⟨l1, l2, l3⟩ := lz_pow htop htl
  obtain ⟨s, hs⟩ : ∃ s, s = 32 - Go.Lib.bitLen (dg 4294967296 b (nd 4294967296 b - 1)) := ⟨_, rfl⟩
  have hlz : (32 : Int) - (Go.Lib.bitLen (dg 4294967296 b (nd 4294967296 b - 1)) : Int) = s := by omega
  rw [← hs] at l3
  have hs31 : s ≤ 31 := by omega
  have hdn := shl_nd rfl hb2 l3 (by omega)
  have HLZ := Lib.hid (fun w => (Tryd.bits_LeadingZeros32 (dg 4294967296 b (nd 4294967296 b - 1) : Nat) w (by omega) (by omega)).mono (fun _ _ h => And.intro h.1 h.2.symm))
  rw [Int.toNat_natCast, hlz] at HLZ
  have HSB := Lib.hid (shiftLeft_any u b s w hu (by omega) (by omega))
  have HSA := Lib.hid (fun W (h : D W v a) => shiftLeft_any v a s W h (by omega) (by omega))
  have HV := Lib.hid hv
  obtain ⟨bo, bc, rfl, hcu⟩ := hu.shape
  obtain ⟨gb, go, rfl, hcb⟩ := hcu (nd 4294967296 b - 1) (by omega)
  obtain ⟨ao, ac, rfl, -⟩ := hv.shape
  have HDN := Lib.hid hdn
  clear hv hu hcu hab hs l1 l2 l3 hlz hdn
  have HND : Hid (nd 4294967296 a = nd 4294967296 a) := rfl
  generalize hna : nd 4294967296 a = la at *
  generalize hnb : nd 4294967296 b = n at *
  have HNA := Lib.hid hna; have HNB := Lib.hid hnb
  clear hna hnb HND
  generalize dg 4294967296 b (n - 1) = t at *
  have hmk1 := made_u32 (la + 1) (by omega)
  rw [show (((la + 1 : Nat)) : Int) = (la : Int) + 1 from by omega] at hmk1
  have hmk2 := made_u32 (la - n + 1) (by omega)
  rw [show (((la - n + 1 : Nat)) : Int) = (la : Int) - n + 1 from by omega] at hmk2
  go_enter Tryd.func61, Tryd.ntmps61
  go_wp2_with fail
  refine (HLZ.out _).mono ?_
  rintro e w' ⟨rfl, rfl⟩
  go_wp2_with fail
  refine HSB.out.mono ?_
  rintro e w1 ⟨dv, rfl, hd, hbel⟩
  have hz1 := hbel.size
  have HV1 := Lib.hid (HV.out.below (hbel.alloc hbel.size (.cells (madeCells #[.int .u32 0] (la + 1)) 54)))
  have hdb : ∀ bb o c l, dv = .slice (some ⟨bb, o, none⟩) l c → 0 < b * 2 ^ s → bb ≠ w1.heap.size := by
    intro bb o c l he h0
    rcases hd with ⟨h, _⟩ | ⟨_, b', o', c', he', hc'⟩
    · omega
    · rw [he'] at he
      simp only [Value.slice.injEq, Option.some.injEq, Addr.mk.injEq, and_true] at he
      obtain ⟨⟨rfl, rfl⟩, _, _⟩ := he
      have := World.block_lt_of_cell? _ _ (hc' 0 (nd_pos hB h0))
      exact Nat.ne_of_lt this
  have HDB := Lib.hid hdb
  clear hdb
  obtain ⟨d0, dc, rfl, -⟩ := hd.shape
  rw [HDN.out] at hd HDB ⊢
  have HD1 := Lib.hid hd
  have HB1 := Lib.hid hbel
  clear hd hbel hcb
  go_wp2_with fail
  refine (HSA.out _ HV1.out).mono ?_
  rintro e w2 ⟨av, rfl, hav, hbel⟩
  obtain ⟨a0, acc, rfl, -⟩ := hav.shape
  have hxl : a * 2 ^ s < 4294967296 ^ (la + 1) := by
    have h1 := nd_lt hB a
    rw [HNA.out] at h1
    rw [Nat.pow_succ]
    exact Nat.mul_lt_mul_of_lt_of_le h1 (Nat.le_trans (Nat.pow_le_pow_right (by decide) (show s ≤ 32 by omega)) (by decide)) (by decide)
  have hrow : Buf .u32 4294967296 54 w2 w1.heap.size (la + 1) 0 := (Buf.made .u32 4294967296 54 w1 (la + 1)).below hbel (by simp)
  obtain ⟨cur, hcur, hcsz, hcz⟩ := hrow
  have hcur' : w2.heap[w1.heap.size]? = some (.cells cur.toList.toArray 54 (0, 0)) := by rw [Array.toArray_toList]; exact hcur
  have HB12 := Lib.hid (((Below.refl w1.heap.size w1).alloc (Nat.le_refl _) (.cells (madeCells #[.int .u32 0] (la + 1)) 54)).trans (hbel.mono (by simp)))
  have HXL := Lib.hid hxl
  have HCPY := Lib.hid (fun i hi => copy_row (cur := cur.toList) (m := la + 1) (x := a * 2 ^ s) (fun i hi => by rw [Array.getElem?_toList, hcz i hi]; simp only [dg_zero]; rfl) hxl i hi)
  have HAV := Lib.hid hav
  have hnx : nd 4294967296 (a * 2 ^ s) ≤ la + 1 := (nd_le hB).2 hxl
  have hcl : cur.toList.length = la + 1 := by rw [Array.length_toList]; exact hcsz
  have hz2 := hbel.size
  simp only [World.size_alloc] at hz2
  clear hav hbel hxl hcur hcz hcsz HV1 HSA HLZ HV
  obtain ⟨CS, hCS⟩ : ∃ CS, CS = (pad 4294967296 (nd 4294967296 (a * 2 ^ s)) (a * 2 ^ s)).map fun d : Nat => Value.int .u32 (d : Int) := ⟨_, rfl⟩
  have hCSl : CS.length = nd 4294967296 (a * 2 ^ s) := by rw [hCS]; simp [pad]
  have HCS := Lib.hid hCS
  rw [← hCS] at HCPY
  have H1C : Hid (∀ v ∈ CS, v.oneCell' = true) := by rw [HCS.out]; exact newsU32 _ _
  have HSRC : Hid (0 < CS.length → ∃ ad, a0 = some ad ∧ ∀ j v, CS[j]? = some v → w2.cell? (ad.add j) = some v) := by
    intro h0
    rcases HAV.out with ⟨h1, -⟩ | ⟨h1, gb, go, cc, he, hc⟩
    · rw [hCSl, h1, nd_zero] at h0; omega
    · simp only [Value.slice.injEq] at he
      refine ⟨_, he.1, fun j v hj => ?_⟩
      have hjl : j < nd 4294967296 (a * 2 ^ s) := by
        rw [← hCSl]; exact (List.getElem?_eq_some_iff.1 hj).1
      have := hc j hjl
      rw [Addr.add_lit, this]
      rw [HCS.out] at hj
      simp [pad, hjl] at hj
      rw [← hj]
  have HNL := Lib.hid hCSl
  clear hCS hCSl
  generalize nd 4294967296 (a * 2 ^ s) = nx at *
  have hsz1 : (Tryd.prog.info? 54).map (·.size) = some 1 := by kernel_rfl
  go_wp2_with ((with_reducible show wpList _ _ _ _ _ _); go_must (refine wpList_copy_splice rfl (.tmp 29) (.tmp 32) 23 24 rfl 54 Tryd.underlying23 hsz1 (some ⟨w1.heap.size, 0, none⟩) a0 (la + 1) (la + 1) nx acc (by rfl) (by rfl) w1.heap.size 0 cur.toList 54 hcur' CS ?c0 ?c1 ?c2 H1C.out w1.heap.size w2 (Below.refl _ _) ?c3 ?_))
  case c0 => rw [HNL.out]; exact (Nat.min_eq_left hnx).symm
  case c1 => intro h0; first | exact ⟨rfl, HSRC.out h0⟩ | exact HSRC.out h0
  case c2 => rw [HNL.out, hcl]; omega
  case c3 => exact Nat.le_refl _
  intro w3 hrow3 hb3
  have HROW : Hid (Buf .u32 4294967296 54 w3 w1.heap.size (la + 1) (a * 2 ^ s)) := by
    refine ⟨_, hrow3.out, ?_, HCPY.out⟩
    rw [List.size_toArray, length_splice _ _ _ (by rw [HNL.out, hcl]; omega), hcl]
  have hz3 := hb3.size
  have hb13 := HB12.out.trans hb3
  have HB3 := Lib.hid hb13
  have hz13 := hb13.size
  clear hb13
  clear hrow3 hb3 hcl hcur' HCPY HNL HSRC HCS H1C HB12 hsz1
  have HBA : Hid (b * 2 ^ s ≠ 0) := Nat.ne_of_gt (Nat.mul_pos hb0 (Nat.pow_pos (by decide)))
  have HLN := Lib.hid (nd_lt hB b)
  have HPW : Hid (4294967296 ^ (n - 1) ≤ b) := by show _ ≤ _; rw [← HNB.out]; exact nd_pow_le hB hb0
  have HDP : Hid (0 < b * 2 ^ s) := Nat.pos_of_ne_zero HBA.out
  obtain ⟨m, hm⟩ : ∃ m, m = la - n + 1 := ⟨_, rfl⟩
  have hmi : (la : Int) - n + 1 = m := by omega
  have hla : la + 1 = m + n := by omega
  have HQ0 : Hid (a * 2 ^ s / 4294967296 ^ m < b * 2 ^ s) := by
    show _ < _
    rw [Nat.div_lt_iff_lt_mul (Nat.pow_pos (by decide)), Nat.mul_right_comm]
    refine Nat.mul_lt_mul_of_pos_right ?_ (Nat.pow_pos (by decide))
    have h1 := nd_lt hB a
    rw [HNA.out] at h1
    refine Nat.lt_of_lt_of_le h1 (Nat.le_trans ?_ (Nat.mul_le_mul_right _ HPW.out))
    rw [← Nat.pow_add]
    exact Nat.pow_le_pow_right (by decide) (by omega)
  have HMI := Lib.hid hmi
  have HMM := Lib.hid hm
  have HROW2 := HROW.out
  rw [hla] at HROW2
  have HR3 := Lib.hid HROW2
  clear HROW2 HROW hmi hm
  go_wp2
  rw [HMI.out, ← HMM.out]
  have hw3a : Below w3.heap.size w3 (w3.alloc (.cells (madeCells #[.int .u32 0] m) 54)) := (Below.refl _ _).alloc (Nat.le_refl _) _
  have HST : Hid (LongRel (a * 2 ^ s) (b * 2 ^ s) n m w1.heap.size w3.heap.size w1 m (w3.alloc (.cells (madeCells #[.int .u32 0] m) 54))) := by
    refine ⟨0, ?_, ?_, HB3.out.trans (hw3a.mono hz13)⟩
    · rw [Nat.mul_zero, Nat.add_zero, Nat.mod_eq_of_lt HQ0.out, Nat.mod_add_div]
      exact HR3.out.below hw3a (by omega)
    · rw [Nat.div_eq_of_lt HQ0.out, Nat.mul_zero]
      exact Buf.made _ _ _ _ _
  rw [show ((la - n : Nat) : Int) + 1 = m from by have := HMM.out; omega]
  have hgq : w1.heap.size < w3.heap.size := by omega
  have HLA := Lib.hid hla
  have hml : m ≤ 400001 := by omega
  clear hla hw3a HB3 HR3 HMI HMM hmk1 hmk2 hz13 hz2 hz3 hz1 hnx HSB HXL HAV
  obtain ⟨x, hx⟩ : ∃ x, x = a * 2 ^ s := ⟨_, rfl⟩
  obtain ⟨d, hd⟩ : ∃ d, d = b * 2 ^ s := ⟨_, rfl⟩
  have HX := Lib.hid hx; have HDE := Lib.hid hd
  rw [← hx, ← hd] at HST HQ0
  rw [← hd] at HD1 HDB HDN HDP
  clear hx hd
  go_loopw [42] (fun t wr => ∃ j k : Nat, Hid (j + k = m) ∧ t = .int .i64 j ∧ LongRel x d n m w1.heap.size w3.heap.size w1 k wr) (fun t _ => m - (intOf t).toNat)
  case atStart => exact ⟨0, m, by show _ = _; omega, rfl, HST.out⟩
  case round =>
    obtain ⟨j, k, HJK, rfl, H, hbuf, hq, hbel⟩ := hrel
    cases k with
    | zero =>
      have hjm : j = m := by have := HJK.out; omega
      rw [Nat.pow_zero, Nat.div_one, Nat.mod_one, Nat.zero_add, Nat.one_mul] at hbuf
      rw [Nat.pow_zero, Nat.div_one, Nat.zero_add, Nat.one_mul] at hq
      have HQL : Hid (x / d < 4294967296 ^ m) := by
        show _ < _
        rw [Nat.div_lt_iff_lt_mul HDP.out, Nat.mul_comm]
        exact (Nat.div_lt_iff_lt_mul (Nat.pow_pos (by decide))).1 HQ0.out
      have HRL : Hid (x % d < 4294967296 ^ n) := by
        have := nd_lt hB d
        rw [HDN.out] at this
        exact Nat.lt_trans (Nat.mod_lt _ HDP.out) this
      have hend : LongEnd w1.heap.size w3.heap.size n m (x / d) (x % d) w1 wr := ⟨hq, fun i hi => by rw [Gu.Buf.cell hbuf (by omega), dg_low (by decide) hi], hbel, Gu.Buf.lt hbuf⟩
      clear hbuf hq hbel
      subst hjm
      have HT1 := Lib.hid (fun W (h : LongEnd w1.heap.size w3.heap.size n j (x / d) (x % d) w1 W) => trim_buf w3.heap.size j j (x / d) W h.bq HQL.out (by omega) (Nat.le_refl _))
      have HT2 := Lib.hid (fun W (h : LongEnd w1.heap.size w3.heap.size n j (x / d) (x % d) w1 W) => trim_any w1.heap.size n (la + 1) (x % d) W h.br HRL.out (by omega) (by omega))
      have HSR := Lib.hid (fun W (h : LongEnd w1.heap.size w3.heap.size n j (x / d) (x % d) w1 W) => (shiftRight_any (.slice (some ⟨w1.heap.size, 0, none⟩) (nd 4294967296 (x % d)) (nd 4294967296 (x % d))) (x % d) s W (h.rest HRL.out _) (by have := (nd_le hB).2 HRL.out; omega) (by omega)).mono fun e w' ⟨r, he, hr, hb⟩ =>
        (show ∃ ro rl rc, e = Ending.returned (.slice ro rl rc) ∧ D w' (.slice ro rl rc) (x % d / 2 ^ s) ∧ LongEnd w1.heap.size w3.heap.size n j (x / d) (x % d) w1 w' from by
          obtain ⟨ro, rc, rfl, -⟩ := hr.shape
          exact ⟨ro, _, rc, he, hr, h.next hb⟩))
      have hsx : nd 4294967296 (x / d) ≤ j := (nd_le hB).2 HQL.out
      have hend2 := hend.next (Below.refl wr.heap.size wr).drew
      clear hend
      have HXD : Hid (x / d = a / b ∧ x % d / 2 ^ s = a % b) := by
        have hp : 0 < 2 ^ s := Nat.pow_pos (by decide)
        refine ⟨?_, ?_⟩
        · rw [HX.out, HDE.out, Nat.mul_div_mul_right _ _ hp]
        · rw [HX.out, HDE.out, Nat.mul_mod_mul_right, Nat.mul_div_cancel _ hp]
      obtain ⟨rr, hrr⟩ : ∃ rr, rr = x % d / 2 ^ s := ⟨_, rfl⟩
      rw [← hrr] at HSR HXD
      clear hrr
      have hi1 : (0 : Int) ≤ n := by omega
      have hi2 : (n : Int) ≤ (la : Int) + 1 := by omega
      have hi3 : (n : Int) ≤ ((la + 1 : Nat) : Int) := by omega
      have hi4 : n ≤ la + 1 := by omega
      go_wp2_with fail
      go_region_held3 (fun W : World => LongEnd w1.heap.size w3.heap.size n j (x / d) (x % d) w1 W) (assumption) (first
        | (go_at_call 36; refine (HSR.out _ ?h).mono ?_; (case h => assumption); rintro e w' ⟨ro, rl, rc, rfl, hr, hs'⟩)
        | (go_at_call 50; with_reducible refine (HT1.out _ ?h).mono ?_; (case h => assumption); rintro e w' ⟨rfl, rfl⟩)
        | (go_at_call 50; with_reducible refine (HT2.out _ ?h).mono ?_; (case h => assumption); rintro e w' ⟨rfl, rfl⟩))
      all_goals go_wp2
      all_goals go_ret2
      all_goals exact ⟨_, _, rfl, by rw [← HXD.out.1]; exact hs'.bq.isN hB HQL.out _, by rw [← HXD.out.2]; exact hr, HB1.out.trans (hs'.bel.mono HB1.out.size)⟩
    | succ k =>
      have hjm : j < m := by have := HJK.out; omega
      have hjm2 : (j : Int) < m := by omega
      have e1 : (m : Int) - 1 - j = k := by have := HJK.out; omega
      rw [long_shape] at hbuf
      have HW := Lib.hid (divideWindow_any w1.heap.size (m + n) k n (n + 1) (x % 4294967296 ^ k) (dg 4294967296 x k + 4294967296 * ((x / 4294967296 ^ (k + 1)) % d)) H d (.slice d0 n dc) wr hbuf (Nat.mod_lt _ (Nat.pow_pos (by decide))) (long_lt (by decide) HDP.out) (by have := HJK.out; omega) hb2 (by omega) (Nat.le_refl _) (HD1.out.below hbel) HDN.out HDB.out)
      clear hbuf
      have hkm : k < m := by have := HJK.out; omega
      have hkl : k + n ≤ la := by have := HLA.out; omega
      have hcell := hq.cell (i := k) hkm
      have hfr := hq.frozen k
      have HQ := Lib.hid hq; have HBEL := Lib.hid hbel
      clear hq hbel
      have hwlt := long_lt (B := 4294967296) (x := x) (k := k) (by decide) HDP.out
      obtain ⟨LD1, LD2⟩ := long_digit (B := 4294967296) (x := x) (k := k) HDP.out
      have hL1 := Lib.hid LD1; have hL2 := Lib.hid LD2
      clear LD1 LD2
      obtain ⟨W, hWe⟩ : ∃ W, W = dg 4294967296 x k + 4294967296 * ((x / 4294967296 ^ (k + 1)) % d) := ⟨_, rfl⟩
      rw [← hWe] at HW hL1 hL2
      have HLQ := Lib.hid (fun (h : W / d < 4294967296) => h)
      clear hwlt hWe
      generalize dg 4294967296 (0 + 4294967296 ^ (k + 1) * ((x / 4294967296 ^ (k + 1)) / d)) k = dq at *
      go_wp2_with fail
      rw [show k + n + 1 - k = n + 1 from by omega]
      refine HW.out.mono ?_
      rintro e w' ⟨rfl, hql, hbf, hgr⟩
      have hq2 := Buf.grown HQ.out hgr (by omega)
      have hcell2 := Gu.Buf.cell hq2 (i := k) hkm
      have hfr2 := Gu.Buf.frozen hq2 k
      have HNEW : Hid (LongRel x d n m w1.heap.size w3.heap.size w1 k (w'.setCell ⟨w3.heap.size, k, none⟩ (.int .u32 (W / d : Nat)))) := by
        refine ⟨W / 4294967296 ^ n + 4294967296 * H, ?_, ?_, ?_⟩
        · rw [hL1.out]
          exact World.rowIs.of_block hbf (Below.heap_setCell _ _ _ _ (by simp only [ne_eq]; omega))
        · rw [hL2.out]
          have e : 0 + 4294967296 ^ (k + 1) * ((x / 4294967296 ^ (k + 1)) / d) = 0 + 4294967296 ^ k * (0 + 4294967296 * ((x / 4294967296 ^ (k + 1)) / d)) := by rw [Nat.pow_succ, Nat.mul_assoc, Nat.zero_add, Nat.zero_add, Nat.zero_add]
          rw [e] at hq2
          exact Buf.set hq2 (by decide) (Nat.pow_pos (by decide)) (by decide) hql
        · have hsz := HBEL.out.size
          exact (HBEL.out.grown hgr (by omega) (fun j hj => by simp only [Option.some.injEq] at hj; omega)).setCell (by show w1.heap.size ≤ w3.heap.size; omega) _
      clear hbf hgr hq2 HQ HBEL HW hL1 hL2
      generalize dg 4294967296 (0 + 4294967296 ^ (k + 1) * ((x / 4294967296 ^ (k + 1)) / d)) k = dq2 at *
      generalize W / d = qd at *
      go_wp2
      go_roundw
      case rel => exact ⟨j + 1, k, by have := HJK.out; show _ = _; omega, by go_num, HNEW.out⟩
      case measure => simp [intOf]; omega
set_option maxHeartbeats 800000 in
theorem divide_long (N : Nat) (hN : N ≤ 400000) : DivOK (4294967296 ^ N) := by
  intro v u a b w hv hu hb ha hbN
  have hB : 2 ≤ 4294967296 := by decide
  have hna : nd 4294967296 a ≤ N := (nd_le hB).2 ha
  have hnb : nd 4294967296 b ≤ N := (nd_le hB).2 hbN
  have hnb0 := nd_pos hB hb
  clear ha hbN
  have HC := Lib.hid (compare_any v u a b w hv hu (by omega) (by omega))
  by_cases hlt : a < b
  · have HCl := Lib.hid (fun q => clone_any v a (w.drewN q) (IsN.drewN hv q) (by omega))
    have HE : Hid (a / b = 0 ∧ a % b = a) := ⟨Nat.div_eq_of_lt hlt, Nat.mod_eq_of_lt hlt⟩
    rw [cmpN_lt (by omega)] at HC
    obtain ⟨ao, ac, rfl, -⟩ := hv.shape
    obtain ⟨bo, bc, rfl, -⟩ := hu.shape
    clear hv hu hna hnb hb hlt hnb0
    go_enter Tryd.func33, Tryd.ntmps33
    go_wp2_with fail
    refine HC.out.mono ?_
    rintro e w' ⟨rfl, q, rfl⟩
    go_wp2_with fail
    refine (HCl.out q).mono ?_
    rintro e w' ⟨r, rfl, hr, hbel⟩
    go_wp2
    go_ret2
    exact ⟨.slice none 0 0, r, rfl, by rw [HE.out.1]; exact IsN.zero _ _ _ _ _, by rw [HE.out.2]; exact hr, (below_drewN (Below.refl _ _) q).trans hbel⟩
  · have hcmp : ¬ cmpN a b < 0 := by
      unfold cmpN; rw [if_neg (by omega)]; split <;> omega
    by_cases h1 : nd 4294967296 b = 1
    · have hb1 : b < 4294967296 := by
        have := nd_lt hB b
        rw [h1] at this; simpa using this
      have HD := Lib.hid (fun q => divideByDigit_any v a b (w.drewN q) (IsN.drewN hv q) (by omega) hb hb1)
      rcases hu with ⟨h0, _⟩ | ⟨_, bb, bo, bc, rfl, hcu⟩
      · omega
      have hcell : w.cell? ⟨bb, bo, none⟩ = some (.int .u32 (b : Nat)) := by
        have := hcu 0 (by omega)
        rw [Nat.add_zero] at this
        rw [this]; simp [dg, Nat.mod_eq_of_lt hb1]
      rw [h1] at HC ⊢
      have hmod := Nat.mod_lt a hb
      generalize cmpN a b = cc at *
      have HDG := Lib.hid (fun w => digitsOf_any (a % b) w (by omega))
      generalize hmm : a % b = mm at *
      have HMM := Lib.hid hmm; clear hmm
      obtain ⟨ao, ac, rfl, -⟩ := hv.shape
      clear hv hna hnb hlt hcu h1
      go_enter Tryd.func33, Tryd.ntmps33
      go_wp2_with fail
      refine HC.out.mono ?_
      rintro e w' ⟨rfl, q, rfl⟩
      go_wp2_with fail
      refine (HD.out q).mono ?_
      rintro e w' ⟨r, rfl, hr, hbel⟩
      go_wp2_with fail
      refine (HDG.out _).mono ?_
      rintro e w2 ⟨r2, rfl, hr2, hbel2⟩
      go_wp2
      go_ret2
      exact ⟨r, r2, rfl, hr.below hbel2, hr2, ((below_drewN (Below.refl _ _) q).trans hbel).trans (hbel2.mono hbel.size)⟩
    · have HD := Lib.hid (fun q => divideLong_any v u a b (w.drewN q) (IsN.drewN hv q) (IsN.drewN hu q) (by omega) (by omega) (by omega))
      have hne : (((nd 4294967296 b : Nat) : Int) == 1) = false := by simp; omega
      generalize cmpN a b = cc at *
      obtain ⟨ao, ac, rfl, -⟩ := hv.shape
      obtain ⟨bo, bc, rfl, -⟩ := hu.shape
      clear hv hu hna hnb hlt
      go_enter Tryd.func33, Tryd.ntmps33
      go_wp2_with fail
      refine HC.out.mono ?_
      rintro e w' ⟨rfl, q, rfl⟩
      go_wp2_with fail
      refine (HD.out q).mono ?_
      rintro e w' ⟨qv, r, rfl, hq, hr, hbel⟩
      go_wp2
      go_ret2
      exact ⟨qv, r, rfl, hq, hr, (below_drewN (Below.refl _ _) q).trans hbel⟩
end Go.Proofs.YthafnhjnlfpifaaDoor
namespace Go.Proofs.YthafnhjnlfpifaaDoor
open Go Go.RowKit Gu

theorem IsN_setTwo {k : IntKind} {B : Nat} {w : World} {v : Value} {n g : Nat} (h : IsN k B w v n) {x y : Value} (h0 : w.cell? ⟨g, 0, none⟩ = some x) (h1 : w.cell? ⟨g, 1, none⟩ = some y) (hx : ∀ d : Int, x ≠ .int k d) (hy : ∀ d : Int, y ≠ .int k d) (u u' : Value) :
    IsN k B ((w.setCell ⟨g, 0, none⟩ u).setCell ⟨g, 1, none⟩ u') v n :=
  (h.setCell h0 hx u).setCell (x := y) ((World.cell?_setCell_other _ _ _ _ (by intro e; cases e)).trans h1) hy u'
theorem read_two {w : World} {g : Nat} {x y : Value} (h0 : w.cell? ⟨g, 0, none⟩ = some x) (h1 : w.cell? ⟨g, 1, none⟩ = some y) (u u' : Value) :
    ((w.setCell ⟨g, 0, none⟩ u).setCell ⟨g, 1, none⟩ u').cell? ⟨g, 0, none⟩ = some u ∧ ((w.setCell ⟨g, 0, none⟩ u).setCell ⟨g, 1, none⟩ u').cell? ⟨g, 1, none⟩ = some u' :=
  ⟨(World.cell?_setCell_other _ _ _ _ (by intro e; cases e)).trans (World.cell?_setCell_same _ _ _ h0), World.cell?_setCell_same _ _ _ ((World.cell?_setCell_other _ _ _ _ (by intro e; cases e)).trans h1)⟩
set_option maxHeartbeats 400000 in
theorem lowest_any {N : Nat} (HN : DivOK N) (v u : Value) (a b : Nat) (w : World) (hv : D w v a) (hu : D w u b) (hb : 0 < b) (ha : a < N) (hbN : b < N) :
    Calls Tryd.prog 41 #[v, u] w fun e w' => ∃ r s, e = .returned (.agg #[r, s]) ∧ D w' r (a / Nat.gcd a b) ∧ D w' s (b / Nat.gcd a b) ∧ Below w.heap.size w w' := by
  have b1 : ∀ o, Below w.heap.size w (w.alloc o) := fun o => (Below.refl _ _).alloc (Nat.le_refl _) _
  have hg : 0 < Nat.gcd a b := Nat.gcd_pos_of_pos_right _ hb
  have hgN : Nat.gcd a b < N := Nat.lt_of_le_of_lt (Nat.gcd_le_right _ hb) hbN
  have HG := Lib.hid (fun o => gcd_any HN v u a b (w.alloc o) (hv.below (b1 o)) (hu.below (b1 o)) ha hbN)
  have HQ1 := Lib.hid (fun x (g : Value) w' (h1 : D w' v a) (h2 : D w' g x) (h3 : 0 < x) (h4 : x < N) => quotient_any HN v g a x w' h1 h2 h3 ha h4)
  have HQ2 := Lib.hid (fun x (g : Value) w' (h1 : D w' u b) (h2 : D w' g x) (h3 : 0 < x) (h4 : x < N) => quotient_any HN u g b x w' h1 h2 h3 hbN h4)
  have HV := Lib.hid (fun o => hv.below (b1 o)); have HU := Lib.hid (fun o => hu.below (b1 o)); have HB1 := Lib.hid b1
  clear hv hu b1 hb ha hbN HN
  generalize hgg : Nat.gcd a b = g at *
  have HGG := Lib.hid hgg; clear hgg
  go_enter Tryd.func41, Tryd.ntmps41
  go_wp2_with fail
  refine (HG.out _).mono ?_
  rintro e w1 ⟨r, rfl, hr, hbel⟩
  obtain ⟨hc, hf⟩ := bcell hbel
  have hz := hbel.size
  simp only [World.size_alloc] at hz
  have H1 := Lib.hid (HQ1.out g r w1 ((HV.out _).below hbel) hr hg hgN)
  have HR := Lib.hid hr; have HB := Lib.hid hbel
  have HU1 := Lib.hid ((HU.out _).below hbel)
  have c0 : w1.cell? ⟨w.heap.size, 0, none⟩ = some (.slice none 0 0) := (hc _ 0 (by simp)).trans (World.cell?_alloc_at _ _ _ _ rfl)
  have c1 : w1.cell? ⟨w.heap.size, 1, none⟩ = some (.slice none 0 0) := (hc _ 1 (by simp)).trans (World.cell?_alloc_at _ _ _ _ rfl)
  have f0 : w1.frozen? ⟨w.heap.size, 0, none⟩ = false := (hf _ 0 (by simp)).trans (World.frozen?_alloc_at _ _ _ _ rfl)
  have f1 : w1.frozen? ⟨w.heap.size, 1, none⟩ = false := (hf _ 1 (by simp)).trans (World.frozen?_alloc_at _ _ _ _ rfl)
  clear hr hbel hc hf
  go_wp2_with fail
  refine H1.out.mono ?_
  rintro e w2 ⟨s1, rfl, hs1, hbel2⟩
  have H2 := Lib.hid (HQ2.out g r w2 (HU1.out.below hbel2) (HR.out.below hbel2) hg hgN)
  have HS1 := Lib.hid hs1; have HB2 := Lib.hid hbel2
  clear hs1 hbel2
  go_wp2_with fail
  refine H2.out.mono ?_
  rintro e w3 ⟨s2, rfl, hs2, hbel3⟩
  have hs1 := HS1.out.below hbel3
  have h23 := HB2.out.trans (hbel3.mono HB2.out.size)
  have d0 : w3.cell? ⟨w.heap.size, 0, none⟩ = some (.slice none 0 0) := (h23.cell (p := ⟨w.heap.size, 0, none⟩) (by show w.heap.size < _; omega)).trans c0
  have d1 : w3.cell? ⟨w.heap.size, 1, none⟩ = some (.slice none 0 0) := (h23.cell (p := ⟨w.heap.size, 1, none⟩) (by show w.heap.size < _; omega)).trans c1
  have g0 : w3.frozen? ⟨w.heap.size, 0, none⟩ = false := (h23.frozen (p := ⟨w.heap.size, 0, none⟩) (by show w.heap.size < _; omega)).trans f0
  have g1 : w3.frozen? ⟨w.heap.size, 1, none⟩ = false := (h23.frozen (p := ⟨w.heap.size, 1, none⟩) (by show w.heap.size < _; omega)).trans f1
  have HB3 := Lib.hid ((HB1.out _).trans ((HB.out.trans (h23.mono (by simp; omega))).mono (by simp)))
  obtain ⟨ao, ac, rfl, -⟩ := hs1.shape
  obtain ⟨bo, bc, rfl, -⟩ := hs2.shape
  have X1 := Lib.hid hs1; have X2 := Lib.hid hs2
  have D0 := Lib.hid d0; have D1 := Lib.hid d1
  clear c0 c1 f0 f1 hbel3 h23 hs1 hs2
  go_wp2
  obtain ⟨q0, q1⟩ := read_two d0 d1 (.slice ao (nd 4294967296 (a / g)) ac) (.slice bo (nd 4294967296 (b / g)) bc)
  refine bodyPost_ret (v := .agg #[.slice ao (nd 4294967296 (a / g)) ac, .slice bo (nd 4294967296 (b / g)) bc]) (by simp [results, Tryd.results41, go_sem, q0, q1]) rfl
    ⟨_, _, rfl, IsN_setTwo X1.out D0.out D1.out (by intro d h; cases h) (by intro d h; cases h) _ _, IsN_setTwo X2.out D0.out D1.out (by intro d h; cases h) (by intro d h; cases h) _ _, ?_⟩
  exact (HB3.out.setCell (Nat.le_refl _) _).setCell (Nat.le_refl _) _
/-- a fraction in memory, as its two slices of digits; the denominator 0 stands for 1 -/
def FracIs (w : World) (v u : Value) (a b : Nat) : Prop := D w v a ∧ D w u b
set_option maxHeartbeats 400000 in
theorem NewFrac_any {N : Nat} (HN : DivOK N) (v u : Value) (a b : Nat) (w : World) (hv : D w v a) (hu : D w u b) (hb : 0 < b) (ha : a < N) (hbN : b < N) :
    Calls Tryd.prog 15 #[.agg #[v], .agg #[u]] w fun e w' => ∃ r s, e = .returned (.tuple #[.agg #[r, s], .int .i64 0]) ∧ D w' r (a / Nat.gcd a b) ∧ D w' s (b / Nat.gcd a b) ∧ Below w.heap.size w w' := by
  have b3 : ∀ o1 o2 o3, Below w.heap.size w (((w.alloc o1).alloc o2).alloc o3) := fun o1 o2 o3 => (((Below.refl _ _).alloc (Nat.le_refl _) _).alloc (by simp) _).alloc (by simp; omega) _
  have HZ := Lib.hid (fun o1 o2 o3 => isZero_any u b (((w.alloc o1).alloc o2).alloc o3) (hu.below (b3 o1 o2 o3)))
  rw [show decide (b = 0) = false from by simp; omega] at HZ
  have HL := Lib.hid (fun o1 o2 o3 => lowest_any HN v u a b (((w.alloc o1).alloc o2).alloc o3) (hv.below (b3 o1 o2 o3)) (hu.below (b3 o1 o2 o3)) hb ha hbN)
  have HB := Lib.hid b3
  obtain ⟨ao, ac, rfl, -⟩ := hv.shape
  obtain ⟨bo, bc, rfl, -⟩ := hu.shape
  clear hv hu b3 HN hb ha hbN
  go_enter Tryd.func15, Tryd.ntmps15
  go_wp2_with fail
  refine (HZ.out _ _ _).mono ?_
  rintro e w1 ⟨rfl, rfl⟩
  go_wp2_with fail
  refine (HL.out _ _ _).mono ?_
  rintro e w1 ⟨r, s, rfl, hr, hs, hbel⟩
  have hz := hbel.size
  simp only [World.size_alloc] at hz
  have d0 : w1.cell? ⟨w.heap.size + 1 + 1, 0, none⟩ = some (.slice none 0 0) := (hbel.cell (p := ⟨w.heap.size + 1 + 1, 0, none⟩) (by simp)).trans (World.cell?_alloc_at _ _ _ _ (by simp))
  have d1 : w1.cell? ⟨w.heap.size + 1 + 1, 1, none⟩ = some (.slice none 0 0) := (hbel.cell (p := ⟨w.heap.size + 1 + 1, 1, none⟩) (by simp)).trans (World.cell?_alloc_at _ _ _ _ (by simp))
  have g0 : w1.frozen? ⟨w.heap.size + 1 + 1, 0, none⟩ = false := (hbel.frozen (p := ⟨w.heap.size + 1 + 1, 0, none⟩) (by simp)).trans (World.frozen?_alloc_at _ _ _ _ (by simp))
  have g1 : w1.frozen? ⟨w.heap.size + 1 + 1, 1, none⟩ = false := (hbel.frozen (p := ⟨w.heap.size + 1 + 1, 1, none⟩) (by simp)).trans (World.frozen?_alloc_at _ _ _ _ (by simp))
  have HB2 := Lib.hid ((HB.out _ _ _).trans (hbel.mono (by simp; omega)))
  obtain ⟨ro, rc, rfl, -⟩ := hr.shape
  obtain ⟨so, sc, rfl, -⟩ := hs.shape
  have X1 := Lib.hid hr; have X2 := Lib.hid hs
  have D0 := Lib.hid d0; have D1 := Lib.hid d1
  clear hr hs hbel
  go_wp2
  obtain ⟨q0, q1⟩ := read_two d0 d1 (.slice ro (nd 4294967296 (a / Nat.gcd a b)) rc) (.slice so (nd 4294967296 (b / Nat.gcd a b)) sc)
  refine bodyPost_ret (v := .tuple #[.agg #[.slice ro (nd 4294967296 (a / Nat.gcd a b)) rc, .slice so (nd 4294967296 (b / Nat.gcd a b)) sc], .int .i64 0]) (by simp [results, Tryd.results15, go_sem, q0, q1]) rfl
    ⟨_, _, rfl, IsN_setTwo X1.out D0.out D1.out (by intro d h; cases h) (by intro d h; cases h) _ _, IsN_setTwo X2.out D0.out D1.out (by intro d h; cases h) (by intro d h; cases h) _ _, ?_⟩
  exact (HB2.out.setCell (by show w.heap.size ≤ w.heap.size + 1 + 1; omega) _).setCell (by show w.heap.size ≤ w.heap.size + 1 + 1; omega) _
end Go.Proofs.YthafnhjnlfpifaaDoor
namespace Go.Proofs.YthafnhjnlfpifaaDoor
open Go Go.RowKit Gu

theorem byte_at (s : ByteArray) (k : Nat) (h : k < s.size) : s.data.toList[k]'(by simpa using h) = s[k] := rfl
theorem len_data (s : ByteArray) : s.data.toList.length = s.size := Array.length_toList
theorem cons_of (l : List UInt8) (h : 0 < l.length) : l = l[0] :: l.tail := by
  cases l with
  | nil => simp at h
  | cons a l => rfl
theorem take_byte (s : ByteArray) (k : Nat) (h : k < s.size) : s.data.toList.take (k + 1) = s.data.toList.take k ++ [s[k]] := by
  rw [List.take_succ_eq_append_getElem (by simpa using h)]; rfl
theorem digit_iff (c : UInt8) : isDigit c = true ↔ 48 ≤ c.toNat ∧ c.toNat ≤ 57 := by
  unfold isDigit
  rw [Bool.and_eq_true, decide_eq_true_eq, decide_eq_true_eq, UInt8.le_iff_toNat_le, UInt8.le_iff_toNat_le]
  exact Iff.rfl
theorem all_take (s : ByteArray) (k : Nat) (h : k < s.size) (h1 : (s.data.toList.take k).all isDigit = true) (h2 : isDigit s[k] = true) : (s.data.toList.take (k + 1)).all isDigit = true := by
  rw [take_byte s k h, List.all_append, h1]; simp [h2]
theorem all_false (s : ByteArray) (k : Nat) (h : k < s.size) (h2 : ¬ isDigit s[k] = true) : s.data.toList.all isDigit = false := by
  rw [List.all_eq_false]
  exact ⟨s[k], List.getElem_mem (by simpa using h), h2⟩
theorem isNum_lead (s : ByteArray) (h : 0 < s.size) (h0 : s[0].toNat ≠ 48) : isNum s.data.toList = s.data.toList.all isDigit := by
  have e : s.data.toList = s[0] :: s.data.toList.tail := by
    exact cons_of _ (by rw [len_data]; exact h)
  unfold isNum
  rw [e]
  have hne : s[0] ≠ 48 := fun e => h0 (by rw [e]; rfl)
  generalize s[0] = c at *
  simp [hne]
theorem isNum_zero (s : ByteArray) (h : 1 < s.size) (h0 : s[0].toNat = 48) : isNum s.data.toList = false := by
  have e : s.data.toList = s[0] :: s.data.toList.tail := by
    exact cons_of _ (by rw [len_data]; omega)
  have hl : 1 < s.data.toList.length := by simpa using h
  have he : s[0] = 48 := UInt8.toNat_inj.1 (by rw [h0]; rfl)
  unfold isNum
  simp only [Bool.and_eq_false_iff, Bool.not_eq_false', Bool.and_eq_true]
  refine .inl (.inr ⟨?_, by simpa using hl⟩)
  rw [e, he]; rfl
theorem one_byte (s : ByteArray) (h : s.size = 1) : s = ⟨#[s[0]'(by omega)]⟩ := by
  rcases s with ⟨⟨l⟩⟩
  match l, h with
  | [a], _ => rfl
theorem ne_empty (s : ByteArray) (h : 0 < s.size) : s.toList.isEmpty = false := by
  rw [ByteArray.toList_eq]
  have hl := len_data s
  cases hh : s.data.toList with
  | nil => rw [hh] at hl; simp at hl; omega
  | cons a l => rfl
set_option maxHeartbeats 400000 in
theorem isNumeral_any (s : ByteArray) (w : World) (hs : s.size ≤ 1048576) :
    Calls Tryd.prog 67 #[.string s] w fun e w' => e = .returned (.bool (isNum s.data.toList)) ∧ w = w' := by
  rcases Nat.eq_zero_or_pos s.size with h0 | h0
  · obtain rfl : s = ⟨#[]⟩ := by
      rcases s with ⟨⟨l⟩⟩
      cases l with
      | nil => rfl
      | cons a l => simp [ByteArray.size] at h0
    go_enter Tryd.func67, Tryd.ntmps67
    go_wp2
    go_ret
    exact ⟨rfl, rfl⟩
  · have hne := ne_empty s h0
    by_cases hz : s[0].toNat = 48
    · by_cases h1 : 1 < s.size
      · have HE := Lib.hid (isNum_zero s h1 hz)
        have hb : ((s[0].toNat : Int) == 48) = true := by simp; omega
        clear hz
        go_enter Tryd.func67, Tryd.ntmps67
        go_wp2
        go_ret
        exact ⟨by rw [HE.out]; rfl, rfl⟩
      · obtain rfl : s = ⟨#[48]⟩ := by
          have := one_byte s (by omega)
          have he : s[0] = 48 := UInt8.toNat_inj.1 (by rw [hz]; rfl)
          rw [this]; rw [he]
        clear hne hz h1 h0 hs
        go_enter Tryd.func67, Tryd.ntmps67
        go_wp2
        refine wp_loop_rounds 2 ?_
        repeat any_goals (rw [rounds_succ]; go_wp2)
        go_ret
        exact ⟨rfl, rfl⟩
    · have HE := Lib.hid (isNum_lead s h0 hz)
      have hb : ((s[0].toNat : Int) == 48) = false := by simp; omega
      clear hz
      go_enter Tryd.func67, Tryd.ntmps67
      go_wp2
      go_loop [18] (fun t => ∃ k : Nat, k ≤ s.size ∧ t = .int .i64 k ∧ Hid ((s.data.toList.take k).all isDigit = true)) (fun t => s.size - (intOf t).toNat)
      case atStart => exact ⟨0, Nat.zero_le _, rfl, rfl⟩
      case round =>
        obtain ⟨k, hk, rfl, hall⟩ := hrel
        by_cases hlt : k < s.size
        · by_cases hd : isDigit s[k] = true
          · obtain ⟨d1, d2⟩ := (digit_iff _).1 hd
            have HN : Hid ((s.data.toList.take (k + 1)).all isDigit = true) := all_take s k hlt hall.out hd
            clear hd
            go_wp2
            go_round
            case rel => exact ⟨k + 1, by omega, by go_num, HN⟩
            case measure => simp [intOf]; omega
          · have HF := Lib.hid (all_false s k hlt hd)
            have hd' : s[k].toNat < 48 ∨ 57 < s[k].toNat := by
              have := mt (digit_iff s[k]).2 hd
              omega
            clear hd
            rcases hd' with h | h
            · have h' : (s[k].toNat : Int) < 48 := by omega
              go_wp2
              go_ret
              exact ⟨by rw [HE.out, HF.out]; rfl, rfl⟩
            · have h' : (57 : Int) < s[k].toNat := by omega
              go_wp2
              go_ret
              exact ⟨by rw [HE.out, HF.out]; rfl, rfl⟩
        · obtain rfl : k = s.size := by omega
          have HT : Hid (s.data.toList.all isDigit = true) := by
            have := hall.out
            rw [List.take_of_length_le (by rw [len_data]; exact Nat.le_refl _)] at this
            exact this
          go_wp2
          go_ret
          exact ⟨by rw [HE.out, HT.out]; rfl, rfl⟩
end Go.Proofs.YthafnhjnlfpifaaDoor
namespace Go.Proofs.YthafnhjnlfpifaaDoor
open Go Go.RowKit Gu

/-- how many digits the next group has -/
def grp (n : Nat) : Nat := (n - 1) % 9 + 1
theorem all_sub {l : List UInt8} (h : l.all isDigit = true) (p k : Nat) : ((l.drop p).take k).all isDigit = true := by
  rw [List.all_eq_true] at h ⊢
  intro x hx
  exact h x (List.mem_of_mem_drop (List.mem_of_mem_take hx))
theorem nd_sval {l : List UInt8} (h : l.all isDigit = true) : nd 4294967296 (sval l) ≤ l.length := by
  apply (nd_le (by decide : 2 ≤ 4294967296)).2
  exact Nat.lt_of_lt_of_le (sval_lt l h) (Nat.pow_le_pow_left (by decide) _)
theorem sval_small {l : List UInt8} (h : l.all isDigit = true) (hl : l.length ≤ 9) : sval l < 1000000000 := by
  have h1 := sval_lt l h
  have h2 : 10 ^ l.length ≤ 10 ^ 9 := Nat.pow_le_pow_right (by decide) hl
  exact Nat.lt_of_lt_of_le h1 h2
theorem sval_group {l : List UInt8} {p k : Nat} (h : p = 0 ∨ k = 9) (hl : p + k ≤ l.length) : sval (l.take (p + k)) = sval (l.take p) * 1000000000 + sval ((l.drop p).take k) := by
  rw [List.take_add, sval_append, List.length_take, List.length_drop, Nat.min_eq_left (by omega)]
  rcases h with h | h
  · subst h; simp [sval]
  · subst h; rfl
/-- what the outer loop of readNumeral keeps: p digits are read -/
def ReadRel (l : List UInt8) (w : World) (vW : Value) (t : ByteArray) (v : Value) (wr : World) : Prop :=
  ∃ p, p ≤ l.length ∧ t.data.toList = l.drop p ∧ (p = 0 ∨ (l.length - p) % 9 = 0) ∧ D wr v (sval (l.take p)) ∧ D wr vW 1000000000 ∧ Below w.heap.size w wr
set_option maxHeartbeats 1000000 in
theorem readNumeral_any (s : ByteArray) (w : World) (h0 : 0 < s.size) (hs : s.size ≤ 5463) (hd : s.data.toList.all isDigit = true) :
    Calls Tryd.prog 68 #[.string s] w fun e w' => ∃ r, e = .returned (.tuple #[.agg #[r], .int .i64 (fitE (sval s.data.toList))]) ∧ D w' r (fitN (sval s.data.toList)) ∧ Below w.heap.size w w' := by
  have HW := Lib.hid (fun w => digitsOf_any 1000000000 w (by decide))
  have HD := Lib.hid hd; clear hd
  go_enter Tryd.func68, Tryd.ntmps68
  go_wp2_with fail
  refine (HW.out _).mono ?_
  rintro e w1 ⟨vW, rfl, hvW, hbel⟩
  have HVW := Lib.hid hvW; have HB1 := Lib.hid hbel
  clear hvW hbel
  go_wp2
  go_loopg [0, 4] s.size (fun n x v wr => ∃ t : ByteArray, x = .string t ∧ Hid (n = t.size) ∧ ReadRel s.data.toList w1 vW t v wr)
  case atStart => exact ⟨s, rfl, rfl, 0, Nat.zero_le _, rfl, .inl rfl, by rw [List.take_zero]; exact IsN.zero _ _ _ _ _, HVW.out, Below.refl _ _⟩
  case round =>
    obtain ⟨t, rfl, HG, p, hp, htl, hpp, hv, hvw, hb⟩ := hrel
    have hlen : t.size = s.size - p := by rw [← len_data t, htl, List.length_drop, len_data]
    have HTL := Lib.hid htl; have HPP := Lib.hid hpp; have HV := Lib.hid hv; have HVW' := Lib.hid hvw; have HB := Lib.hid hb
    clear htl hpp hv hvw hb
    rw [len_data] at hp
    by_cases h1 : 0 < t.size
    · have hts : t.size ≤ 5463 := by omega
      have HL := Lib.hid hlen; clear hlen
      obtain ⟨N, hN⟩ : ∃ N : Nat, ((t.size : Int) - 1) % 9 + 1 = N := ⟨grp t.size, by unfold grp; omega⟩
      have hN1 : 1 ≤ N := by omega
      have hN9 : N ≤ 9 := by omega
      have hNt : N ≤ t.size := by omega
      have HNN : Hid (N = grp t.size) := by show _ = _; unfold grp; omega
      have HALL : Hid (t.data.toList.all isDigit = true) := by
        have := all_sub HD.out p s.size
        rw [List.take_of_length_le (by rw [List.length_drop, len_data]; omega), ← HTL.out] at this
        exact this
      have h9 : Hid (∀ k, k ≤ N → sval (t.data.toList.take k) < 1000000000) := fun k hk => by
        have := all_sub HALL.out 0 k
        rw [List.drop_zero] at this
        exact sval_small this (by rw [List.length_take, len_data]; omega)
      have HDG : Hid (∀ k (h : k < t.size), isDigit t[k] = true) := fun k h => by
        rw [← byte_at t k h]
        exact List.all_eq_true.1 HALL.out _ (List.getElem_mem _)
      go_wp2
      go_loop [7, 23] (fun g i => ∃ k : Nat, k ≤ N ∧ i = .int .i64 k ∧ g = .int .u64 (sval (t.data.toList.take k))) (fun _ i => N - (intOf i).toNat)
      case atStart => exact ⟨0, Nat.zero_le _, rfl, rfl⟩
      case round =>
        obtain ⟨k, hk, rfl, rfl⟩ := hrel
        by_cases hlt : k < N
        · obtain ⟨d1, d2⟩ := (digit_iff _).1 (HDG.out k (by omega))
          have hkt : k < t.size := by omega
          have HS : Hid (sval (t.data.toList.take (k + 1)) = sval (t.data.toList.take k) * 10 + (t[k].toNat - 48)) := by
            show _ = _
            rw [take_byte t k hkt, sval_snoc]
          have hg := h9.out (k + 1) (by omega)
          rw [HS.out] at hg
          generalize sval (t.data.toList.take k) = g at *
          go_wp2
          go_round
          case rel => exact ⟨k + 1, by omega, by go_num, by rw [HS.out]; go_num⟩
          case measure => simp [intOf]; omega
        · obtain rfl : k = N := by omega
          have hG := h9.out k (Nat.le_refl _)
          have HGV : Hid (sval (t.data.toList.take k) = sval (t.data.toList.take k)) := rfl
          generalize hgg : sval (t.data.toList.take k) = g at *
          have HGG := Lib.hid hgg; clear hgg HGV
          have hn1 : nd 4294967296 (sval (s.data.toList.take p)) ≤ 5463 := by
            have := nd_sval (all_sub HD.out 0 p)
            rw [List.drop_zero, List.length_take, len_data] at this
            omega
          have hn2 : nd 4294967296 1000000000 ≤ 1 := (nd_le (by decide)).2 (by decide)
          have hn3 := nd_mul hn1 hn2
          have hn4 : nd 4294967296 g ≤ 1 := (nd_le (by decide)).2 (by rw [Nat.pow_one]; omega)
          have HP := Lib.hid (fun w' (h : Below wr.heap.size wr w') => product_any _ _ _ _ w' (HV.out.below h) (HVW'.out.below h) (by omega) (by omega))
          go_wp2_with fail
          refine (HP.out _ (Below.refl _ _)).mono ?_
          rintro e w2 ⟨r1, rfl, hr1, hb1⟩
          have HR1 := Lib.hid hr1; have HB2 := Lib.hid hb1
          clear hr1 hb1
          have HD2 := Lib.hid (digitsOf_any g w2 (by omega))
          go_wp2_with fail
          refine HD2.out.mono ?_
          rintro e w3 ⟨r2, rfl, hr2, hb2⟩
          have HS3 := Lib.hid (sum_any r1 r2 _ g w3 (HR1.out.below hb2) hr2 (by omega) (by omega))
          have HB3 := Lib.hid hb2
          clear hr2 hb2
          go_wp2_with fail
          refine HS3.out.mono ?_
          rintro e w4 ⟨r3, rfl, hr3, hb3⟩
          have HR3 := Lib.hid hr3; have HB4 := Lib.hid hb3
          clear hr3 hb3
          have HEX : Hid ((t.extract k t.size).size = t.size - k ∧ (t.extract k t.size).data.toList = s.data.toList.drop (p + k)) := by
            have e : (t.extract k t.size).data.toList = t.data.toList.drop k := by
              rw [Lib.extract_to_end]
            refine ⟨?_, ?_⟩
            · rw [← len_data, e, List.length_drop, len_data]
            · rw [e, HTL.out, List.drop_drop]
          have HVN : Hid (sval (s.data.toList.take (p + k)) = sval (s.data.toList.take p) * 1000000000 + g) := by
            show _ = _
            rw [sval_group (k := k) ?_ (by rw [len_data]; have := HL.out; omega), ← HTL.out, HGG.out]
            have := HPP.out
            rw [len_data] at this
            have h2 := HNN.out
            unfold grp at h2
            have h3 := HL.out
            omega
          have HBB : Hid (Below wr.heap.size wr w4) := (HB2.out.trans (HB3.out.mono HB2.out.size)).trans (HB4.out.mono (Nat.le_trans HB2.out.size HB3.out.size))
          have HFIN : Hid (ReadRel s.data.toList w1 vW (t.extract k t.size) r3 w4) := by
            refine ⟨p + k, by rw [len_data]; have := HL.out; omega, HEX.out.2, .inr ?_, by rw [HVN.out]; exact HR3.out, HVW'.out.below HBB.out, HB.out.trans (HBB.out.mono HB.out.size)⟩
            rw [len_data]
            have h2 := HNN.out
            unfold grp at h2
            have h3 := HL.out
            omega
          clear hn1 hn2 hn3 hn4
          go_wp2
          go_roundg (t.size - k)
          case measure => have := HG.out; omega
          case rel => exact ⟨_, rfl, HEX.out.1.symm, HFIN.out⟩
    · have ht0 : t.size = 0 := by omega
      have hps : p = s.size := by omega
      have hv' := HV.out
      rw [hps, List.take_of_length_le (by rw [len_data]; exact Nat.le_refl _)] at hv'
      have hnd : nd 4294967296 (sval s.data.toList) ≤ 5463 := by have := nd_sval HD.out; rw [len_data] at this; omega
      have HF := Lib.hid (fitting_any _ _ wr hv' (Nat.le_trans hnd (by decide)))
      clear hv' hnd hps hlen
      have c0 : w1.cell? ⟨w.heap.size, 0, none⟩ = some (.slice none 0 0) := (HB1.out.cell (p := ⟨w.heap.size, 0, none⟩) (by simp)).trans (World.cell?_alloc_at _ _ _ _ rfl)
      have f0 : w1.frozen? ⟨w.heap.size, 0, none⟩ = false := (HB1.out.frozen (p := ⟨w.heap.size, 0, none⟩) (by simp)).trans (World.frozen?_alloc_at _ _ _ _ rfl)
      have hz : w.heap.size + 1 ≤ w1.heap.size := by have := HB1.out.size; simp at this; exact this
      have C0 := Lib.hid c0; have F0 := Lib.hid f0
      clear c0 f0
      go_wp2_with fail
      refine HF.out.mono ?_
      rintro e w5 ⟨r, rfl, hr, hb5⟩
      have h15 := HB.out.trans (hb5.mono HB.out.size)
      have d0 := (h15.cell (p := ⟨w.heap.size, 0, none⟩) (by show w.heap.size < _; omega)).trans C0.out
      have g0 := (h15.frozen (p := ⟨w.heap.size, 0, none⟩) (by show w.heap.size < _; omega)).trans F0.out
      have HBF := Lib.hid (((Below.refl w.heap.size w).alloc (Nat.le_refl _) (.cells #[.slice none 0 0] 26)).trans ((HB1.out.trans (h15.mono (by simp; omega))).mono (by simp)))
      obtain ⟨ro, rc, rfl, -⟩ := hr.shape
      have HR := Lib.hid hr; have D0 := Lib.hid d0
      clear hr hb5 h15
      go_wp2
      refine bodyPost_ret (v := .tuple #[.agg #[.slice ro (nd 4294967296 (fitN (sval s.data.toList))) rc], .int .i64 (fitE (sval s.data.toList))]) (by simp [results, Tryd.results68, go_sem, d0]) rfl ⟨_, rfl, HR.out.setCell D0.out (by intro d h; cases h) _, HBF.out.setCell (Nat.le_refl _) _⟩
end Go.Proofs.YthafnhjnlfpifaaDoor
namespace Go.Proofs.YthafnhjnlfpifaaDoor
open Go Go.RowKit Gu

theorem isNum_digits {l : List UInt8} (h : isNum l = true) : l.all isDigit = true := by
  unfold isNum at h; simp only [Bool.and_eq_true] at h; exact h.2
theorem isNum_pos {l : List UInt8} (h : isNum l = true) : 0 < l.length := by
  unfold isNum at h; simp only [Bool.and_eq_true] at h
  cases l with
  | nil => simp at h
  | cons a l => simp
set_option maxHeartbeats 400000 in
/-- Parse of a numeral that is not too long -/
theorem Parse_num (s : ByteArray) (w : World) (hs : s.size ≤ 5463) (hd : isNum s.data.toList = true) :
    Calls Tryd.prog 47 #[.string s] w fun e w' => ∃ r, e = .returned (.tuple #[.agg #[r], .int .i64 (fitE (sval s.data.toList))]) ∧ D w' r (fitN (sval s.data.toList)) ∧ Below w.heap.size w w' := by
  have HI := Lib.hid (fun w => isNumeral_any s w (by omega))
  rw [hd] at HI
  have HR := Lib.hid (fun w => readNumeral_any s w (by have := isNum_pos hd; rw [len_data] at this; exact this) hs (isNum_digits hd))
  clear hd
  go_enter Tryd.func47, Tryd.ntmps47
  go_wp2_with fail
  refine (HI.out _).mono ?_
  rintro e w' ⟨rfl, rfl⟩
  go_wp2_with fail
  refine (HR.out _).mono ?_
  rintro e w5 ⟨r, rfl, hr, hb5⟩
  have d0 : w5.cell? ⟨w.heap.size, 0, none⟩ = some (.slice none 0 0) := (hb5.cell (p := ⟨w.heap.size, 0, none⟩) (by simp)).trans (World.cell?_alloc_at _ _ _ _ rfl)
  have g0 : w5.frozen? ⟨w.heap.size, 0, none⟩ = false := (hb5.frozen (p := ⟨w.heap.size, 0, none⟩) (by simp)).trans (World.frozen?_alloc_at _ _ _ _ rfl)
  have HBF := Lib.hid (((Below.refl w.heap.size w).alloc (Nat.le_refl _) (.cells #[.slice none 0 0] 26)).trans (hb5.mono (by simp)))
  obtain ⟨ro, rc, rfl, -⟩ := hr.shape
  have HR5 := Lib.hid hr; have D0 := Lib.hid d0
  clear hr hb5
  go_wp2
  refine bodyPost_ret (v := .tuple #[.agg #[.slice ro (nd 4294967296 (fitN (sval s.data.toList))) rc], .int .i64 (fitE (sval s.data.toList))]) (by simp [results, Tryd.results47, go_sem, d0]) rfl ⟨_, rfl, HR5.out.setCell D0.out (by intro d h; cases h) _, HBF.out.setCell (Nat.le_refl _) _⟩
end Go.Proofs.YthafnhjnlfpifaaDoor
namespace Go.Proofs.YthafnhjnlfpifaaDoor
open Go Go.RowKit Gu

/-- the table that the library reads to write a number -/
def Env (w : World) : Prop := Lib.TabIs Tryd.prog w "internal/strconv.uint64pow10" .u64 Lib.pow10Tab
theorem Env.below {w w' : World} (h : Env w) (hb : Below w.heap.size w w') : Env w' := by
  unfold Env Lib.TabIs at *
  have hg : Tryd.prog.globalNamed "internal/strconv.uint64pow10" = some 0 := by kernel_rfl
  refine var?_below hb hg ?_ h
  unfold World.var? at h
  rw [hg] at h
  simp only [Option.bind_some] at h
  rcases Nat.lt_or_ge 0 w.heap.size with h' | h'
  · exact h'
  · rw [Array.getElem?_eq_none h'] at h; simp at h
theorem Itoa_any (n : Nat) (w : World) (hn : n < 4294967296) (h : Env w) :
    Calls Tryd.prog 24 #[.int .i64 n] w fun e w' => e = .returned (.string ⟨(Lib.decDigits n).toArray⟩) ∧ Below w.heap.size w w' := by
  refine (Tryd.strconv_Itoa n (by omega) (by omega) w h).mono ?_
  rintro e w' ⟨rfl, k, os, rfl⟩
  refine ⟨?_, Lib.below_grow _ _ (Nat.le_refl _) k os⟩
  unfold Lib.itoa
  rw [if_neg (by omega), Int.toNat_natCast]
theorem Write_any (B b : Nat) (bs : List Value) (s : ByteArray) (w : World) (h : Lib.IsBuilderF 61 5 B b bs w) (hlen : bs.length + s.size ≤ 140737488355328) (hBw : B ≤ w.heap.size) :
    Calls Tryd.prog 25 #[.pointer (some ⟨b, 0, none⟩), .string s] w fun e w' => e = .returned (.tuple #[.int .i64 s.size, .nilIface]) ∧ (Lib.IsBuilderF 61 5 B b (bs ++ Lib.strCells s) w' ∧ Below B w w') :=
  (Any.Builder_WriteString_k { Tryd.lays105 with } Tryd.Builder_Extra_105 B b bs s w h hlen hBw).mono fun _ _ ⟨h1, h2, h3, _⟩ => ⟨h1, .inr h2, h3⟩
theorem Tryd.infoStr : (Tryd.prog.info? 9).map (fun i => (i.zero, i.size, i.bytes)) = some (some (.string ⟨#[]⟩), 1, 16) := by kernel_rfl
/-- the first k groups of nine digits -/
def groups (n k : Nat) : List Value := (List.range k).map fun j => Value.string ⟨(Lib.decDigits (dg 1000000000 n j)).toArray⟩
theorem groups_succ (n k : Nat) : groups n (k + 1) = groups n k ++ [Value.string ⟨(Lib.decDigits (dg 1000000000 n k)).toArray⟩] := by
  unfold groups; rw [List.range_succ, List.map_append]; rfl
theorem groups_len (n k : Nat) : (groups n k).length = k := by simp [groups]
theorem ownsRow_below {w w' : World} {base : Nat} {e : TypeId} {size : Nat} {v : Value} {n : Nat} {xs : List Value} (h : w.ownsRow base e size v n xs) (hb : Below w.heap.size w w') : w'.ownsRow base e size v n xs := by
  refine ⟨h.1, ?_⟩
  rcases h.2 with h2 | ⟨g, cap, cur, hv, hg, hh, r⟩
  · exact .inl h2
  · exact .inr ⟨g, cap, cur, hv, hg, (hb.block g (Array.getElem?_eq_some_iff.1 hh).1).trans hh, r⟩
theorem nd_groups {n m : Nat} (h : nd 4294967296 n ≤ m) : nd 1000000000 n ≤ 2 * m := by
  have h1 := (nd_le (by decide : 2 ≤ 4294967296)).1 h
  apply (nd_le (by decide : 2 ≤ 1000000000)).2
  refine Nat.lt_of_lt_of_le h1 ?_
  rw [Nat.pow_mul]
  exact Nat.pow_le_pow_left (by decide) _
theorem grownBy_of_below {w w' : World} (hb : Below w.heap.size w w') : w.grownBy w' none := ⟨hb.os, hb.tape, hb.output, hb.size, fun k hk _ => hb.block k hk⟩
theorem builder_below {w w' : World} {T e : TypeId} {B b : Nat} {bs : List Value} (h : Lib.IsBuilderF T e B b bs w) (hb : Below w.heap.size w w') : Lib.IsBuilderF T e B b bs w' := by
  have key : ∀ p, Lib.BuilderAtF T e B b p bs w → Lib.BuilderAtF T e B b p bs w' := by
    rintro p ⟨hB, v, hh, hown, hne⟩
    refine ⟨hB, v, ?_, hown.kept (grownBy_of_below hb) ?_, hne⟩
    · rw [hb.block b (Array.getElem?_eq_some_iff.1 hh).1]; exact hh
    · cases v.ownBlock <;> simp
  rcases h with h | h
  · exact .inl (key _ h)
  · exact .inr (key _ h)
def GrpRel (n : Nat) (w : World) (k : Nat) (gv rest : Value) (wr : World) : Prop :=
  k ≤ nd 1000000000 n ∧ D wr rest (n / 1000000000 ^ k) ∧ wr.ownsRow w.heap.size 9 1 gv k (groups n k) ∧ Below w.heap.size w wr
/-- what is written after t groups, of m -/
def acc (n m t : Nat) : List UInt8 := if t = 0 then [] else Lib.decDigits (n / 1000000000 ^ (m - t))
theorem acc_len {n m t : Nat} (h : n < 1000000000 ^ m) (ht : t ≤ m) : (acc n m t).length ≤ 9 * t := by
  unfold acc
  split
  · simp
  · rename_i h0
    apply dec_len_le (by omega)
    rw [Nat.pow_mul, Nat.div_lt_iff_lt_mul (Nat.pow_pos (by decide))]
    have e : (10 ^ 9 : Nat) = 1000000000 := by decide
    rw [e, ← Nat.pow_add, show t + (m - t) = m from by omega]
    exact h
theorem acc_one {n m : Nat} (h : n < 1000000000 ^ (m + 1)) : acc n (m + 1) 1 = Lib.decDigits (dg 1000000000 n m) := by
  unfold acc
  rw [if_neg (by decide), Nat.add_sub_cancel]
  congr 1
  unfold dg
  rw [Nat.mod_eq_of_lt]
  rw [Nat.div_lt_iff_lt_mul (Nat.pow_pos (by decide)), Nat.mul_comm, ← Nat.pow_succ]
  exact h
theorem acc_next {n m t j : Nat} (hm : m = t + 1 + j) (ht : 0 < t) (h1 : 1000000000 ^ (m - 1) ≤ n) :
    acc n m (t + 1) = acc n m t ++ (Lib.repeatL [48] (9 - (Lib.decDigits (dg 1000000000 n j)).length) ++ Lib.decDigits (dg 1000000000 n j)) := by
  rw [group_eq _ (dg_lt (by decide) _ _)]
  unfold acc
  rw [if_neg (by omega), if_neg (by omega), show m - (t + 1) = j from by omega, show m - t = j + 1 from by omega]
  apply dec_group
  apply Nat.div_pos _ (Nat.pow_pos (by decide))
  exact Nat.le_trans (Nat.pow_le_pow_right (by decide) (by omega)) h1
theorem acc_all {n m : Nat} (hm : 0 < m) : acc n m m = Lib.decDigits n := by
  unfold acc; rw [if_neg (by omega), Nat.sub_self, Nat.pow_zero, Nat.div_one]
set_option maxHeartbeats 1000000 in
set_option maxRecDepth 100000 in
theorem String_pos (v : Value) (n : Nat) (w : World) (hv : D w v n) (h0 : 0 < n) (hn : nd 4294967296 n ≤ 100000) (he : Env w) :
    Calls Tryd.prog 6 #[.agg #[v]] w fun e w' => e = .returned (.string ⟨(Lib.decDigits n).toArray⟩) ∧ Below w.heap.size w w' := by
  obtain ⟨i0, hi, hz0, hz1, hz2⟩ := info_parts Tryd.infoStr
  have b1 : ∀ o, Below w.heap.size w (w.alloc o) := fun o => (Below.refl _ _).alloc (Nat.le_refl _) _
  have HZ := Lib.hid (fun o => isZero_any v n (w.alloc o) (hv.below (b1 o)))
  rw [show decide (n = 0) = false from by simp; omega] at HZ
  have HV := Lib.hid (fun o => hv.below (b1 o))
  have HE := Lib.hid he
  have HB1 := Lib.hid b1
  obtain ⟨ao, ac, rfl, -⟩ := hv.shape
  clear hv b1 he
  go_enter Tryd.func6, Tryd.ntmps6
  go_wp2_with fail
  refine (HZ.out _).mono ?_
  rintro e w1 ⟨rfl, rfl⟩
  go_wp2
  go_loopg [3, 4] (nd 1000000000 n) (fun m gv rest wr => ∃ k, Hid (m + k = nd 1000000000 n) ∧ GrpRel n w k gv rest wr)
  case atStart => exact ⟨0, rfl, Nat.zero_le _, by rw [Nat.pow_zero, Nat.div_one]; exact HV.out _, World.ownsRow_nil _ _ _ _, HB1.out _⟩
  case round =>
    obtain ⟨k, HK, hk, hr, hown, hbel⟩ := hrel
    have hd : nd 4294967296 (n / 1000000000 ^ k) ≤ 100000 := Nat.le_trans (nd_mono (by decide) (Nat.div_le_self _ _)) hn
    have HZ2 := Lib.hid (isZero_any _ _ _ hr)
    by_cases hz : n / 1000000000 ^ k = 0
    · rw [show decide (n / 1000000000 ^ k = 0) = true from by simp [hz]] at HZ2
      have hkm : k = nd 1000000000 n := by
        rcases Nat.lt_or_ge k (nd 1000000000 n) with h | h
        · have h1 := nd_pow_le (by decide : 2 ≤ 1000000000) h0
          have h2 : 1000000000 ^ k ≤ 1000000000 ^ (nd 1000000000 n - 1) := Nat.pow_le_pow_right (by decide) (by omega)
          have h3 := Nat.div_pos (Nat.le_trans h2 h1) (Nat.pow_pos (by decide))
          omega
        · omega
      have hk0 : 0 < k := by rw [hkm]; exact nd_pos (by decide) h0
      obtain ⟨g, cap, hgv, hcg⟩ : ∃ g cap, _ = Value.slice (some ⟨g, 0, none⟩) k cap ∧ ∀ j, j < k → wr.cell? ⟨g, j, none⟩ = some (.string ⟨(Lib.decDigits (dg 1000000000 n j)).toArray⟩) := by
        have h' := hown
        rcases hown.2 with ⟨_, h⟩ | ⟨g, cap, cur, hv', _⟩
        · omega
        · rw [hv'] at h'
          refine ⟨g, cap, hv', fun j hj => ?_⟩
          rw [World.ownsRow.cellAt h' j (by omega)]
          simp [groups, hj]
      subst hgv
      have hn1 : n < 1000000000 ^ k := by rw [hkm]; exact nd_lt (by decide) n
      have hn2 : 1000000000 ^ (k - 1) ≤ n := by rw [hkm]; exact nd_pow_le (by decide) h0
      have hkb : k ≤ 200000 := by have := nd_groups hn; omega
      have HN1 := Lib.hid hn1; have HN2 := Lib.hid hn2
      have HBl := Lib.hid hbel; have HCG := Lib.hid hcg
      clear hz hkm hown hbel hr hd hn1 hn2 hcg hk
      go_wp2_with fail
      refine HZ2.out.mono ?_
      rintro e w' ⟨rfl, rfl⟩
      go_wp2
      obtain ⟨wo, rfl⟩ : ∃ wo : World, wo = wr := ⟨_, rfl⟩
      go_loopw [32] (fun t wx => ∃ i : Nat, i ≤ k ∧ t = .int .i64 i ∧ Lib.IsBuilderF 61 5 wo.heap.size wo.heap.size (Lib.byteCells (acc n k i)) wx ∧ Below wo.heap.size wo wx ∧ wo.heap.size < wx.heap.size) (fun t _ => k - (intOf t).toNat)
      case atStart => exact ⟨0, Nat.zero_le _, rfl, Lib.IsBuilderF.of (Lib.fresh_isBuilder 61 5 wo), (Below.refl _ _).alloc (Nat.le_refl _) _, by simp⟩
      case round =>
        obtain ⟨i, hi', rfl, hib, hbx, hsx⟩ := hrel
        have HIB := Lib.hid hib; have HBX := Lib.hid hbx
        clear hib hbx
        have HAL : Hid ((acc n k i).length ≤ 9 * i) := acc_len HN1.out hi'
        by_cases hlt : i < k
        · obtain ⟨j, hj⟩ : ∃ j, k = i + 1 + j := ⟨k - 1 - i, by omega⟩
          have hji : ((k : Int) - 1) - i = j := by omega
          have hjk : (j : Int) < k := by omega
          have hjk' : j < k := by omega
          have HJ := Lib.hid hj
          clear hj
          obtain ⟨S, hS⟩ : ∃ S : ByteArray, S = ⟨(Lib.decDigits (dg 1000000000 n j)).toArray⟩ := ⟨_, rfl⟩
          have hcell : wr.cell? ⟨g, j, none⟩ = some (.string S) := by
            have h1 := HCG.out j hjk'
            rw [HBX.out.cell (p := ⟨g, j, none⟩) (World.block_lt_of_cell? _ _ h1), hS]; exact h1
          have HSD : Hid (S.data.toList = Lib.decDigits (dg 1000000000 n j)) := by rw [hS]; rfl
          clear hS
          have hS9 : S.size ≤ 9 := by
            rw [← len_data, HSD.out]
            exact dec_len_le (by decide) (dg_lt (by decide) n j)
          rcases Nat.eq_zero_or_pos i with hi0 | hi0
          · have hi0' : ¬ (0 : Int) < i := by omega
            have HW := Lib.hid (Write_any wo.heap.size wo.heap.size _ S wr HIB.out (by rw [Lib.byteCells_length]; have := HAL.out; omega) (Nat.le_of_lt hsx))
            have HI0 := Lib.hid hi0; clear hi0
            go_wp2_with fail
            refine HW.out.mono ?_
            rintro e w5 ⟨rfl, hib5, hb5⟩
            have HE5 : Hid (Lib.IsBuilderF 61 5 wo.heap.size wo.heap.size (Lib.byteCells (acc n k (i + 1))) w5) := by
              have e : Lib.byteCells (acc n k (i + 1)) = Lib.byteCells (acc n k i) ++ Lib.strCells S := by
                rw [Lib.strCells_eq, ← Lib.byteCells_append, HSD.out, HI0.out]
                have h1 := HJ.out
                have h2 := HN1.out
                rw [HI0.out] at h1
                rw [h1, show 0 + 1 + j = j + 1 from by omega] at h2 ⊢
                rw [show 0 + 1 = 1 from rfl, acc_one h2]
                rfl
              rw [e]; exact hib5
            have HB5 := Lib.hid hb5
            have hs5 : wo.heap.size < w5.heap.size := Nat.lt_of_lt_of_le hsx hb5.size
            clear hib5 hb5
            go_wp2
            go_roundw
            case rel => exact ⟨i + 1, by omega, by go_num, HE5.out, HBX.out.trans HB5.out, hs5⟩
            case measure => simp [intOf]; omega
          · have hi0' : (0 : Int) < i := by omega
            have h9 : (9 : Int) - S.size = ((9 - S.size : Nat) : Int) := by omega
            have HRp := Lib.hid (Tryd.strings_Repeat ⟨#[48]⟩ (9 - S.size) wr (by omega) (by show 1 * (9 - S.size) ≤ _; omega))
            go_wp2_with fail
            refine HRp.out.mono ?_
            rintro e w5 ⟨rfl, hb5⟩
            have hib5 : Lib.IsBuilderF 61 5 wo.heap.size wo.heap.size (Lib.byteCells (acc n k i)) w5 := builder_below HIB.out hb5
            have HB5 := Lib.hid hb5
            have hs5 : wo.heap.size < w5.heap.size := Nat.lt_of_lt_of_le hsx hb5.size
            have hrl : (Lib.repeatL ([48] : List UInt8) (9 - S.size)).length ≤ 9 := by rw [repl_zero, List.length_replicate]; omega
            have HW := Lib.hid (Write_any wo.heap.size wo.heap.size _ ⟨(Lib.repeatL ([48] : List UInt8) (9 - S.size)).toArray⟩ w5 hib5 (by rw [Lib.byteCells_length, ← len_data]; have := HAL.out; show _ + (Lib.repeatL ([48] : List UInt8) (9 - S.size)).length ≤ _; omega) (Nat.le_of_lt hs5))
            clear hib5 hb5 h9
            go_wp2_with fail
            refine HW.out.mono ?_
            rintro e w6 ⟨rfl, hib6, hb6⟩
            have hs6 : wo.heap.size < w6.heap.size := Nat.lt_of_lt_of_le hs5 hb6.size
            have HW2 := Lib.hid (Write_any wo.heap.size wo.heap.size _ S w6 hib6 (by rw [List.length_append, Lib.byteCells_length, Lib.strCells_length, ← len_data ⟨_⟩]; have := HAL.out; show _ + (Lib.repeatL ([48] : List UInt8) (9 - S.size)).length + _ ≤ _; omega) (Nat.le_of_lt hs6))
            have HB6 := Lib.hid hb6
            clear hib6 hb6
            go_wp2_with fail
            refine HW2.out.mono ?_
            rintro e w7 ⟨rfl, hib7, hb7⟩
            have hs7 : wo.heap.size < w7.heap.size := Nat.lt_of_lt_of_le hs6 hb7.size
            have HE7 : Hid (Lib.IsBuilderF 61 5 wo.heap.size wo.heap.size (Lib.byteCells (acc n k (i + 1))) w7) := by
              have e : Lib.byteCells (acc n k (i + 1)) = Lib.byteCells (acc n k i) ++ Lib.strCells ⟨(Lib.repeatL ([48] : List UInt8) (9 - S.size)).toArray⟩ ++ Lib.strCells S := by
                rw [Lib.strCells_eq, Lib.strCells_eq, ← Lib.byteCells_append, ← Lib.byteCells_append, HSD.out, acc_next HJ.out hi0 HN2.out, ← len_data S, HSD.out, List.append_assoc]
              rw [e]; exact hib7
            have HBB : Hid (Below wo.heap.size wo w7) := ((HBX.out.trans (HB5.out.mono (Nat.le_of_lt hsx))).trans HB6.out).trans hb7
            clear hib7 hb7 hrl
            go_wp2
            go_roundw
            case rel => exact ⟨i + 1, by omega, by go_num, HE7.out, HBB.out, hs7⟩
            case measure => simp [intOf]; omega
        · obtain rfl : i = k := by omega
          have HS := Lib.hid (Tryd.Builder_String_any_k wo.heap.size wo.heap.size (acc n i i) wr HIB.out (Nat.le_of_lt hsx))
          have HA : Hid (acc n i i = Lib.decDigits n) := acc_all hk0
          clear hlt
          go_wp2_with fail
          refine HS.out.mono ?_
          rintro e w5 ⟨rfl, -, hb5, -⟩
          have HB5 := Lib.hid ((HBl.out.trans (HBX.out.mono HBl.out.size)).trans (hb5.mono HBl.out.size))
          clear hb5
          go_wp2
          go_ret
          exact ⟨by rw [HA.out]; rfl, HB5.out⟩
    · rw [show decide (n / 1000000000 ^ k = 0) = false from by simp [hz]] at HZ2
      have hkm : k < nd 1000000000 n := by
        rcases Nat.lt_or_ge k (nd 1000000000 n) with h | h
        · exact h
        · exact absurd (Nat.div_eq_of_lt (Nat.lt_of_lt_of_le (nd_lt (by decide) n) (Nat.pow_le_pow_right (by decide) h))) hz
      have HD := Lib.hid (divideByDigit_fresh _ (n / 1000000000 ^ k) 1000000000 wr hr (by omega) (by decide) (by decide))
      have hg : dg 1000000000 n k < 1000000000 := dg_lt (by decide) _ _
      rw [show (n / 1000000000 ^ k) % 1000000000 = dg 1000000000 n k from rfl, Nat.div_div_eq_div_mul, ← Nat.pow_succ] at HD
      have HO := Lib.hid hown; have HBl := Lib.hid hbel
      have hkb : k ≤ 100000000 := by have := nd_groups hn; omega
      have HRB := Lib.hid hown.lt
      have HGS := Lib.hid (groups_succ n k)
      clear hz hown hbel hr hd
      generalize dg 1000000000 n k = g at *
      have HI := Lib.hid (fun w (h : Env w) => Itoa_any g w (by omega) h)
      go_wp2_with fail
      refine HZ2.out.mono ?_
      rintro e w' ⟨rfl, rfl⟩
      go_wp2_with fail
      refine HD.out.mono ?_
      rintro e w2 ⟨r, rfl, hr2, hb2, hrf⟩
      have HRF := Lib.hid hrf; clear hrf
      have HR2 := Lib.hid hr2; have HB2 := Lib.hid hb2
      clear hr2 hb2
      have HE2 : Hid (Env w2) := (HE.out.below HBl.out).below HB2.out
      go_wp2_with fail
      refine (HI.out _ HE2.out).mono ?_
      rintro e w3 ⟨rfl, hb3⟩
      have hown3 := ownsRow_below (ownsRow_below HO.out HB2.out) hb3
      have HB3 := Lib.hid hb3
      clear hb3
      have hsz : w.heap.size ≤ w3.heap.size := Nat.le_trans HBl.out.size (Nat.le_trans HB2.out.size HB3.out.size)
      go_wp2_with (at_builtin; refine wpList_append_own _ rfl _ _ 41 rfl w.heap.size 9 i0 (.string ⟨#[]⟩) 1 16 Tryd.underlying41 hi hz0 hz1 hz2 rfl (by decide) _ _ _ rfl (hown3.alloc _) ⟨w3.heap.size, 0, none⟩ 1 1 [.string ⟨(Lib.decDigits g).toArray⟩] rfl rfl ?c1 ?c2 ?c3 ?c4 ?c5 ?_)
      case c1 => exact cell_one_new _ _ _
      case c2 => intro u hu; simp at hu; subst hu; rfl
      case c3 => unfold maxLen; omega
      case c4 => omega
      case c5 => simp; omega
      intro v' w4 hown4 hgrow hnil
      have HFIN : Hid (GrpRel n w (k + 1) v' r w4) := by
        refine ⟨by omega, ?_, by rw [HGS.out]; exact hown4, ?_⟩
        · have h1 := ((HR2.out.below HB3.out).below ((Below.refl w3.heap.size w3).alloc (Nat.le_refl _) (.cells #[.string ⟨(Lib.decDigits g).toArray⟩] 9)))
          rcases h1 with h1 | ⟨p1, b, o, cap, hv1, hc1⟩
          · exact .inl h1
          · refine .inr ⟨p1, b, o, cap, hv1, fun i hi => hgrow.cell (hc1 i hi) ?_⟩
            intro e
            have h3 := HRB.out _ e.symm
            have h4 := HRF.out
            rw [hv1] at h4
            simp only [Value.slice.injEq, Option.some.injEq, Addr.mk.injEq, and_true] at h4
            have h5 := h4.1.1
            have h6 : b = wr.heap.size := h5
            have h7 : b < wr.heap.size := h3.2
            omega
        · refine Below.grown ((HBl.out.trans (HB2.out.mono HBl.out.size)).trans (HB3.out.mono (Nat.le_trans HBl.out.size HB2.out.size)) |>.alloc (by omega) _) hgrow (by simp; omega) ?_
          intro j hj
          exact (HRB.out _ hj).1
      clear hown4 hgrow hnil hown3
      go_wp2
      go_roundg (nd 1000000000 n - (k + 1))
      case measure => have := HK.out; omega
      case rel => exact ⟨k + 1, by show _ = _; omega, HFIN.out⟩
end Go.Proofs.YthafnhjnlfpifaaDoor
namespace Go.Proofs.YthafnhjnlfpifaaDoor
open Go Go.RowKit Gu

theorem String_any (v : Value) (n : Nat) (w : World) (hv : D w v n) (hn : nd 4294967296 n ≤ 100000) (he : Env w) :
    Calls Tryd.prog 6 #[.agg #[v]] w fun e w' => e = .returned (.string ⟨(Lib.decDigits n).toArray⟩) ∧ Below w.heap.size w w' := by
  rcases Nat.eq_zero_or_pos n with h0 | h0
  · subst h0
    have HZ := Lib.hid (fun o => isZero_any v 0 (w.alloc o) (hv.below ((Below.refl _ _).alloc (Nat.le_refl _) _)))
    rw [show decide (0 = 0) = true from rfl] at HZ
    obtain ⟨ao, ac, rfl, -⟩ := hv.shape
    rw [nd_zero] at *
    have HD : Hid (Lib.decDigits 0 = [48]) := decDigits_small (by decide)
    clear hv
    go_enter Tryd.func6, Tryd.ntmps6
    go_wp2_with fail
    refine (HZ.out _).mono ?_
    rintro e w1 ⟨rfl, rfl⟩
    go_wp2
    go_ret
    exact ⟨by rw [HD.out]; rfl, (Below.refl _ _).alloc (Nat.le_refl _) _⟩
  · exact String_pos v n w hv h0 hn he
end Go.Proofs.YthafnhjnlfpifaaDoor
namespace Go.Proofs.YthafnhjnlfpifaaDoor
open Go Go.RowKit Gu

/-- terms of a fraction whose denominator is not 0 -/
theorem terms_pos (v u : Value) (a b : Nat) (w : World) (hv : D w v a) (hu : D w u b) (hb : 0 < b) :
    Calls Tryd.prog 42 #[.agg #[v, u]] w fun e w' => e = .returned (.tuple #[v, u]) ∧ Below w.heap.size w w' := by
  have HZ := Lib.hid (fun o => isZero_any u b (w.alloc o) (hu.below ((Below.refl _ _).alloc (Nat.le_refl _) _)))
  rw [show decide (b = 0) = false from by simp; omega] at HZ
  obtain ⟨ao, ac, rfl, -⟩ := hv.shape
  obtain ⟨bo, bc, rfl, -⟩ := hu.shape
  clear hv hu
  go_enter Tryd.func42, Tryd.ntmps42
  go_wp2_with fail
  refine (HZ.out _).mono ?_
  rintro e w1 ⟨rfl, rfl⟩
  go_wp2
  go_quiet (fail)
  go_wp2
  go_ret2
  exact ⟨rfl, below_drewN ((Below.refl _ _).alloc (Nat.le_refl _) _) _⟩
theorem dec_bound {n m : Nat} (h : nd 4294967296 n ≤ m) (hm : 0 < m) : (Lib.decDigits n).length ≤ 10 * m := by
  apply dec_len_le (by omega)
  refine Nat.lt_of_lt_of_le ((nd_le (by decide)).1 h) ?_
  rw [Nat.pow_mul]
  exact Nat.pow_le_pow_left (by decide) _
theorem slash (la lb : List UInt8) : (⟨la.toArray⟩ ++ ⟨#[47]⟩ ++ ⟨lb.toArray⟩ : ByteArray) = ⟨(la ++ 47 :: lb).toArray⟩ := by
  apply ByteArray.ext
  simp [ByteArray.data_append]
theorem ret_str {a b : ByteArray} (h : a = b) : Ending.returned (.string a) = .returned (.string b) := by rw [h]
set_option maxHeartbeats 400000 in
/-- String of a fraction whose denominator is greater than 1 -/
theorem FracString_two (v u : Value) (a b : Nat) (w : World) (hv : D w v a) (hu : D w u b) (hb : 1 < b) (ha : nd 4294967296 a ≤ 100000) (hb2 : nd 4294967296 b ≤ 100000) (he : Env w) :
    Calls Tryd.prog 48 #[.agg #[v, u]] w fun e w' => e = .returned (.string ⟨(Lib.decDigits a ++ 47 :: Lib.decDigits b).toArray⟩) ∧ Below w.heap.size w w' := by
  have b1 : ∀ o, Below w.heap.size w (w.alloc o) := fun o => (Below.refl _ _).alloc (Nat.le_refl _) _
  have HT := Lib.hid (fun o => terms_pos v u a b (w.alloc o) (hv.below (b1 o)) (hu.below (b1 o)) (by omega))
  have HO := Lib.hid (fun o w' (h : Below (w.alloc o).heap.size (w.alloc o) w') => isOne_any u b w' ((hu.below (b1 o)).below h))
  rw [show decide (b = 1) = false from by simp; omega] at HO
  have HSA := Lib.hid (fun o w' (h : Below (w.alloc o).heap.size (w.alloc o) w') => String_any v a w' ((hv.below (b1 o)).below h) ha ((he.below (b1 o)).below h))
  have HSB := Lib.hid (fun o w' (h : Below (w.alloc o).heap.size (w.alloc o) w') => String_any u b w' ((hu.below (b1 o)).below h) hb2 ((he.below (b1 o)).below h))
  have HB1 := Lib.hid b1
  obtain ⟨Sa, hSa⟩ : ∃ Sa : ByteArray, Sa = ⟨(Lib.decDigits a).toArray⟩ := ⟨_, rfl⟩
  obtain ⟨Sb, hSb⟩ : ∃ Sb : ByteArray, Sb = ⟨(Lib.decDigits b).toArray⟩ := ⟨_, rfl⟩
  rw [← hSa] at HSA; rw [← hSb] at HSB
  have hla : Sa.size ≤ 1000000 := by rw [hSa, ← len_data]; exact dec_bound ha (by decide)
  have hlb : Sb.size ≤ 1000000 := by rw [hSb, ← len_data]; exact dec_bound hb2 (by decide)
  have HA := Lib.hid hSa; have HB := Lib.hid hSb
  obtain ⟨ao, ac, rfl, -⟩ := hv.shape
  obtain ⟨bo, bc, rfl, -⟩ := hu.shape
  clear hv hu b1 he hSa hSb
  go_enter Tryd.func48, Tryd.ntmps48
  go_wp2_with fail
  refine (HT.out _).mono ?_
  rintro e w1 ⟨rfl, hb1⟩
  have HB2 := Lib.hid hb1; clear hb1
  go_wp2_with fail
  refine (HO.out _ _ HB2.out).mono ?_
  rintro e w2 ⟨rfl, rfl⟩
  go_wp2_with fail
  refine (HSA.out _ _ HB2.out).mono ?_
  rintro e w2 ⟨rfl, hb2⟩
  have HB3 := Lib.hid (HB2.out.trans (hb2.mono HB2.out.size)); clear hb2
  go_wp2_with fail
  refine (HSB.out _ _ HB3.out).mono ?_
  rintro e w3 ⟨rfl, hb3⟩
  have HB4 := Lib.hid ((HB1.out _).trans ((HB3.out.trans (hb3.mono HB3.out.size)).mono (by simp))); clear hb3
  go_wp2
  go_ret
  exact ⟨ret_str (by rw [HA.out, HB.out]; exact slash _ _), HB4.out⟩
end Go.Proofs.YthafnhjnlfpifaaDoor
namespace Go.Proofs.YthafnhjnlfpifaaDoor
open Go Go.RowKit Gu

theorem fit_small {n : Nat} (h : n < 2 ^ 64) : fitE n = 0 ∧ fitN n = n := by
  have : nd 2 n ≤ 16384 := Nat.le_trans ((nd_le (by decide : 2 ≤ 2)).2 h) (by decide)
  exact ⟨if_pos this, if_pos this⟩
theorem nd_small {n : Nat} (h : n < 4294967296) : nd 4294967296 n ≤ 1 := (nd_le (by decide)).2 (by simpa using h)
theorem parse10 (w : World) : Calls Tryd.prog 47 #[.string ⟨#[49, 48]⟩] w fun e w' => ∃ r, e = .returned (.tuple #[.agg #[r], .int .i64 0]) ∧ D w' r 10 ∧ Below w.heap.size w w' := by
  have h := Parse_num ⟨#[49, 48]⟩ w (by decide) (by decide)
  have e : sval (⟨#[49, 48]⟩ : ByteArray).data.toList = 10 := by decide
  rw [e, (fit_small (by decide : 10 < 2 ^ 64)).1, (fit_small (by decide : 10 < 2 ^ 64)).2] at h
  exact h
theorem add17 (v u : Value) (w : World) (hv : D w v 7) (hu : D w u 10) : Calls Tryd.prog 7 #[.agg #[v], .agg #[u]] w fun e w' => ∃ r, e = .returned (.tuple #[.agg #[r], .int .i64 0]) ∧ D w' r 17 ∧ Below w.heap.size w w' := by
  have h := Add_any v u 7 10 w hv hu (Nat.le_trans (nd_small (by decide)) (by decide)) (Nat.le_trans (nd_small (by decide)) (by decide))
  rw [(fit_small (by decide : 7 + 10 < 2 ^ 64)).1, (fit_small (by decide : 7 + 10 < 2 ^ 64)).2] at h
  exact h
theorem frac710 (v u : Value) (w : World) (hv : D w v 7) (hu : D w u 10) : Calls Tryd.prog 15 #[.agg #[v], .agg #[u]] w fun e w' => ∃ r s, e = .returned (.tuple #[.agg #[r, s], .int .i64 0]) ∧ D w' r 7 ∧ D w' s 10 ∧ Below w.heap.size w w' := by
  have h := NewFrac_any divide_small v u 7 10 w hv hu (by decide) (by decide) (by decide)
  have e : Nat.gcd 7 10 = 1 := by decide
  rw [e] at h
  exact h
theorem str17 (v : Value) (w : World) (hv : D w v 17) (he : Env w) : Calls Tryd.prog 6 #[.agg #[v]] w fun e w' => e = .returned (.string ⟨#[49, 55]⟩) ∧ Below w.heap.size w w' := by
  have h := String_any v 17 w hv (Nat.le_trans (nd_small (by decide)) (by decide)) he
  have e : Lib.decDigits 17 = [49, 55] := by
    rw [decDigits_big (by decide), decDigits_small (by decide)]; rfl
  rw [e] at h
  exact h
theorem fstr710 (v u : Value) (w : World) (hv : D w v 7) (hu : D w u 10) (he : Env w) : Calls Tryd.prog 48 #[.agg #[v, u]] w fun e w' => e = .returned (.string ⟨#[55, 47, 49, 48]⟩) ∧ Below w.heap.size w w' := by
  have h := FracString_two v u 7 10 w hv hu (by decide) (Nat.le_trans (nd_small (by decide)) (by decide)) (Nat.le_trans (nd_small (by decide)) (by decide)) he
  have e : Lib.decDigits 7 ++ 47 :: Lib.decDigits 10 = [55, 47, 49, 48] := by
    rw [decDigits_big (u := 10) (by decide), decDigits_small (u := 7) (by decide), decDigits_small (by decide)]; rfl
  rw [e] at h
  exact h
set_option maxHeartbeats 1000000 in
set_option maxRecDepth 100000 in
theorem awake_any (w : World) (he : Env w) :
    Calls Tryd.prog 19 #[] w fun e w' => e = .returned (.bool true) ∧ Below w.heap.size w w' := by
  have H7 := Lib.hid (New_any 7 w (by decide))
  have HE := Lib.hid he
  clear he
  go_enter Tryd.func19, Tryd.ntmps19
  go_wp2_with fail
  refine H7.out.mono ?_
  rintro e w1 ⟨va, rfl, hva, hb1⟩
  obtain ⟨ao, ac, rfl, -⟩ := hva.shape
  have HVA := Lib.hid hva; have HB1 := Lib.hid hb1
  clear hva hb1
  go_wp2_with fail
  refine (parse10 _).mono ?_
  rintro e w2 ⟨vb, rfl, hvb, hb2⟩
  obtain ⟨bo, bc, rfl, -⟩ := hvb.shape
  have hz2 := hb2.size
  simp only [World.size_alloc] at hz2
  have hl2 : w1.heap.size < w2.heap.size := by omega
  have HVA2 : Hid (D w2 (.slice ao (nd 4294967296 7) ac) 7) := (HVA.out.below ((Below.refl _ _).alloc (Nat.le_refl _) _)).below hb2
  have HB2 : Hid (Below w.heap.size w w2) := (HB1.out.alloc HB1.out.size _).trans (hb2.mono (by simp; have := HB1.out.size; omega))
  have cA : w2.cell? ⟨w1.heap.size, 0, none⟩ = some (.slice ao (nd 4294967296 7) ac) := (hb2.cell (p := ⟨w1.heap.size, 0, none⟩) (by simp)).trans (World.cell?_alloc_at _ _ _ _ rfl)
  have HVB := Lib.hid hvb
  clear hvb hb2
  go_wp2_with fail
  refine (add17 _ _ _ (HVA2.out.below ((Below.refl _ _).alloc (Nat.le_refl _) _)) (HVB.out.below ((Below.refl _ _).alloc (Nat.le_refl _) _))).mono ?_
  rintro e w3 ⟨vc, rfl, hvc, hb3⟩
  obtain ⟨co, cc, rfl, -⟩ := hvc.shape
  have hz3 := hb3.size
  simp only [World.size_alloc] at hz3
  have hl3 : w2.heap.size < w3.heap.size := by omega
  have HVA3 : Hid (D w3 (.slice ao (nd 4294967296 7) ac) 7) := (HVA2.out.below ((Below.refl _ _).alloc (Nat.le_refl _) _)).below hb3
  have HVB3 : Hid (D w3 (.slice bo (nd 4294967296 10) bc) 10) := (HVB.out.below ((Below.refl _ _).alloc (Nat.le_refl _) _)).below hb3
  have HB3 : Hid (Below w.heap.size w w3) := (HB2.out.alloc HB2.out.size _).trans (hb3.mono (by simp; have := HB2.out.size; omega))
  have cA3 : w3.cell? ⟨w1.heap.size, 0, none⟩ = some (.slice ao (nd 4294967296 7) ac) := ((hb3.cell (p := ⟨w1.heap.size, 0, none⟩) (by simp; omega)).trans (World.cell?_alloc_past _ _ _ (by omega))).trans cA
  have hl13 : w1.heap.size < w3.heap.size := by omega
  have cB3 : w3.cell? ⟨w2.heap.size, 0, none⟩ = some (.slice bo (nd 4294967296 10) bc) := (hb3.cell (p := ⟨w2.heap.size, 0, none⟩) (by simp)).trans (World.cell?_alloc_at _ _ _ _ rfl)
  have HVC := Lib.hid hvc
  clear hvc hb3 cA
  go_wp2_with fail
  refine (frac710 _ _ _ (HVA3.out.below ((Below.refl _ _).alloc (Nat.le_refl _) _)) (HVB3.out.below ((Below.refl _ _).alloc (Nat.le_refl _) _))).mono ?_
  rintro e w4 ⟨vd, ve, rfl, hvd, hve, hb4⟩
  obtain ⟨d_o, dc, rfl, -⟩ := hvd.shape
  obtain ⟨eo, ec, rfl, -⟩ := hve.shape
  have hz4 := hb4.size
  simp only [World.size_alloc] at hz4
  have hl4 : w3.heap.size < w4.heap.size := by omega
  have HVC4 : Hid (D w4 (.slice co (nd 4294967296 17) cc) 17) := (HVC.out.below ((Below.refl _ _).alloc (Nat.le_refl _) _)).below hb4
  have HB4 : Hid (Below w.heap.size w w4) := (HB3.out.alloc HB3.out.size _).trans (hb4.mono (by simp; have := HB3.out.size; omega))
  have cC4 : w4.cell? ⟨w3.heap.size, 0, none⟩ = some (.slice co (nd 4294967296 17) cc) := (hb4.cell (p := ⟨w3.heap.size, 0, none⟩) (by simp)).trans (World.cell?_alloc_at _ _ _ _ rfl)
  have HVD := Lib.hid hvd; have HVE := Lib.hid hve
  clear hvd hve hb4 cA3 cB3
  go_wp2_with fail
  refine (str17 _ _ (HVC4.out.below ((Below.refl _ _).alloc (Nat.le_refl _) _)) ((HE.out.below HB4.out).below ((Below.refl _ _).alloc (Nat.le_refl _) _))).mono ?_
  rintro e w5 ⟨rfl, hb5⟩
  have hz5 := hb5.size
  simp only [World.size_alloc] at hz5
  have hl5 : w4.heap.size < w5.heap.size := by omega
  have HVD5 : Hid (D w5 (.slice d_o (nd 4294967296 7) dc) 7) := (HVD.out.below ((Below.refl _ _).alloc (Nat.le_refl _) _)).below hb5
  have HVE5 : Hid (D w5 (.slice eo (nd 4294967296 10) ec) 10) := (HVE.out.below ((Below.refl _ _).alloc (Nat.le_refl _) _)).below hb5
  have HB5 : Hid (Below w.heap.size w w5) := (HB4.out.alloc HB4.out.size _).trans (hb5.mono (by simp; have := HB4.out.size; omega))
  have cD5 : w5.cell? ⟨w4.heap.size, 0, none⟩ = some (.slice d_o (nd 4294967296 7) dc) := (hb5.cell (p := ⟨w4.heap.size, 0, none⟩) (by simp)).trans (World.cell?_alloc_at _ _ _ _ rfl)
  have cE5 : w5.cell? ⟨w4.heap.size, 1, none⟩ = some (.slice eo (nd 4294967296 10) ec) := (hb5.cell (p := ⟨w4.heap.size, 1, none⟩) (by simp)).trans (World.cell?_alloc_at _ _ _ _ rfl)
  clear hb5 cC4
  go_wp2_with fail
  refine (fstr710 _ _ _ HVD5.out HVE5.out (HE.out.below HB5.out)).mono ?_
  rintro e w6 ⟨rfl, hb6⟩
  have HB6 := Lib.hid (HB5.out.trans (hb6.mono HB5.out.size))
  clear hb6
  go_wp2
  go_ret
  exact ⟨rfl, HB6.out⟩
end Go.Proofs.YthafnhjnlfpifaaDoor
namespace Go.Proofs.YthafnhjnlfpifaaDoor
open Go Go.RowKit Gu

abbrev R (w : World) (v : Value) (n : Nat) : Prop := IsN .i64 65536 w v n
theorem Tryd.infoInt : (Tryd.prog.info? 3).map (fun i => (i.zero, i.size, i.bytes)) = some (some (.int .i64 0), 1, 8) := by kernel_rfl
theorem made_int (n : Nat) (h : n ≤ 1099511627776) : ∀ w, (Instr.makeSlice 29 (.int .i64 (n : Int)) (.int .i64 (n : Int))).run Tryd.prog w = .ok (.slice (some ⟨w.heap.size, 0, none⟩) n n) (w.alloc (.cells (madeCells #[.int .i64 0] n) 3)) := fun w => by
  have := run_make_row' (P := Tryd.prog) 29 3 (.int .i64 0) 8 Tryd.underlying29 Tryd.infoInt rfl .i64 .i64 n (by omega) (by omega)
  exact this w
set_option maxHeartbeats 400000 in
theorem Trim_any (g m cap x : Nat) (w : World) (hc : ∀ i, i < m → w.cell? ⟨g, i, none⟩ = some (.int .i64 (dg 65536 x i : Nat))) (hx : x < 65536 ^ m) (hm : m ≤ 4611686018427387904) (hcap : m ≤ cap) :
    Calls Tryd.prog 21 #[.slice (some ⟨g, 0, none⟩) m cap] w fun e w' => e = .returned (.slice (some ⟨g, 0, none⟩) (nd 65536 x) cap) ∧ w = w' := by
  have hB : 2 ≤ 65536 := by decide
  have hle : nd 65536 x ≤ m := (nd_le hB).2 hx
  go_enter Tryd.func21, Tryd.ntmps21
  go_wp2
  go_loop [3] (fun n => ∃ k : Nat, nd 65536 x ≤ k ∧ k ≤ m ∧ n = .int .i64 k) (fun n => (intOf n).toNat)
  case atStart => exact ⟨m, hle, Nat.le_refl _, rfl⟩
  case round =>
    obtain ⟨k, hk1, hk2, rfl⟩ := hrel
    rcases Nat.eq_or_lt_of_le hk1 with hk | hk
    · have HK := Lib.hid hk
      rcases Nat.eq_zero_or_pos k with h0 | h0
      · subst h0
        clear hk hc
        go_wp2
        go_ret
        exact ⟨ret_slice HK.out.symm rfl, rfl⟩
      · have htop : 0 < dg 65536 x (k - 1) := by
          rw [← hk]; exact dg_top hB (by rcases Nat.eq_zero_or_pos x with h | h; (subst h; rw [nd_zero] at hk; omega); exact h)
        have hcell := hc (k - 1) (by omega)
        generalize dg 65536 x (k - 1) = t at *
        clear hk hc
        go_wp2
        go_ret
        exact ⟨ret_slice HK.out.symm rfl, rfl⟩
    · have hz : dg 65536 x (k - 1) = 0 := dg_high (by decide) (nd_lt hB x) (by omega)
      have hcell := hc (k - 1) (by omega)
      rw [hz] at hcell
      clear hz hc
      go_wp2
      go_round
      case rel => exact ⟨k - 1, by omega, by omega, by go_num⟩
      case measure => simp [intOf]; omega
theorem Trim_buf (g m cap x : Nat) (w : World) (h : Buf .i64 65536 3 w g m x) (hx : x < 65536 ^ m) (hm : m ≤ 4611686018427387904) (hcap : m ≤ cap) :
    Calls Tryd.prog 21 #[.slice (some ⟨g, 0, none⟩) m cap] w fun e w' => e = .returned (.slice (some ⟨g, 0, none⟩) (nd 65536 x) cap) ∧ w = w' :=
  Trim_any g m cap x w (fun _ hi => h.cell hi) hx hm hcap
/-- what the loop of Small keeps -/
def SmlRel (a b la : Nat) (w : World) (k Q r : Nat) (wr : World) : Prop :=
  a / 65536 ^ k = Q * b + r ∧ r < b ∧ Buf .i64 65536 3 wr w.heap.size la (0 + 65536 ^ k * Q) ∧ Below w.heap.size w wr
theorem SmlRel.next {a b la : Nat} {w : World} {k Q r : Nat} {wr : World} (h : SmlRel a b la w (k + 1) Q r wr) :
    SmlRel a b la w k (65536 * Q + (r * 65536 + dg 65536 a k) / b) ((r * 65536 + dg 65536 a k) % b) (wr.setCell ⟨w.heap.size, k, none⟩ (.int .i64 (((r * 65536 + dg 65536 a k) / b : Nat) : Int))) := by
  obtain ⟨h1, h2, h3, h4⟩ := h
  have hb : 0 < b := by omega
  have hda := dg_lt (B := 65536) (by decide) a k
  have hq := divdig_lt h2 hda
  refine ⟨divdig_round hb h1 h2, Nat.mod_lt _ hb, ?_, h4.setCell (Nat.le_refl _) _⟩
  have e : 0 + 65536 ^ (k + 1) * Q = 0 + 65536 ^ k * (0 + 65536 * Q) := by rw [Nat.pow_succ, Nat.mul_assoc, Nat.zero_add, Nat.zero_add, Nat.zero_add]
  rw [e] at h3
  have := Buf.set h3 (by decide) (Nat.pow_pos (by decide)) (by decide) hq
  rw [Nat.add_comm (65536 * Q)]
  exact this
set_option maxHeartbeats 1000000 in
theorem Small_any (v : Value) (a b : Nat) (w : World) (hv : R w v a) (ha : nd 65536 a ≤ 1048576) (hb : 0 < b) (hb2 : b ≤ 65536) :
    Calls Tryd.prog 70 #[v, .int .i64 b] w fun e w' => ∃ r, e = .returned (.tuple #[r, .int .i64 (a % b : Nat)]) ∧ R w' r (a / b) ∧ Below w.heap.size w w' ∧ ∃ c, r = .slice (some ⟨w.heap.size, 0, none⟩) (nd 65536 (a / b)) c := by
  have hB : 2 ≤ 65536 := by decide
  obtain ⟨ao, ac, hv', hcv⟩ := hv.shape
  have hla := nd_lt hB a
  subst hv'
  clear hv
  generalize hma : nd 65536 a = la at *
  clear hma
  have HL := Lib.hid hla; clear hla
  have hmk := made_int la (by omega)
  go_enter Tryd.func70, Tryd.ntmps70
  go_wp2
  go_loopw [7, 8] (fun r t wr => ∃ k Q rr : Nat, k ≤ la ∧ t = .int .i64 ((k : Int) - 1) ∧ r = .int .i64 rr ∧ SmlRel a b la w k Q rr wr) (fun _ t _ => (intOf t + 1).toNat)
  case atStart => exact ⟨la, 0, 0, Nat.le_refl _, rfl, rfl, by rw [Nat.div_eq_of_lt HL.out]; simp, hb, by simpa using Buf.made _ _ _ _ _, (Below.refl _ _).alloc (Nat.le_refl _) _⟩
  case round =>
    obtain ⟨k, Q, r, hk, rfl, rfl, hrel⟩ := hrel
    cases k with
    | succ k =>
      rw [show ((k + 1 : Nat) : Int) - 1 = k from by omega]
      have HN := Lib.hid hrel.next
      obtain ⟨-, hr, hbuf, hbel⟩ := hrel
      obtain ⟨gb, go, rfl, hca⟩ := hcv k (by omega)
      have hca' : wr.cell? ⟨gb, go + k, none⟩ = some (.int .i64 (dg 65536 a k : Nat)) := by
        rw [hbel.cell (p := ⟨gb, go + k, none⟩) (World.block_lt_of_cell? _ _ hca)]; exact hca
      have hcell := hbuf.cell (i := k) (by omega)
      have hfr := hbuf.frozen k
      clear hcv hca hbuf hbel
      have hkl : (k : Int) < la := by omega
      have hda := dg_lt (B := 65536) (by decide) a k
      have hq := divdig_lt hr hda
      generalize dg 65536 a k = d at *
      generalize dg 65536 (0 + 65536 ^ (k + 1) * Q) k = dx at *
      have hrb : r * 65536 + d < 4294967296 * 65536 := by omega
      have HE : Hid (((r * 65536 + d : Nat) : Int) = (r : Int) * 65536 + d) := by show _ = _; omega
      have HN2 := HN.out
      rw [show (((r * 65536 + d) / b : Nat) : Int) = ((r : Int) * 65536 + d) / b from by rw [Int.natCast_ediv, HE.out]] at HN2
      have HN3 := Lib.hid HN2
      have HM : Hid ((((r * 65536 + d) % b : Nat) : Int) = ((r : Int) * 65536 + d) % b) := by show _ = _; rw [Int.natCast_emod, HE.out]
      clear HN2 HN
      go_wp2
      go_roundw
      case rel => exact ⟨k, _, (r * 65536 + d) % b, by omega, by go_num, congrArg _ HM.out.symm, HN3.out⟩
      case measure => simp [intOf]
    | zero =>
      rw [show ((0 : Nat) : Int) - 1 = -1 from rfl]
      obtain ⟨h1, hr, hbuf, hbel⟩ := hrel
      rw [Nat.pow_zero, Nat.div_one] at h1
      rw [Nat.pow_zero, Nat.one_mul, Nat.zero_add] at hbuf
      have hq : a / b = Q := by rw [h1, Nat.add_comm, Nat.add_mul_div_right _ _ hb, Nat.div_eq_of_lt hr, Nat.zero_add]
      have hm : a % b = r := by rw [h1, Nat.add_comm, Nat.add_mul_mod_self_right, Nat.mod_eq_of_lt hr]
      have hlt : Q < 65536 ^ la := by rw [← hq]; exact Nat.lt_of_le_of_lt (Nat.div_le_self _ _) HL.out
      have HBuf := Lib.hid hbuf; have HBel := Lib.hid hbel; have HX := Lib.hid hlt; have HQ := Lib.hid hq; have HM := Lib.hid hm
      clear h1 hbuf hbel hlt hq hm hcv
      go_wp2_with fail
      refine (Trim_buf _ _ _ Q _ HBuf.out HX.out (by omega) (by omega)).mono ?_
      rintro e w' ⟨rfl, rfl⟩
      go_wp2
      go_ret2
      exact ⟨.slice (some ⟨w.heap.size, 0, none⟩) (nd 65536 Q) la, by rw [HM.out]; rfl, HQ.out ▸ HBuf.out.isN hB HX.out _, HBel.out, la, by rw [HQ.out]⟩
end Go.Proofs.YthafnhjnlfpifaaDoor
namespace Go.Proofs.YthafnhjnlfpifaaDoor
open Go Go.RowKit Gu

theorem nd_le_self16 {n : Nat} (h : n ≤ 9223372036854775807) : nd 65536 n ≤ 4 := (nd_le (by decide)).2 (by omega)
/-- what the loop of Of keeps: k digits are out -/
def OfRel (n : Nat) (w : World) (k : Nat) (v : Value) (wr : World) : Prop :=
  k ≤ nd 65536 n ∧ Own .i64 65536 3 wr w.heap.size v k (n % 65536 ^ k) ∧ Below w.heap.size w wr
end Go.Proofs.YthafnhjnlfpifaaDoor
