/- Contracts and lemmas (several texts merged into one). -/
import Derived.Test.YteajinpfigejfaaDoorBPdp4
import Derived.Laws.CopyOwn
import Derived.Deep.DeepMust
import Derived.Lib.ItoaNum
namespace Go.Proofs.YteajinpfigejfaaDoor
open Go Go.RowKit Gu

/-- a number's digits copied over a row of zeros -/
theorem copy_row {cur : List Value} {m x : Nat} (hz : ∀ i, i < m → cur[i]? = some (.int .u32 0)) (hx : x < 4294967296 ^ m) (i : Nat) (hi : i < m) :
    ((splice cur 0 ((pad 4294967296 (nd 4294967296 x) x).map fun d : Nat => Value.int .u32 (d : Int))).toArray)[i]? = some (.int .u32 (dg 4294967296 x i : Nat)) := by
  have hnd : nd 4294967296 x ≤ m := (nd_le (by decide)).2 hx
  have hl : ((pad 4294967296 (nd 4294967296 x) x).map fun d : Nat => Value.int .u32 (d : Int)).length = nd 4294967296 x := by simp [pad]
  simp only [splice, List.take_zero, List.nil_append, List.getElem?_toArray]
  by_cases h : i < nd 4294967296 x
  · rw [List.getElem?_append_left (by rw [hl]; exact h)]
    simp [pad, h]
  · rw [List.getElem?_append_right (by rw [hl]; omega), hl, List.getElem?_drop, show 0 + nd 4294967296 x + (i - nd 4294967296 x) = i from by omega, hz i hi]
    rw [dg_high (by decide) (nd_lt (by decide) x) (by omega)]
    rfl
theorem lz_pow {t : Nat} (h0 : 0 < t) (h : t < 4294967296) : Go.Lib.bitLen t ≤ 32 ∧ 0 < Go.Lib.bitLen t ∧ t * 2 ^ (32 - Go.Lib.bitLen t) < 4294967296 := by
  have h1 : Go.Lib.bitLen t ≤ 32 := Go.Lib.bitLen_le t 32 (by decide) (by simpa using h)
  have h2 : t < 2 ^ Go.Lib.bitLen t := (Go.Lib.bitLenAux_bounds 64 t (by omega) (by omega)).2.2
  refine ⟨h1, ?_, ?_⟩
  · rcases Nat.eq_zero_or_pos (Go.Lib.bitLen t) with h' | h'
    · rw [h'] at h2; simp at h2; omega
    · exact h'
  · have h3 : t * 2 ^ (32 - Go.Lib.bitLen t) < 2 ^ Go.Lib.bitLen t * 2 ^ (32 - Go.Lib.bitLen t) := Nat.mul_lt_mul_of_pos_right h2 (Nat.pow_pos (by decide))
    rw [← Nat.pow_add, show Go.Lib.bitLen t + (32 - Go.Lib.bitLen t) = 32 from by omega] at h3
    simpa using h3
/-- the divisor, shifted, has as many digits -/
theorem shl_nd {b s n : Nat} (hn : nd 4294967296 b = n) (hn2 : 2 ≤ n) (hs : dg 4294967296 b (n - 1) * 2 ^ s < 4294967296) (hs32 : s ≤ 32) : nd 4294967296 (b * 2 ^ s) = n := by
  have hB : 2 ≤ 4294967296 := by decide
  have hp : 0 < 2 ^ s := Nat.pow_pos (by decide)
  have h1 := nd_lt hB b
  rw [hn] at h1
  have hle : nd 4294967296 b ≤ nd 4294967296 (b * 2 ^ s) := nd_mono hB (Nat.le_mul_of_pos_right _ hp)
  have hge : nd 4294967296 (b * 2 ^ s) ≤ n := by
    apply (nd_le hB).2
    have e1 := div_succ 4294967296 b (n - 1)
    rw [show n - 1 + 1 = n from by omega, Nat.div_eq_of_lt h1, Nat.mul_zero, Nat.add_zero] at e1
    rw [← e1] at hs
    have e2 : b < (b / 4294967296 ^ (n - 1) + 1) * 4294967296 ^ (n - 1) := by
      have := Nat.lt_div_mul_add (Nat.pow_pos (n := n - 1) (by decide : 0 < 4294967296)) (a := b)
      rw [Nat.add_mul, Nat.one_mul]; exact this
    have e3 : b * 2 ^ s < ((b / 4294967296 ^ (n - 1) + 1) * 4294967296 ^ (n - 1)) * 2 ^ s := Nat.mul_lt_mul_of_pos_right e2 hp
    have e4 : (b / 4294967296 ^ (n - 1) + 1) * 2 ^ s ≤ 4294967296 := by
      have e6 := pow_dvd32 hs32
      have e7 : b / 4294967296 ^ (n - 1) * 2 ^ s < 2 ^ (32 - s) * 2 ^ s := by rw [Nat.mul_comm (2 ^ (32 - s)), ← e6]; exact hs
      have e8 := Nat.lt_of_mul_lt_mul_right e7
      have e9 : (b / 4294967296 ^ (n - 1) + 1) * 2 ^ s ≤ 2 ^ (32 - s) * 2 ^ s := Nat.mul_le_mul_right _ e8
      rw [Nat.mul_comm (2 ^ (32 - s)), ← e6] at e9
      exact e9
    have e5 : ((b / 4294967296 ^ (n - 1) + 1) * 4294967296 ^ (n - 1)) * 2 ^ s ≤ 4294967296 ^ n := by
      rw [Nat.mul_right_comm]
      refine Nat.le_trans (Nat.mul_le_mul_right _ e4) ?_
      rw [Nat.mul_comm, ← Nat.pow_succ]
      exact Nat.pow_le_pow_right (by decide) (by omega)
    omega
  omega
theorem Buf.grown {k : IntKind} {B : Nat} {T : TypeId} {w w' : World} {g gq m x : Nat} (h : Buf k B T w gq m x) (hb : w.grownBy w' (some g)) (hne : gq ≠ g) : Buf k B T w' gq m x :=
  World.rowIs.of_block h (hb.block gq (Buf.lt h) (by simp only [ne_eq, Option.some.injEq]; intro e; exact hne e))
/-- the arithmetic of one round -/
theorem long_digit {B x d k : Nat} (hd : 0 < d) : (x / B ^ k) % d = (dg B x k + B * ((x / B ^ (k + 1)) % d)) % d ∧ (x / B ^ k) / d = (dg B x k + B * ((x / B ^ (k + 1)) % d)) / d + B * ((x / B ^ (k + 1)) / d) := by
  have e1 := div_succ B x k
  have e2 := Nat.div_add_mod (x / B ^ (k + 1)) d
  generalize x / B ^ (k + 1) = y at *
  have e3 : x / B ^ k = dg B x k + B * (y % d) + d * (B * (y / d)) := by
    rw [e1]
    have : B * y = B * (d * (y / d)) + B * (y % d) := by rw [← Nat.mul_add, e2]
    rw [this, Nat.mul_left_comm]; omega
  rw [e3]
  exact ⟨Nat.add_mul_mod_self_left _ _ _, Nat.add_mul_div_left _ _ hd⟩
theorem long_lt {B x d k : Nat} (hB : 0 < B) (hd : 0 < d) : dg B x k + B * ((x / B ^ (k + 1)) % d) < d * B := by
  have h1 := dg_lt hB x k
  have h2 := Nat.mod_lt (x / B ^ (k + 1)) hd
  have h3 : B * ((x / B ^ (k + 1)) % d) + B ≤ B * d := by rw [← Nat.mul_succ]; exact Nat.mul_le_mul_left _ h2
  rw [Nat.mul_comm d]; omega
theorem long_shape {B x R n H k : Nat} : x % B ^ (k + 1) + B ^ (k + 1) * (R + B ^ n * H) = x % B ^ k + B ^ k * ((dg B x k + B * R) + B ^ (n + 1) * H) := by
  rw [mod_succ, Nat.pow_succ, Nat.mul_assoc, Nat.mul_add B, Nat.mul_add (B ^ k), Nat.mul_add (B ^ k), Nat.mul_add (B ^ k), Nat.pow_succ, Nat.mul_comm (B ^ n) B, Nat.mul_assoc B]
  omega
/-- what the loop of divideLong keeps: k digits of the quotient are still to come -/
def LongRel (x d n m : Nat) (g gq : Nat) (w : World) (k : Nat) (wr : World) : Prop :=
  ∃ H, Buf .u32 4294967296 74 wr g (m + n) (x % 4294967296 ^ k + 4294967296 ^ k * ((x / 4294967296 ^ k) % d + 4294967296 ^ n * H)) ∧
    Buf .u32 4294967296 74 wr gq m (0 + 4294967296 ^ k * ((x / 4294967296 ^ k) / d)) ∧ Below w.heap.size w wr
/-- what stands when the loop has ended -/
structure LongEnd (g gq n m q r : Nat) (w1 W : World) : Prop where
  bq : Buf .u32 4294967296 74 W gq m q
  br : ∀ i, i < n → W.cell? ⟨g, i, none⟩ = some (.int .u32 (dg 4294967296 r i : Nat))
  bel : Below w1.heap.size w1 W
  lt : g < W.heap.size
theorem LongEnd.next {g gq n m q r : Nat} {w1 W W' : World} (h : LongEnd g gq n m q r w1 W) (hb : Below W.heap.size W W') : LongEnd g gq n m q r w1 W' :=
  ⟨Gu.Buf.below h.bq hb (Gu.Buf.lt h.bq), fun i hi => (hb.cell (p := ⟨g, i, none⟩) h.lt).trans (h.br i hi), h.bel.trans (hb.mono h.bel.size), Nat.lt_of_lt_of_le h.lt hb.size⟩
theorem LongEnd.rest {g gq n m q r : Nat} {w1 W : World} (h : LongEnd g gq n m q r w1 W) (hr : r < 4294967296 ^ n) (cap : Nat) : D W (.slice (some ⟨g, 0, none⟩) (nd 4294967296 r) cap) r := by
  rcases Nat.eq_zero_or_pos r with h0 | h0
  · subst h0; rw [nd_zero]; exact IsN.zero _ _ _ _ _
  · exact .inr ⟨h0, g, 0, cap, rfl, fun i hi => by rw [Nat.zero_add]; exact h.br i (Nat.lt_of_lt_of_le hi ((nd_le (by decide)).2 hr))⟩
set_option maxHeartbeats 2000000 in
set_option maxRecDepth 100000 in
theorem divideLong_any (v u : Value) (a b : Nat) (w : World) (hv : D w v a) (hu : D w u b) (hab : b ≤ a) (hb2 : 2 ≤ nd 4294967296 b) (ha : nd 4294967296 a ≤ 400000) :
    Calls Tryd.prog 86 #[v, u] w fun e w' => ∃ q r, e = .returned (.tuple #[q, r]) ∧ D w' q (a / b) ∧ D w' r (a % b) ∧ Below w.heap.size w w' := by
  have hB : 2 ≤ 4294967296 := by decide
  have hnm := nd_mono hB hab
  have hb0 : 0 < b := by
    rcases Nat.eq_zero_or_pos b with h | h
    · subst h; rw [nd_zero] at hb2; omega
    · exact h
  have htop := dg_top hB hb0
  have htl := dg_lt (B := 4294967296) (by decide) b (nd 4294967296 b - 1)
  obtain ⟨l1, l2, l3⟩ := lz_pow htop htl
  obtain ⟨s, hs⟩ : ∃ s, s = 32 - Go.Lib.bitLen (dg 4294967296 b (nd 4294967296 b - 1)) := ⟨_, rfl⟩
  have hlz : (32 : Int) - (Go.Lib.bitLen (dg 4294967296 b (nd 4294967296 b - 1)) : Int) = s := by omega
  rw [← hs] at l3
  have hs31 : s ≤ 31 := by omega
  have hdn := shl_nd rfl hb2 l3 (by omega)
  have HLZ := Lib.hid (fun w => (Tryd.bits_LeadingZeros32 (dg 4294967296 b (nd 4294967296 b - 1) : Nat) w (by omega) (by omega)).mono (fun _ _ h => And.intro h.1 h.2.symm))
  rw [Int.toNat_natCast, hlz] at HLZ
  have HSB := Lib.hid (shiftLeft_any u b s w hu (by omega) (by omega))
  have HSA := Lib.hid (fun W (h : D W v a) => shiftLeft_any v a s W h (by omega) (by omega))
  have HV := Lib.hid hv
  obtain ⟨bo, bc, rfl, hcu⟩ := hu.shape
  obtain ⟨gb, go, rfl, hcb⟩ := hcu (nd 4294967296 b - 1) (by omega)
  obtain ⟨ao, ac, rfl, -⟩ := hv.shape
  have HDN := Lib.hid hdn
  clear hv hu hcu hab hs l1 l2 l3 hlz hdn
  have HND : Hid (nd 4294967296 a = nd 4294967296 a) := rfl
  generalize hna : nd 4294967296 a = la at *
  generalize hnb : nd 4294967296 b = n at *
  have HNA := Lib.hid hna; have HNB := Lib.hid hnb
  clear hna hnb HND
  generalize dg 4294967296 b (n - 1) = t at *
  have hmk1 := made_u32 (la + 1) (by omega)
  rw [show (((la + 1 : Nat)) : Int) = (la : Int) + 1 from by omega] at hmk1
  have hmk2 := made_u32 (la - n + 1) (by omega)
  rw [show (((la - n + 1 : Nat)) : Int) = (la : Int) - n + 1 from by omega] at hmk2
  go_enter Tryd.func86, Tryd.ntmps86
  go_wp2_with fail
  refine (HLZ.out _).mono ?_
  rintro e w' ⟨rfl, rfl⟩
  go_wp2_with fail
  refine HSB.out.mono ?_
  rintro e w1 ⟨dv, rfl, hd, hbel⟩
  have hz1 := hbel.size
  have HV1 := Lib.hid (HV.out.below (hbel.alloc hbel.size (.cells (madeCells #[.int .u32 0] (la + 1)) 74)))
  have hdb : ∀ bb o c l, dv = .slice (some ⟨bb, o, none⟩) l c → 0 < b * 2 ^ s → bb ≠ w1.heap.size := by
    intro bb o c l he h0
    rcases hd with ⟨h, _⟩ | ⟨_, b', o', c', he', hc'⟩
    · omega
    · rw [he'] at he
      simp only [Value.slice.injEq, Option.some.injEq, Addr.mk.injEq, and_true] at he
      obtain ⟨⟨rfl, rfl⟩, _, _⟩ := he
      have := World.block_lt_of_cell? _ _ (hc' 0 (nd_pos hB h0))
      exact Nat.ne_of_lt this
  have HDB := Lib.hid hdb
  clear hdb
  obtain ⟨d0, dc, rfl, -⟩ := hd.shape
  rw [HDN.out] at hd HDB ⊢
  have HD1 := Lib.hid hd
  have HB1 := Lib.hid hbel
  clear hd hbel hcb
  go_wp2_with fail
  refine (HSA.out _ HV1.out).mono ?_
  rintro e w2 ⟨av, rfl, hav, hbel⟩
  obtain ⟨a0, acc, rfl, -⟩ := hav.shape
  have hxl : a * 2 ^ s < 4294967296 ^ (la + 1) := by
    have h1 := nd_lt hB a
    rw [HNA.out] at h1
    rw [Nat.pow_succ]
    exact Nat.mul_lt_mul_of_lt_of_le h1 (Nat.le_trans (Nat.pow_le_pow_right (by decide) (show s ≤ 32 by omega)) (by decide)) (by decide)
  have hrow : Buf .u32 4294967296 74 w2 w1.heap.size (la + 1) 0 := (Buf.made .u32 4294967296 74 w1 (la + 1)).below hbel (by simp)
  obtain ⟨cur, hcur, hcsz, hcz⟩ := hrow
  have hcur' : w2.heap[w1.heap.size]? = some (.cells cur.toList.toArray 74 (0, 0)) := by rw [Array.toArray_toList]; exact hcur
  have HB12 := Lib.hid (((Below.refl w1.heap.size w1).alloc (Nat.le_refl _) (.cells (madeCells #[.int .u32 0] (la + 1)) 74)).trans (hbel.mono (by simp)))
  have HXL := Lib.hid hxl
  have HCPY := Lib.hid (fun i hi => copy_row (cur := cur.toList) (m := la + 1) (x := a * 2 ^ s) (fun i hi => by rw [Array.getElem?_toList, hcz i hi]; simp only [dg_zero]; rfl) hxl i hi)
  have HAV := Lib.hid hav
  have hnx : nd 4294967296 (a * 2 ^ s) ≤ la + 1 := (nd_le hB).2 hxl
  have hcl : cur.toList.length = la + 1 := by rw [Array.length_toList]; exact hcsz
  have hz2 := hbel.size
  simp only [World.size_alloc] at hz2
  clear hav hbel hxl hcur hcz hcsz HV1 HSA HLZ HV
  obtain ⟨CS, hCS⟩ : ∃ CS, CS = (pad 4294967296 (nd 4294967296 (a * 2 ^ s)) (a * 2 ^ s)).map fun d : Nat => Value.int .u32 (d : Int) := ⟨_, rfl⟩
  have hCSl : CS.length = nd 4294967296 (a * 2 ^ s) := by rw [hCS]; simp [pad]
  have HCS := Lib.hid hCS
  rw [← hCS] at HCPY
  have H1C : Hid (∀ v ∈ CS, v.oneCell' = true) := by rw [HCS.out]; exact newsU32 _ _
  have HSRC : Hid (0 < CS.length → ∃ ad, a0 = some ad ∧ ∀ j v, CS[j]? = some v → w2.cell? (ad.add j) = some v) := by
    intro h0
    rcases HAV.out with ⟨h1, -⟩ | ⟨h1, gb, go, cc, he, hc⟩
    · rw [hCSl, h1, nd_zero] at h0; omega
    · simp only [Value.slice.injEq] at he
      refine ⟨_, he.1, fun j v hj => ?_⟩
      have hjl : j < nd 4294967296 (a * 2 ^ s) := by
        rw [← hCSl]; exact (List.getElem?_eq_some_iff.1 hj).1
      have := hc j hjl
      rw [Addr.add_lit, this]
      rw [HCS.out] at hj
      simp [pad, hjl] at hj
      rw [← hj]
  have HNL := Lib.hid hCSl
  clear hCS hCSl
  generalize nd 4294967296 (a * 2 ^ s) = nx at *
  have hsz1 : (Tryd.prog.info? 74).map (·.size) = some 1 := by kernel_rfl
  go_wp2_with ((with_reducible show wpList _ _ _ _ _ _); go_must (refine wpList_copy_splice rfl (.tmp 29) (.tmp 32) 23 24 rfl 74 Tryd.underlying23 hsz1 (some ⟨w1.heap.size, 0, none⟩) a0 (la + 1) (la + 1) nx acc (by rfl) (by rfl) w1.heap.size 0 cur.toList 74 hcur' CS ?c0 ?c1 ?c2 H1C.out w1.heap.size w2 (Below.refl _ _) ?c3 ?_))
  case c0 => rw [HNL.out]; exact (Nat.min_eq_left hnx).symm
  case c1 => intro h0; first | exact ⟨rfl, HSRC.out h0⟩ | exact HSRC.out h0
  case c2 => rw [HNL.out, hcl]; omega
  case c3 => exact Nat.le_refl _
  intro w3 hrow3 hb3
  have HROW : Hid (Buf .u32 4294967296 74 w3 w1.heap.size (la + 1) (a * 2 ^ s)) := by
    refine ⟨_, hrow3.out, ?_, HCPY.out⟩
    rw [List.size_toArray, length_splice _ _ _ (by rw [HNL.out, hcl]; omega), hcl]
  have hz3 := hb3.size
  have hb13 := HB12.out.trans hb3
  have HB3 := Lib.hid hb13
  have hz13 := hb13.size
  clear hb13
  clear hrow3 hb3 hcl hcur' HCPY HNL HSRC HCS H1C HB12 hsz1
  have HBA : Hid (b * 2 ^ s ≠ 0) := Nat.ne_of_gt (Nat.mul_pos hb0 (Nat.pow_pos (by decide)))
  have HLN := Lib.hid (nd_lt hB b)
  have HPW : Hid (4294967296 ^ (n - 1) ≤ b) := by show _ ≤ _; rw [← HNB.out]; exact nd_pow_le hB hb0
  have HDP : Hid (0 < b * 2 ^ s) := Nat.pos_of_ne_zero HBA.out
  obtain ⟨m, hm⟩ : ∃ m, m = la - n + 1 := ⟨_, rfl⟩
  have hmi : (la : Int) - n + 1 = m := by omega
  have hla : la + 1 = m + n := by omega
  have HQ0 : Hid (a * 2 ^ s / 4294967296 ^ m < b * 2 ^ s) := by
    show _ < _
    rw [Nat.div_lt_iff_lt_mul (Nat.pow_pos (by decide)), Nat.mul_right_comm]
    refine Nat.mul_lt_mul_of_pos_right ?_ (Nat.pow_pos (by decide))
    have h1 := nd_lt hB a
    rw [HNA.out] at h1
    refine Nat.lt_of_lt_of_le h1 (Nat.le_trans ?_ (Nat.mul_le_mul_right _ HPW.out))
    rw [← Nat.pow_add]
    exact Nat.pow_le_pow_right (by decide) (by omega)
  have HMI := Lib.hid hmi
  have HMM := Lib.hid hm
  have HROW2 := HROW.out
  rw [hla] at HROW2
  have HR3 := Lib.hid HROW2
  clear HROW2 HROW hmi hm
  go_wp2
  rw [HMI.out, ← HMM.out]
  have hw3a : Below w3.heap.size w3 (w3.alloc (.cells (madeCells #[.int .u32 0] m) 74)) := (Below.refl _ _).alloc (Nat.le_refl _) _
  have HST : Hid (LongRel (a * 2 ^ s) (b * 2 ^ s) n m w1.heap.size w3.heap.size w1 m (w3.alloc (.cells (madeCells #[.int .u32 0] m) 74))) := by
    refine ⟨0, ?_, ?_, HB3.out.trans (hw3a.mono hz13)⟩
    · rw [Nat.mul_zero, Nat.add_zero, Nat.mod_eq_of_lt HQ0.out, Nat.mod_add_div]
      exact HR3.out.below hw3a (by omega)
    · rw [Nat.div_eq_of_lt HQ0.out, Nat.mul_zero]
      exact Buf.made _ _ _ _ _
  rw [show ((la - n : Nat) : Int) + 1 = m from by have := HMM.out; omega]
  have hgq : w1.heap.size < w3.heap.size := by omega
  have HLA := Lib.hid hla
  have hml : m ≤ 400001 := by omega
  clear hla hw3a HB3 HR3 HMI HMM hmk1 hmk2 hz13 hz2 hz3 hz1 hnx HSB HXL HAV
  obtain ⟨x, hx⟩ : ∃ x, x = a * 2 ^ s := ⟨_, rfl⟩
  obtain ⟨d, hd⟩ : ∃ d, d = b * 2 ^ s := ⟨_, rfl⟩
  have HX := Lib.hid hx; have HDE := Lib.hid hd
  rw [← hx, ← hd] at HST HQ0
  rw [← hd] at HD1 HDB HDN HDP
  clear hx hd
  go_loopw [42] (fun t wr => ∃ j k : Nat, Hid (j + k = m) ∧ t = .int .i64 j ∧ LongRel x d n m w1.heap.size w3.heap.size w1 k wr) (fun t _ => m - (intOf t).toNat)
  case atStart => exact ⟨0, m, by show _ = _; omega, rfl, HST.out⟩
  case round =>
    obtain ⟨j, k, HJK, rfl, H, hbuf, hq, hbel⟩ := hrel
    cases k with
    | zero =>
      have hjm : j = m := by have := HJK.out; omega
      rw [Nat.pow_zero, Nat.div_one, Nat.mod_one, Nat.zero_add, Nat.one_mul] at hbuf
      rw [Nat.pow_zero, Nat.div_one, Nat.zero_add, Nat.one_mul] at hq
      have HQL : Hid (x / d < 4294967296 ^ m) := by
        show _ < _
        rw [Nat.div_lt_iff_lt_mul HDP.out, Nat.mul_comm]
        exact (Nat.div_lt_iff_lt_mul (Nat.pow_pos (by decide))).1 HQ0.out
      have HRL : Hid (x % d < 4294967296 ^ n) := by
        have := nd_lt hB d
        rw [HDN.out] at this
        exact Nat.lt_trans (Nat.mod_lt _ HDP.out) this
      have hend : LongEnd w1.heap.size w3.heap.size n m (x / d) (x % d) w1 wr := ⟨hq, fun i hi => by rw [Gu.Buf.cell hbuf (by omega), dg_low (by decide) hi], hbel, Gu.Buf.lt hbuf⟩
      clear hbuf hq hbel
      subst hjm
      have HT1 := Lib.hid (fun W (h : LongEnd w1.heap.size w3.heap.size n j (x / d) (x % d) w1 W) => trim_buf w3.heap.size j j (x / d) W h.bq HQL.out (by omega) (Nat.le_refl _))
      have HT2 := Lib.hid (fun W (h : LongEnd w1.heap.size w3.heap.size n j (x / d) (x % d) w1 W) => trim_any w1.heap.size n (la + 1) (x % d) W h.br HRL.out (by omega) (by omega))
      have HSR := Lib.hid (fun W (h : LongEnd w1.heap.size w3.heap.size n j (x / d) (x % d) w1 W) => (shiftRight_any (.slice (some ⟨w1.heap.size, 0, none⟩) (nd 4294967296 (x % d)) (nd 4294967296 (x % d))) (x % d) s W (h.rest HRL.out _) (by have := (nd_le hB).2 HRL.out; omega) (by omega)).mono fun e w' ⟨r, he, hr, hb⟩ =>
        (show ∃ ro rl rc, e = Ending.returned (.slice ro rl rc) ∧ D w' (.slice ro rl rc) (x % d / 2 ^ s) ∧ LongEnd w1.heap.size w3.heap.size n j (x / d) (x % d) w1 w' from by
          obtain ⟨ro, rc, rfl, -⟩ := hr.shape
          exact ⟨ro, _, rc, he, hr, h.next hb⟩))
      have hsx : nd 4294967296 (x / d) ≤ j := (nd_le hB).2 HQL.out
      have hend2 := hend.next (Below.refl wr.heap.size wr).drew
      clear hend
      have HXD : Hid (x / d = a / b ∧ x % d / 2 ^ s = a % b) := by
        have hp : 0 < 2 ^ s := Nat.pow_pos (by decide)
        refine ⟨?_, ?_⟩
        · rw [HX.out, HDE.out, Nat.mul_div_mul_right _ _ hp]
        · rw [HX.out, HDE.out, Nat.mul_mod_mul_right, Nat.mul_div_cancel _ hp]
      obtain ⟨rr, hrr⟩ : ∃ rr, rr = x % d / 2 ^ s := ⟨_, rfl⟩
      rw [← hrr] at HSR HXD
      clear hrr
      have hi1 : (0 : Int) ≤ n := by omega
      have hi2 : (n : Int) ≤ (la : Int) + 1 := by omega
      have hi3 : (n : Int) ≤ ((la + 1 : Nat) : Int) := by omega
      have hi4 : n ≤ la + 1 := by omega
      go_wp2_with fail
      go_region_held3 (fun W : World => LongEnd w1.heap.size w3.heap.size n j (x / d) (x % d) w1 W) (assumption) (first
        | (go_at_call 57; refine (HSR.out _ ?h).mono ?_; (case h => assumption); rintro e w' ⟨ro, rl, rc, rfl, hr, hs'⟩)
        | (go_at_call 75; with_reducible refine (HT1.out _ ?h).mono ?_; (case h => assumption); rintro e w' ⟨rfl, rfl⟩)
        | (go_at_call 75; with_reducible refine (HT2.out _ ?h).mono ?_; (case h => assumption); rintro e w' ⟨rfl, rfl⟩))
      all_goals go_wp2
      all_goals go_ret2
      all_goals exact ⟨_, _, rfl, by rw [← HXD.out.1]; exact hs'.bq.isN hB HQL.out _, by rw [← HXD.out.2]; exact hr, HB1.out.trans (hs'.bel.mono HB1.out.size)⟩
    | succ k =>
      have hjm : j < m := by have := HJK.out; omega
      have hjm2 : (j : Int) < m := by omega
      have e1 : (m : Int) - 1 - j = k := by have := HJK.out; omega
      rw [long_shape] at hbuf
      have HW := Lib.hid (divideWindow_any w1.heap.size (m + n) k n (n + 1) (x % 4294967296 ^ k) (dg 4294967296 x k + 4294967296 * ((x / 4294967296 ^ (k + 1)) % d)) H d (.slice d0 n dc) wr hbuf (Nat.mod_lt _ (Nat.pow_pos (by decide))) (long_lt (by decide) HDP.out) (by have := HJK.out; omega) hb2 (by omega) (Nat.le_refl _) (HD1.out.below hbel) HDN.out HDB.out)
      clear hbuf
      have hkm : k < m := by have := HJK.out; omega
      have hkl : k + n ≤ la := by have := HLA.out; omega
      have hcell := hq.cell (i := k) hkm
      have hfr := hq.frozen k
      have HQ := Lib.hid hq; have HBEL := Lib.hid hbel
      clear hq hbel
      have hwlt := long_lt (B := 4294967296) (x := x) (k := k) (by decide) HDP.out
      obtain ⟨LD1, LD2⟩ := long_digit (B := 4294967296) (x := x) (k := k) HDP.out
      have hL1 := Lib.hid LD1; have hL2 := Lib.hid LD2
      clear LD1 LD2
      obtain ⟨W, hWe⟩ : ∃ W, W = dg 4294967296 x k + 4294967296 * ((x / 4294967296 ^ (k + 1)) % d) := ⟨_, rfl⟩
      rw [← hWe] at HW hL1 hL2
      have HLQ := Lib.hid (fun (h : W / d < 4294967296) => h)
      clear hwlt hWe
      generalize dg 4294967296 (0 + 4294967296 ^ (k + 1) * ((x / 4294967296 ^ (k + 1)) / d)) k = dq at *
      go_wp2_with fail
      rw [show k + n + 1 - k = n + 1 from by omega]
      refine HW.out.mono ?_
      rintro e w' ⟨rfl, hql, hbf, hgr⟩
      have hq2 := Buf.grown HQ.out hgr (by omega)
      have hcell2 := Gu.Buf.cell hq2 (i := k) hkm
      have hfr2 := Gu.Buf.frozen hq2 k
      have HNEW : Hid (LongRel x d n m w1.heap.size w3.heap.size w1 k (w'.setCell ⟨w3.heap.size, k, none⟩ (.int .u32 (W / d : Nat)))) := by
        refine ⟨W / 4294967296 ^ n + 4294967296 * H, ?_, ?_, ?_⟩
        · rw [hL1.out]
          exact World.rowIs.of_block hbf (Below.heap_setCell _ _ _ _ (by simp only [ne_eq]; omega))
        · rw [hL2.out]
          have e : 0 + 4294967296 ^ (k + 1) * ((x / 4294967296 ^ (k + 1)) / d) = 0 + 4294967296 ^ k * (0 + 4294967296 * ((x / 4294967296 ^ (k + 1)) / d)) := by rw [Nat.pow_succ, Nat.mul_assoc, Nat.zero_add, Nat.zero_add, Nat.zero_add]
          rw [e] at hq2
          exact Buf.set hq2 (by decide) (Nat.pow_pos (by decide)) (by decide) hql
        · have hsz := HBEL.out.size
          exact (HBEL.out.grown hgr (by omega) (fun j hj => by simp only [Option.some.injEq] at hj; omega)).setCell (by show w1.heap.size ≤ w3.heap.size; omega) _
      clear hbf hgr hq2 HQ HBEL HW hL1 hL2
      generalize dg 4294967296 (0 + 4294967296 ^ (k + 1) * ((x / 4294967296 ^ (k + 1)) / d)) k = dq2 at *
      generalize W / d = qd at *
      go_wp2
      go_roundw
      case rel => exact ⟨j + 1, k, by have := HJK.out; show _ = _; omega, by go_num, HNEW.out⟩
      case measure => simp [intOf]; omega
set_option maxHeartbeats 800000 in
theorem divide_long (N : Nat) (hN : N ≤ 400000) : DivOK (4294967296 ^ N) := by
  intro v u a b w hv hu hb ha hbN
  have hB : 2 ≤ 4294967296 := by decide
  have hna : nd 4294967296 a ≤ N := (nd_le hB).2 ha
  have hnb : nd 4294967296 b ≤ N := (nd_le hB).2 hbN
  have hnb0 := nd_pos hB hb
  clear ha hbN
  have HC := Lib.hid (compare_any v u a b w hv hu (by omega) (by omega))
  by_cases hlt : a < b
  · have HCl := Lib.hid (fun q => clone_any v a (w.drewN q) (IsN.drewN hv q) (by omega))
    have HE : Hid (a / b = 0 ∧ a % b = a) := ⟨Nat.div_eq_of_lt hlt, Nat.mod_eq_of_lt hlt⟩
    rw [cmpN_lt (by omega)] at HC
    obtain ⟨ao, ac, rfl, -⟩ := hv.shape
    obtain ⟨bo, bc, rfl, -⟩ := hu.shape
    clear hv hu hna hnb hb hlt hnb0
    go_enter Tryd.func54, Tryd.ntmps54
    go_wp2_with fail
    refine HC.out.mono ?_
    rintro e w' ⟨rfl, q, rfl⟩
    go_wp2_with fail
    refine (HCl.out q).mono ?_
    rintro e w' ⟨r, rfl, hr, hbel⟩
    go_wp2
    go_ret2
    exact ⟨.slice none 0 0, r, rfl, by rw [HE.out.1]; exact IsN.zero _ _ _ _ _, by rw [HE.out.2]; exact hr, (below_drewN (Below.refl _ _) q).trans hbel⟩
  · have hcmp : ¬ cmpN a b < 0 := by
      unfold cmpN; rw [if_neg (by omega)]; split <;> omega
    by_cases h1 : nd 4294967296 b = 1
    · have hb1 : b < 4294967296 := by
        have := nd_lt hB b
        rw [h1] at this; simpa using this
      have HD := Lib.hid (fun q => divideByDigit_any v a b (w.drewN q) (IsN.drewN hv q) (by omega) hb hb1)
      rcases hu with ⟨h0, _⟩ | ⟨_, bb, bo, bc, rfl, hcu⟩
      · omega
      have hcell : w.cell? ⟨bb, bo, none⟩ = some (.int .u32 (b : Nat)) := by
        have := hcu 0 (by omega)
        rw [Nat.add_zero] at this
        rw [this]; simp [dg, Nat.mod_eq_of_lt hb1]
      rw [h1] at HC ⊢
      have hmod := Nat.mod_lt a hb
      generalize cmpN a b = cc at *
      have HDG := Lib.hid (fun w => digitsOf_any (a % b) w (by omega))
      generalize hmm : a % b = mm at *
      have HMM := Lib.hid hmm; clear hmm
      obtain ⟨ao, ac, rfl, -⟩ := hv.shape
      clear hv hna hnb hlt hcu h1
      go_enter Tryd.func54, Tryd.ntmps54
      go_wp2_with fail
      refine HC.out.mono ?_
      rintro e w' ⟨rfl, q, rfl⟩
      go_wp2_with fail
      refine (HD.out q).mono ?_
      rintro e w' ⟨r, rfl, hr, hbel⟩
      go_wp2_with fail
      refine (HDG.out _).mono ?_
      rintro e w2 ⟨r2, rfl, hr2, hbel2⟩
      go_wp2
      go_ret2
      exact ⟨r, r2, rfl, hr.below hbel2, hr2, ((below_drewN (Below.refl _ _) q).trans hbel).trans (hbel2.mono hbel.size)⟩
    · have HD := Lib.hid (fun q => divideLong_any v u a b (w.drewN q) (IsN.drewN hv q) (IsN.drewN hu q) (by omega) (by omega) (by omega))
      have hne : (((nd 4294967296 b : Nat) : Int) == 1) = false := by simp; omega
      generalize cmpN a b = cc at *
      obtain ⟨ao, ac, rfl, -⟩ := hv.shape
      obtain ⟨bo, bc, rfl, -⟩ := hu.shape
      clear hv hu hna hnb hlt
      go_enter Tryd.func54, Tryd.ntmps54
      go_wp2_with fail
      refine HC.out.mono ?_
      rintro e w' ⟨rfl, q, rfl⟩
      go_wp2_with fail
      refine (HD.out q).mono ?_
      rintro e w' ⟨qv, r, rfl, hq, hr, hbel⟩
      go_wp2
      go_ret2
      exact ⟨qv, r, rfl, hq, hr, (below_drewN (Below.refl _ _) q).trans hbel⟩
end Go.Proofs.YteajinpfigejfaaDoor
namespace Go.Proofs.YteajinpfigejfaaDoor
open Go Go.RowKit Gu

def divE (b : Nat) : Int := if b = 0 then 11 else 0
def modN (a b : Nat) : Nat := if b = 0 then 0 else a % b
set_option maxHeartbeats 1000000 in
theorem NDivMod_any (v u : Value) (a b : Nat) (w : World) (hv : D w v a) (hu : D w u b) (ha : nd 4294967296 a ≤ 400000) (hb : nd 4294967296 b ≤ 400000) :
    Calls Tryd.prog 16 #[.agg #[v], .agg #[u]] w fun e w' => ∃ q r, e = .returned (.tuple #[.agg #[q], .agg #[r], .int .i64 (divE b)]) ∧ D w' q (a / b) ∧ D w' r (modN a b) ∧ Below w.heap.size w w' := by
  by_cases h0 : b = 0
  · subst h0
    have HZ := Lib.hid (fun W (h : D W u 0) => isZero_any u 0 W h)
    rw [show decide ((0 : Nat) = 0) = true from rfl] at HZ
    have b2 : ∀ o1 o2 o3 o4, Below w.heap.size w ((((w.alloc o1).alloc o2).alloc o3).alloc o4) := fun o1 o2 o3 o4 => ((((Below.refl _ _).alloc (Nat.le_refl _) _).alloc (by simp) _).alloc (by simp; omega) _).alloc (by simp; omega) _
    have HU := Lib.hid (fun o1 o2 o3 o4 => hu.below (b2 o1 o2 o3 o4))
    have HB2 := Lib.hid b2
    obtain ⟨ao, ac, rfl, -⟩ := hv.shape
    obtain ⟨bo, bc, rfl, -⟩ := hu.shape
    clear hv hu b2
    go_enter Tryd.func16, Tryd.ntmps16
    go_wp2_with fail
    refine (HZ.out _ (HU.out _ _ _ _)).mono ?_
    rintro e w1 ⟨rfl, rfl⟩
    go_wp2
    refine bodyPost_ret (v := .tuple #[.agg #[.slice none 0 0], .agg #[.slice none 0 0], .int .i64 11]) (by simp [results, Tryd.results16, go_sem]) rfl ⟨.slice none 0 0, .slice none 0 0, rfl, by rw [Nat.div_zero]; exact IsN.zero _ _ _ _ _, by rw [show modN a 0 = 0 from if_pos rfl]; exact IsN.zero _ _ _ _ _, HB2.out _ _ _ _⟩
  · have HZ := Lib.hid (fun W (h : D W u b) => isZero_any u b W h)
    rw [show decide (b = 0) = false from by simp [h0]] at HZ
    have HE : Hid (divE b = 0 ∧ modN a b = a % b) := ⟨if_neg h0, if_neg h0⟩
    have HD := Lib.hid (fun W (h1 : D W v a) (h2 : D W u b) => divide_long (max (nd 4294967296 a) (nd 4294967296 b)) (by omega) v u a b W h1 h2 (by omega) ((nd_le (by decide)).1 (Nat.le_max_left _ _)) ((nd_le (by decide)).1 (Nat.le_max_right _ _)))
    have b2 : ∀ o1 o2 o3 o4, Below w.heap.size w ((((w.alloc o1).alloc o2).alloc o3).alloc o4) := fun o1 o2 o3 o4 => ((((Below.refl _ _).alloc (Nat.le_refl _) _).alloc (by simp) _).alloc (by simp; omega) _).alloc (by simp; omega) _
    have HV := Lib.hid (fun o1 o2 o3 o4 => hv.below (b2 o1 o2 o3 o4))
    have HU := Lib.hid (fun o1 o2 o3 o4 => hu.below (b2 o1 o2 o3 o4))
    have HB2 := Lib.hid b2
    obtain ⟨ao, ac, rfl, -⟩ := hv.shape
    obtain ⟨bo, bc, rfl, -⟩ := hu.shape
    clear hv hu b2
    go_enter Tryd.func16, Tryd.ntmps16
    go_wp2_with fail
    refine (HZ.out _ (HU.out _ _ _ _)).mono ?_
    rintro e w1 ⟨rfl, rfl⟩
    go_wp2_with fail
    refine (HD.out _ (HV.out _ _ _ _) (HU.out _ _ _ _)).mono ?_
    rintro e w2 ⟨qv, rv, rfl, hq, hr, hbel⟩
    obtain ⟨qo, qc, rfl, -⟩ := hq.shape
    obtain ⟨ro, rc, rfl, -⟩ := hr.shape
    have hcell : ∀ k, (k = w.heap.size + 1 + 1 ∨ k = w.heap.size + 1 + 1 + 1) → w2.cell? ⟨k, 0, none⟩ = some (.slice none 0 0) ∧ w2.frozen? ⟨k, 0, none⟩ = false := by
      intro k hk
      have hl : k < ((((w.alloc (.cells #[.slice ao (nd 4294967296 a) ac] 39)).alloc (.cells #[.slice bo (nd 4294967296 b) bc] 39)).alloc (.cells #[.slice none 0 0] 39)).alloc (.cells #[.slice none 0 0] 39)).heap.size := by simp; omega
      refine ⟨(hbel.cell (p := ⟨k, 0, none⟩) hl).trans ?_, (hbel.frozen (p := ⟨k, 0, none⟩) hl).trans ?_⟩
      · rcases hk with rfl | rfl
        · exact (World.cell?_alloc_past _ _ _ (by simp)).trans (World.cell?_alloc_at _ _ _ _ (by simp))
        · exact World.cell?_alloc_at _ _ _ _ (by simp)
      · rcases hk with rfl | rfl
        · refine (((Below.refl _ _).alloc (Nat.le_refl _) _).frozen (p := ⟨w.heap.size + 1 + 1, 0, none⟩) (by simp)).trans (World.frozen?_alloc_at _ _ _ _ (by simp))
        · exact World.frozen?_alloc_at _ _ _ _ (by simp)
    obtain ⟨c1, f1⟩ := hcell _ (.inl rfl)
    obtain ⟨c2, f2⟩ := hcell _ (.inr rfl)
    have hne : (⟨w.heap.size + 1 + 1, 0, none⟩ : Addr) ≠ ⟨w.heap.size + 1 + 1 + 1, 0, none⟩ := by intro e; injection e with e1; omega
    have q0 : ∀ u u', ((w2.setCell ⟨w.heap.size + 1 + 1, 0, none⟩ u).setCell ⟨w.heap.size + 1 + 1 + 1, 0, none⟩ u').cell? ⟨w.heap.size + 1 + 1, 0, none⟩ = some u := fun u u' => (World.cell?_setCell_other _ _ _ _ (fun e => hne e.symm)).trans (World.cell?_setCell_same _ _ _ c1)
    have d2 : ∀ u, (w2.setCell ⟨w.heap.size + 1 + 1, 0, none⟩ u).cell? ⟨w.heap.size + 1 + 1 + 1, 0, none⟩ = some (.slice none 0 0) := fun u => (World.cell?_setCell_other _ _ _ _ hne).trans c2
    have q1 : ∀ u u', ((w2.setCell ⟨w.heap.size + 1 + 1, 0, none⟩ u).setCell ⟨w.heap.size + 1 + 1 + 1, 0, none⟩ u').cell? ⟨w.heap.size + 1 + 1 + 1, 0, none⟩ = some u' := fun u u' => World.cell?_setCell_same _ _ _ (d2 u)
    have Q0 := Lib.hid q0; have Q1 := Lib.hid q1
    have HQ : Hid (∀ u u', D ((w2.setCell ⟨w.heap.size + 1 + 1, 0, none⟩ u).setCell ⟨w.heap.size + 1 + 1 + 1, 0, none⟩ u') (.slice qo (nd 4294967296 (a / b)) qc) (a / b)) := fun u u' => (hq.setCell c1 (by intro d h; cases h) u).setCell (d2 u) (by intro d h; cases h) u'
    have HR : Hid (∀ u u', D ((w2.setCell ⟨w.heap.size + 1 + 1, 0, none⟩ u).setCell ⟨w.heap.size + 1 + 1 + 1, 0, none⟩ u') (.slice ro (nd 4294967296 (a % b)) rc) (a % b)) := fun u u' => (hr.setCell c1 (by intro d h; cases h) u).setCell (d2 u) (by intro d h; cases h) u'
    have HB := Lib.hid (fun u u' => ((((HB2.out _ _ _ _).trans (hbel.mono (HB2.out _ _ _ _).size)).setCell (p := ⟨w.heap.size + 1 + 1, 0, none⟩) (by show w.heap.size ≤ w.heap.size + 1 + 1; omega) u).setCell (p := ⟨w.heap.size + 1 + 1 + 1, 0, none⟩) (by show w.heap.size ≤ w.heap.size + 1 + 1 + 1; omega) u'))
    clear hq hr hbel hcell q0 q1
    go_wp2
    have q0 := Q0.out; have q1 := Q1.out
    refine bodyPost_ret (v := .tuple #[.agg #[.slice qo (nd 4294967296 (a / b)) qc], .agg #[.slice ro (nd 4294967296 (a % b)) rc], .int .i64 0]) (by simp [results, Tryd.results16, go_sem, q0, q1]) rfl ⟨_, _, by rw [HE.out.1], HQ.out _ _, by rw [HE.out.2]; exact HR.out _ _, HB.out _ _⟩
set_option maxHeartbeats 1000000 in
theorem NGcd_any (v u : Value) (a b : Nat) (w : World) (hv : D w v a) (hu : D w u b) (ha : nd 4294967296 a ≤ 400000) (hb : nd 4294967296 b ≤ 400000) :
    Calls Tryd.prog 20 #[.agg #[v], .agg #[u]] w fun e w' => ∃ r, e = .returned (.agg #[r]) ∧ D w' r (Nat.gcd a b) ∧ Below w.heap.size w w' := by
  have hg : nd 4294967296 (Nat.gcd a b) ≤ 400000 := by
    rcases Nat.eq_zero_or_pos a with h | h
    · subst h; rw [Nat.gcd_zero_left]; exact hb
    · exact Nat.le_trans (nd_mono (by decide) (Nat.gcd_le_left _ h)) ha
  have b3 : ∀ o1 o2 o3, Below w.heap.size w (((w.alloc o1).alloc o2).alloc o3) := fun o1 o2 o3 => (((Below.refl _ _).alloc (Nat.le_refl _) _).alloc (by simp) _).alloc (by simp; omega) _
  have HG := Lib.hid (fun o1 o2 o3 => gcd_any (divide_long (max (nd 4294967296 a) (nd 4294967296 b)) (by omega)) v u a b (((w.alloc o1).alloc o2).alloc o3) (hv.below (b3 o1 o2 o3)) (hu.below (b3 o1 o2 o3)) ((nd_le (by decide)).1 (Nat.le_max_left _ _)) ((nd_le (by decide)).1 (Nat.le_max_right _ _)))
  have HC := Lib.hid (fun v W (h : D W v (Nat.gcd a b)) => clone_any v _ W h (by omega))
  have HB3 := Lib.hid b3
  obtain ⟨ao, ac, rfl, -⟩ := hv.shape
  obtain ⟨bo, bc, rfl, -⟩ := hu.shape
  clear hv hu b3
  generalize Nat.gcd a b = g at *
  go_enter Tryd.func20, Tryd.ntmps20
  go_wp2_with fail
  refine (HG.out _ _ _).mono ?_
  rintro e w1 ⟨gv, rfl, hgv, hbel⟩
  obtain ⟨go, gc, rfl, -⟩ := hgv.shape
  obtain ⟨hc, hf⟩ := bcell hbel
  have HG1 := Lib.hid hgv
  have HB1 := Lib.hid hbel
  have hz := hbel.size
  simp only [World.size_alloc] at hz
  clear hbel hgv
  go_wp2_with fail
  refine (HC.out _ _ HG1.out).mono ?_
  rintro e w2 ⟨r, rfl, hr, hbel2⟩
  obtain ⟨ro, rc, rfl, -⟩ := hr.shape
  obtain ⟨hc2, hf2⟩ := bcell hbel2
  have hcell : w2.cell? ⟨w.heap.size + 1 + 1, 0, none⟩ = some (.slice none 0 0) := by
    rw [hc2 _ _ (by omega), hc _ _ (by simp)]
    exact World.cell?_alloc_at _ _ _ _ (by simp)
  have hfr : w2.frozen? ⟨w.heap.size + 1 + 1, 0, none⟩ = false := by
    rw [hf2 _ _ (by omega), hf _ _ (by simp)]
    exact World.frozen?_alloc_at _ _ _ _ (by simp)
  have HR := Lib.hid hr
  have HCE := Lib.hid hcell
  have HBE := Lib.hid (((HB3.out _ _ _).trans (HB1.out.mono (by simp; omega))).trans (hbel2.mono (by omega)))
  clear hr hbel2 hc hf hc2 hf2
  go_wp2
  refine bodyPost_ret (v := .agg #[.slice ro (nd 4294967296 g) rc]) (by simp [results, Tryd.results20, go_sem, hcell]) rfl ⟨_, rfl, HR.out.setCell HCE.out (by intro d h; cases h) _, HBE.out.setCell (by show w.heap.size ≤ w.heap.size + 1 + 1; omega) _⟩
end Go.Proofs.YteajinpfigejfaaDoor
namespace Go.Proofs.YteajinpfigejfaaDoor
open Go Go.RowKit Gu

theorem am_gm {r t m : Nat} (h : r + t ≤ 2 * m) : r * t ≤ m * m := by
  rcases Nat.le_total r m with h1 | h1
  · obtain ⟨d, rfl⟩ := Nat.exists_eq_add_of_le h1
    have e1 : r * t ≤ r * (r + 2 * d) := Nat.mul_le_mul_left _ (by omega)
    have e2 : r * (r + 2 * d) = r * r + 2 * (r * d) := by rw [Nat.mul_add, Nat.mul_left_comm]
    have e3 : (r + d) * (r + d) = r * r + r * d + (r * d + d * d) := by rw [Nat.add_mul, Nat.mul_add, Nat.mul_add, Nat.mul_comm d r]
    omega
  · obtain ⟨d, rfl⟩ := Nat.exists_eq_add_of_le h1
    obtain ⟨x, rfl⟩ : ∃ x, m = t + x := ⟨m - t, by omega⟩
    have e1 : (t + x + d) * t = t * t + t * x + t * d := by rw [Nat.add_mul, Nat.add_mul, Nat.mul_comm x t, Nat.mul_comm d t]
    have e2 : (t + x) * (t + x) = t * t + t * x + (t * x + x * x) := by rw [Nat.add_mul, Nat.mul_add, Nat.mul_add, Nat.mul_comm x t]
    have e3 : t * d ≤ t * x := Nat.mul_le_mul_left _ (by omega)
    omega
theorem newton {a r : Nat} (hr : 0 < r) (ha : 0 < a) : 0 < (r + a / r) / 2 ∧ a < ((r + a / r) / 2 + 1) * ((r + a / r) / 2 + 1) ∧ (r ≤ (r + a / r) / 2 → r * r ≤ a) := by
  have h1 : a < r * (a / r + 1) := Nat.lt_mul_div_succ a hr
  have h2 : r * (a / r) ≤ a := Nat.mul_div_le a r
  have h3 : r = 1 → a / r = a := fun h => by rw [h, Nat.div_one]
  generalize a / r = q at *
  refine ⟨?_, ?_, fun h => ?_⟩
  · rcases Nat.lt_or_ge 1 r with h | h
    · omega
    · have := h3 (by omega); omega
  · exact Nat.lt_of_lt_of_le h1 (am_gm (by omega))
  · exact Nat.le_trans (Nat.mul_le_mul_left _ (by omega)) h2
theorem sqrt_start {a : Nat} (_ha : 0 < a) : a < (1 * 2 ^ ((nd 2 a + 1) / 2) + 1) * (1 * 2 ^ ((nd 2 a + 1) / 2) + 1) := by
  have h := nd_lt (B := 2) (by decide) a
  rw [Nat.one_mul]
  have h1 : 2 ^ nd 2 a ≤ 2 ^ ((nd 2 a + 1) / 2) * 2 ^ ((nd 2 a + 1) / 2) := by rw [← Nat.pow_add]; exact Nat.pow_le_pow_right (by decide) (by omega)
  have h2 : 2 ^ ((nd 2 a + 1) / 2) * 2 ^ ((nd 2 a + 1) / 2) ≤ (2 ^ ((nd 2 a + 1) / 2) + 1) * (2 ^ ((nd 2 a + 1) / 2) + 1) := Nat.mul_le_mul (by omega) (by omega)
  omega
theorem sqrt_room {a : Nat} (ha : 0 < a) : 1 * 2 ^ ((nd 2 a + 1) / 2) < 4294967296 ^ (nd 4294967296 a + 1) := by
  have h1 := nd_pow_le (B := 2) (by decide) ha
  have h0 := nd_pos (B := 2) (by decide) ha
  have h2 := nd_lt (B := 4294967296) (by decide) a
  have h3 : 2 ^ ((nd 2 a + 1) / 2) ≤ 2 ^ (nd 2 a - 1 + 1) := Nat.pow_le_pow_right (by decide) (by omega)
  rw [Nat.pow_succ] at h3
  rw [Nat.pow_succ, Nat.one_mul]
  omega
/-- what a region keeps whose calls make memory: a number, and all that lay there when it began -/
structure St1 (W0 : World) (v : Value) (a : Nat) (W : World) : Prop where
  num : D W v a
  bel : Below W0.heap.size W0 W
theorem St1.next {W0 W W' : World} {v : Value} {a : Nat} (h : St1 W0 v a W) (hb : Below W.heap.size W W') : St1 W0 v a W' :=
  ⟨h.num.below hb, h.bel.trans (hb.mono h.bel.size)⟩
theorem St1.cell {W0 W : World} {v : Value} {a k : Nat} {x : Value} (h : St1 W0 v a W) (hk : k < W0.heap.size) (hc : W0.cell? ⟨k, 0, none⟩ = some x) : W.cell? ⟨k, 0, none⟩ = some x :=
  (h.bel.cell (p := ⟨k, 0, none⟩) hk).trans hc
theorem St1.frozen {W0 W : World} {v : Value} {a k : Nat} (h : St1 W0 v a W) (hk : k < W0.heap.size) (hc : W0.frozen? ⟨k, 0, none⟩ = false) : W.frozen? ⟨k, 0, none⟩ = false :=
  (h.bel.frozen (p := ⟨k, 0, none⟩) hk).trans hc
set_option maxHeartbeats 2000000 in
set_option maxRecDepth 100000 in
theorem Sqrt_any (v : Value) (a : Nat) (w : World) (hv : D w v a) (ha : nd 4294967296 a ≤ 200000) :
    Calls Tryd.prog 19 #[.agg #[v]] w fun e w' => ∃ r s, e = .returned (.agg #[r]) ∧ D w' r s ∧ s * s ≤ a ∧ a < (s + 1) * (s + 1) ∧ Below w.heap.size w w' := by
  have b2 : ∀ o1 o2, Below w.heap.size w ((w.alloc o1).alloc o2) := fun o1 o2 => ((Below.refl _ _).alloc (Nat.le_refl _) _).alloc (by simp) _
  have HB2 := Lib.hid b2
  have HV := Lib.hid (fun o1 o2 => hv.below (b2 o1 o2))
  have HZ := Lib.hid (fun o1 o2 => isZero_any v a ((w.alloc o1).alloc o2) (hv.below (b2 o1 o2)))
  by_cases h0 : a = 0
  · subst h0
    rw [show decide ((0 : Nat) = 0) = true from rfl] at HZ
    obtain ⟨ao, ac, rfl, -⟩ := hv.shape
    clear hv b2
    go_enter Tryd.func19, Tryd.ntmps19
    go_wp2_with fail
    refine (HZ.out _ _).mono ?_
    rintro e w1 ⟨rfl, rfl⟩
    go_wp2
    refine bodyPost_ret (v := .agg #[.slice none 0 0]) (by simp [results, Tryd.results19, go_sem]) rfl ⟨.slice none 0 0, 0, rfl, IsN.zero _ _ _ _ _, by decide, by decide, HB2.out _ _⟩
  · rw [show decide (a = 0) = false from by simp [h0]] at HZ
    have ha0 : 0 < a := Nat.pos_of_ne_zero h0
    obtain ⟨M, hM⟩ : ∃ M, M = 4294967296 ^ (nd 4294967296 a + 1) := ⟨_, rfl⟩
    have HDV := Lib.hid (divide_long (nd 4294967296 a + 1) (by omega))
    rw [← hM] at HDV
    have HST := Lib.hid (sqrt_start ha0)
    have hroom := sqrt_room ha0
    rw [← hM] at hroom
    have HRM := Lib.hid hroom
    have HR0 : Hid (0 < 1 * 2 ^ ((nd 2 a + 1) / 2)) := by
      show 0 < _
      rw [Nat.one_mul]; exact Nat.pow_pos (by decide)
    have haM : a < M := by rw [hM, Nat.pow_succ]; have := nd_lt (B := 4294967296) (by decide) a; omega
    have HNM : Hid (∀ x, x < M → nd 4294967296 x ≤ 200001) := fun x hx => by
      rw [hM] at hx
      have := (nd_le (B := 4294967296) (by decide)).2 hx
      omega
    have HAM := Lib.hid haM
    have HBL := Lib.hid (fun W (h : D W v a) => bitLen_any v a W h (by omega))
    have hb2 := nd_two_le ha
    have HSL := Lib.hid (fun dv W (h : D W dv 1) => shiftLeft_any dv 1 ((nd 2 a + 1) / 2) W h (by rw [nd_small (by decide : 1 < 4294967296) |> Nat.le_antisymm <| nd_pos (by decide) (by decide)]; decide) (by omega))
    obtain ⟨ao, ac, rfl, -⟩ := hv.shape
    clear hv b2 h0 hM hroom haM
    go_enter Tryd.func19, Tryd.ntmps19
    go_wp2_with fail
    refine (HZ.out _ _).mono ?_
    rintro e w1 ⟨rfl, rfl⟩
    obtain ⟨W0, hW0⟩ : ∃ W0 : World, W0 = (w.alloc (.cells #[.slice ao (nd 4294967296 a) ac] 39)).alloc (.cells #[.slice none 0 0] 39) := ⟨_, rfl⟩
    have hz0 : W0.heap.size = w.heap.size + 2 := by rw [hW0]; simp
    have c0 : W0.cell? ⟨w.heap.size, 0, none⟩ = some (.slice ao (nd 4294967296 a) ac) := by rw [hW0]; exact (World.cell?_alloc_past _ _ _ (by simp)).trans (World.cell?_alloc_at _ _ _ _ rfl)
    have c1 : W0.cell? ⟨w.heap.size + 1, 0, none⟩ = some (.slice none 0 0) := by rw [hW0]; exact World.cell?_alloc_at _ _ _ _ (by simp)
    have f1 : W0.frozen? ⟨w.heap.size + 1, 0, none⟩ = false := by rw [hW0]; exact World.frozen?_alloc_at _ _ _ _ (by simp)
    have hst0 : St1 W0 (.slice ao (nd 4294967296 a) ac) a W0 := by rw [hW0]; exact ⟨HV.out _ _, Below.refl _ _⟩
    have hbw : Below w.heap.size w W0 := by rw [hW0]; exact HB2.out _ _
    have HCA : Hid (∀ W, St1 W0 (.slice ao (nd 4294967296 a) ac) a W → W.cell? ⟨w.heap.size, 0, none⟩ = some (.slice ao (nd 4294967296 a) ac)) := fun W h => h.cell (by omega) c0
    have HC1 : Hid (∀ W, St1 W0 (.slice ao (nd 4294967296 a) ac) a W → W.cell? ⟨w.heap.size + 1, 0, none⟩ = some (.slice none 0 0)) := fun W h => h.cell (by omega) c1
    have HF1 : Hid (∀ W, St1 W0 (.slice ao (nd 4294967296 a) ac) a W → W.frozen? ⟨w.heap.size + 1, 0, none⟩ = false) := fun W h => h.frozen (by omega) f1
    have HBW := Lib.hid hbw
    have HSZ : Hid (W0.heap.size = w.heap.size + 2) := hz0
    have HD1 : Hid (∀ W, St1 W0 (.slice ao (nd 4294967296 a) ac) a W → Calls Tryd.prog 58 #[.int .u64 1] W fun e w' => ∃ o l c, e = .returned (.slice o l c) ∧ D w' (.slice o l c) 1 ∧ St1 W0 (.slice ao (nd 4294967296 a) ac) a w') := fun W h =>
      (digitsOf_any 1 W (by decide)).mono fun e w' ⟨r, he, hr, hB⟩ => by
        obtain ⟨ro, rc, rfl, -⟩ := hr.shape
        exact ⟨ro, _, rc, he, hr, h.next hB⟩
    have HB1 : Hid (∀ W, St1 W0 (.slice ao (nd 4294967296 a) ac) a W → Calls Tryd.prog 55 #[.slice ao (nd 4294967296 a) ac] W fun e w' => e = .returned (.int .i64 (nd 2 a)) ∧ St1 W0 (.slice ao (nd 4294967296 a) ac) a w') := fun W h =>
      (HBL.out W h.num).mono fun e w' ⟨he, hw⟩ => ⟨he, hw ▸ h⟩
    rw [← hW0]
    have hs2 := hst0.next ((Below.refl _ W0).drew)
    have hca := HCA.out _ hs2
    have hcz := HCA.out _ hst0
    clear hW0 hz0 c0 c1 f1 hbw
    generalize nd 2 a = bl at *
    have HSL2 : Hid (∀ dv W, St1 W0 (.slice ao (nd 4294967296 a) ac) a W → D W dv 1 → Calls Tryd.prog 56 #[dv, .int .i64 (IntKind.i64.wrap ((IntKind.i64.wrap ((bl : Int) + 1)).tdiv 2))] W fun e w' => ∃ o l c, e = .returned (.slice o l c) ∧ D w' (.slice o l c) (1 * 2 ^ ((bl + 1) / 2)) ∧ St1 W0 (.slice ao (nd 4294967296 a) ac) a w') := fun dv W h hd => by
      have h1 := HSL.out dv W hd
      rw [show (((bl + 1) / 2 : Nat) : Int) = IntKind.i64.wrap ((IntKind.i64.wrap ((bl : Int) + 1)).tdiv 2) from by rw [IntWalk.i64_in ((bl : Int) + 1) (by omega), Int.tdiv_eq_ediv_of_nonneg (by omega), IntWalk.i64_in _ (by omega)]; omega] at h1
      exact h1.mono fun e w' ⟨r, he, hr, hB⟩ => by
        obtain ⟨ro, rc, rfl, -⟩ := hr.shape
        exact ⟨ro, _, rc, he, hr, h.next hB⟩
    clear HSL
    generalize 1 * 2 ^ ((bl + 1) / 2) = r0 at *
    go_wp2_with fail
    go_region_held3 (fun W : World => W.cell? ⟨w.heap.size, 0, none⟩ = some (.slice ao (nd 4294967296 a) ac) ∧ St1 W0 (.slice ao (nd 4294967296 a) ac) a W) (first | (refine And.intro ?_ ?_ <;> assumption)) (first
      | (go_at_call 58; with_reducible refine (HD1.out _ ?h).mono ?_; (case h => assumption); rintro e w' ⟨o1, l1, k1, rfl, hr', hs'⟩; have hc' := HCA.out _ hs')
      | (go_at_call 55; with_reducible refine (HBL.out _ ?h).mono ?_; (case h => exact St1.num (by assumption)); rintro e w' ⟨rfl, rfl⟩)
      | (go_at_call 56; with_reducible refine (HSL2.out _ _ ?h ?r).mono ?_; (case h => assumption); (case r => first | assumption | exact dchain (by assumption) (by assumption)); rintro e w' ⟨o2, l2, k2, rfl, hr', hs'⟩; have hc' := HCA.out _ hs'))
    all_goals
      have hroot : D w' (.slice o2 l2 k2) r0 := by assumption
      have hst : St1 W0 (.slice ao (nd 4294967296 a) ac) a w' := by assumption
      have HRT := Lib.hid hroot; have HSS := Lib.hid hst
      clear hroot hst
      go_wp2
      go_loopg [3] r0 (fun n x wr => 0 < n ∧ n < M ∧ Hid (a < (n + 1) * (n + 1)) ∧ D wr x n ∧ St1 W0 (.slice ao (nd 4294967296 a) ac) a wr)
      case atStart => exact ⟨HR0.out, HRM.out, HST.out, HRT.out, HSS.out⟩
      case round =>
        obtain ⟨hn, hnM, HA, hx, hst⟩ := hrel
        obtain ⟨xo, xc, rfl, -⟩ := hx.shape
        have HX := Lib.hid hx
        have hca := HCA.out _ hst
        have HS := Lib.hid hst
        have HQ := Lib.hid (quotient_any HDV.out _ _ a gk wr hst.num hx hn HAM.out hnM)
        have HNW := Lib.hid (newton hn ha0)
        have hng := HNM.out _ hnM
        have hnq : nd 4294967296 (a / gk) ≤ 200000 := Nat.le_trans (nd_mono (by decide) (Nat.div_le_self _ _)) ha
        have HNN := Lib.hid (HNM.out)
        clear hx hst
        generalize a / gk = q at *
        have hsum := nd_add hng (Nat.le_trans hnq (by decide))
        go_wp2_with fail
        refine HQ.out.mono ?_
        rintro e w2 ⟨qv, rfl, hq, hb⟩
        have HS2 := Lib.hid (HS.out.next hb)
        have HX2 := Lib.hid (HX.out.below hb)
        have HSUM := Lib.hid (sum_any _ qv gk q w2 HX2.out hq (by omega) (by omega))
        clear hq hb hca
        go_wp2_with fail
        refine HSUM.out.mono ?_
        rintro e w3 ⟨sv, rfl, hs3, hb⟩
        have HS3 := Lib.hid (HS2.out.next hb)
        have HX3 := Lib.hid (HX2.out.below hb)
        have HSH := Lib.hid (shiftRight_any sv (gk + q) 1 w3 hs3 (by omega) (by decide))
        rw [Nat.pow_one] at HSH
        clear hs3 hb
        go_wp2_with fail
        refine HSH.out.mono ?_
        rintro e w4 ⟨nv, rfl, hn4, hb⟩
        have HS4 := Lib.hid (HS3.out.next hb)
        have HX4 := Lib.hid (HX3.out.below hb)
        have HN4 := Lib.hid hn4
        have hnh : nd 4294967296 ((gk + q) / 2) ≤ 1048576 := Nat.le_trans (nd_mono (by decide) (Nat.div_le_self _ _)) (by omega)
        have HCM := Lib.hid (compare_any nv _ ((gk + q) / 2) gk w4 hn4 HX4.out hnh (by omega))
        clear hn4 hb hnh hsum
        generalize (gk + q) / 2 = nx at *
        by_cases hle : gk ≤ nx
        · have hcm : (0 : Int) ≤ cmpN ((nx : Nat) : Int) ((gk : Nat) : Int) := by
            rcases Nat.lt_or_eq_of_le hle with h | h
            · rw [cmpN_gt (by omega)]; decide
            · rw [cmpN_eq (by omega)]; decide
          have HSQ : Hid (gk * gk ≤ a) := HNW.out.2.2 hle
          clear hle
          generalize cmpN ((nx : Nat) : Int) ((gk : Nat) : Int) = cc at *
          go_wp2_with fail
          refine HCM.out.mono ?_
          rintro e w5 ⟨rfl, k, rfl⟩
          have hs5 := HS4.out.next (below_drewN (Below.refl _ w4) k)
          have hcell := HC1.out _ hs5
          have hfr := HF1.out _ hs5
          have HX5 := Lib.hid (HX4.out.below (below_drewN (Below.refl _ w4) k))
          have HCE := Lib.hid hcell
          have HBE := Lib.hid (HBW.out.trans (hs5.bel.mono HBW.out.size))
          clear hs5
          go_wp2
          refine bodyPost_ret (v := .agg #[.slice xo (nd 4294967296 gk) xc]) (by simp [results, Tryd.results19, go_sem, hcell]) rfl ⟨_, gk, rfl, HX5.out.setCell HCE.out (by intro d h; cases h) _, HSQ.out, HA.out, HBE.out.setCell (by show w.heap.size ≤ w.heap.size + 1; omega) _⟩
        · have hcm : cmpN ((nx : Nat) : Int) ((gk : Nat) : Int) < (0 : Int) := by rw [cmpN_lt (by omega)]; decide
          have HLT : Hid (nx < gk) := by show _ < _; omega
          clear hle
          generalize cmpN ((nx : Nat) : Int) ((gk : Nat) : Int) = cc at *
          go_wp2_with fail
          refine HCM.out.mono ?_
          rintro e w5 ⟨rfl, k, rfl⟩
          have HS5 := Lib.hid (HS4.out.next (below_drewN (Below.refl _ w4) k))
          have HN5 := Lib.hid (HN4.out.below (below_drewN (Below.refl _ w4) k))
          go_wp2
          go_roundg nx
          case measure => exact HLT.out
          case rel => exact ⟨HNW.out.1, by have := HLT.out; omega, HNW.out.2.1, HN5.out, HS5.out⟩
end Go.Proofs.YteajinpfigejfaaDoor
namespace Go.Proofs.YteajinpfigejfaaDoor
open Go Go.RowKit Gu

/-- the denominator that b stands for -/
def dn (b : Nat) : Nat := if b = 0 then 1 else b
theorem dn_pos (b : Nat) : 0 < dn b := by unfold dn; split <;> omega
theorem dn_of {b : Nat} (h : 0 < b) : dn b = b := if_neg (by omega)
theorem dn_nd {b m : Nat} (h : nd 4294967296 b ≤ m) (hm : 1 ≤ m) : nd 4294967296 (dn b) ≤ m := by
  unfold dn
  split
  · exact Nat.le_trans (nd_small (by decide)) hm
  · exact h
set_option maxHeartbeats 1000000 in
theorem terms_zero (v u : Value) (a : Nat) (w : World) (hv : D w v a) (hu : D w u 0) :
    Calls Tryd.prog 62 #[.agg #[v, u]] w fun e w' => ∃ r, e = .returned (.tuple #[v, r]) ∧ D w' r 1 ∧ Below w.heap.size w w' := by
  have b1 : ∀ o, Below w.heap.size w (w.alloc o) := fun o => (Below.refl _ _).alloc (Nat.le_refl _) _
  obtain ⟨W0, hW0⟩ : ∃ W0 : World, W0 = w.alloc (.cells #[v, u] 26) := ⟨_, rfl⟩
  have hz0 : W0.heap.size = w.heap.size + 1 := by rw [hW0]; simp
  have hbw : Below w.heap.size w W0 := by rw [hW0]; exact b1 _
  have hst0 : St1 W0 v a W0 := ⟨hv.below hbw, Below.refl _ _⟩
  have c0 : W0.cell? ⟨w.heap.size, 0, none⟩ = some v := by rw [hW0]; exact World.cell?_alloc_at _ _ _ _ rfl
  have HCA : Hid (∀ W, St1 W0 v a W → W.cell? ⟨w.heap.size, 0, none⟩ = some v) := fun W h => h.cell (by omega) c0
  have HZ := Lib.hid (isZero_any u 0 W0 (hu.below hbw))
  rw [show decide ((0 : Nat) = 0) = true from rfl] at HZ
  have HD1 : Hid (∀ W, St1 W0 v a W → Calls Tryd.prog 58 #[.int .u64 1] W fun e w' => ∃ r, e = .returned r ∧ D w' r 1 ∧ St1 W0 v a w') := fun W h =>
    (digitsOf_any 1 W (by decide)).mono fun e w' ⟨r, he, hr, hB⟩ => ⟨r, he, hr, h.next hB⟩
  have HBW := Lib.hid hbw
  have HW0 := Lib.hid hW0
  obtain ⟨ao, ac, rfl, -⟩ := hv.shape
  obtain ⟨bo, bc, rfl, -⟩ := hu.shape
  have hs2 := hst0.next ((Below.refl _ W0).drew)
  have hc2 := HCA.out _ hs2
  have hc0 := HCA.out _ hst0
  clear hv hu b1 hz0 hbw c0 hW0
  go_enter Tryd.func62, Tryd.ntmps62
  go_wp2_with fail
  rw [← HW0.out]
  refine HZ.out.mono ?_
  rintro e w1 ⟨rfl, rfl⟩
  go_wp2_with fail
  go_region_held3 (fun W : World => W.cell? ⟨w.heap.size, 0, none⟩ = some (.slice ao (nd 4294967296 a) ac) ∧ St1 W0 (.slice ao (nd 4294967296 a) ac) a W) (first | (refine And.intro ?_ ?_ <;> assumption)) (first
    | (go_at_call 58; with_reducible refine (HD1.out _ ?h).mono ?_; (case h => assumption); rintro e w' ⟨o1, rfl, hr', hs'⟩; have hc' := HCA.out _ hs'))
  all_goals
    have hD : D w' o1 1 := by assumption
    have hT : St1 W0 (.slice ao (nd 4294967296 a) ac) a w' := by assumption
    have HDD := Lib.hid hD
    have HBE := Lib.hid (HBW.out.trans (hT.bel.mono HBW.out.size))
    clear hD hT
    go_wp2
    go_ret2
    exact ⟨_, rfl, HDD.out, HBE.out⟩
theorem terms_any (v u : Value) (a b : Nat) (w : World) (hv : D w v a) (hu : D w u b) :
    Calls Tryd.prog 62 #[.agg #[v, u]] w fun e w' => ∃ r, e = .returned (.tuple #[v, r]) ∧ D w' r (dn b) ∧ Below w.heap.size w w' := by
  rcases Nat.eq_zero_or_pos b with h | h
  · subst h
    rw [show dn 0 = 1 from rfl]
    exact terms_zero v u a w hv hu
  · rw [dn_of h]
    exact (terms_pos v u a b w hv hu h).mono fun e w' ⟨he, hB⟩ => ⟨u, he, hu.below hB, hB⟩
/-- the text of a fraction -/
def fracText (a b : Nat) : List UInt8 := if b = 1 then Lib.decDigits a else Lib.decDigits a ++ 47 :: Lib.decDigits b
set_option maxHeartbeats 1000000 in
theorem FracString_one (v u : Value) (a b : Nat) (w : World) (hv : D w v a) (hu : D w u b) (hb : dn b = 1) (ha : nd 4294967296 a ≤ 100000) (he : Env w) :
    Calls Tryd.prog 27 #[.agg #[v, u]] w fun e w' => e = .returned (.string ⟨(Lib.decDigits a).toArray⟩) ∧ Below w.heap.size w w' := by
  have b1 : ∀ o, Below w.heap.size w (w.alloc o) := fun o => (Below.refl _ _).alloc (Nat.le_refl _) _
  have HT := Lib.hid (fun o => terms_any v u a b (w.alloc o) (hv.below (b1 o)) (hu.below (b1 o)))
  rw [hb] at HT
  have HO := Lib.hid (fun r w' (h : D w' r 1) => isOne_any r 1 w' h)
  rw [show decide ((1 : Nat) = 1) = true from rfl] at HO
  have HSA := Lib.hid (fun o w' (h : Below (w.alloc o).heap.size (w.alloc o) w') => String_any v a w' ((hv.below (b1 o)).below h) ha ((he.below (b1 o)).below h))
  have HB1 := Lib.hid b1
  obtain ⟨Sa, hSa⟩ : ∃ Sa : ByteArray, Sa = ⟨(Lib.decDigits a).toArray⟩ := ⟨_, rfl⟩
  rw [← hSa] at HSA ⊢
  obtain ⟨ao, ac, rfl, -⟩ := hv.shape
  obtain ⟨bo, bc, rfl, -⟩ := hu.shape
  clear hv hu b1 he hSa hb
  go_enter Tryd.func27, Tryd.ntmps27
  go_wp2_with fail
  refine (HT.out _).mono ?_
  rintro e w1 ⟨r, rfl, hr, hb1⟩
  have HB2 := Lib.hid hb1; have HR := Lib.hid hr; clear hb1 hr
  go_wp2_with fail
  refine (HO.out _ _ HR.out).mono ?_
  rintro e w2 ⟨rfl, rfl⟩
  go_wp2_with fail
  refine (HSA.out _ _ HB2.out).mono ?_
  rintro e w2 ⟨rfl, hb2⟩
  have HB3 := Lib.hid ((HB1.out _).trans ((HB2.out.trans (hb2.mono HB2.out.size)).mono (by simp))); clear hb2
  go_wp2
  go_ret
  exact ⟨rfl, HB3.out⟩
theorem FracString_any (v u : Value) (a b : Nat) (w : World) (hv : D w v a) (hu : D w u b) (ha : nd 4294967296 a ≤ 100000) (hb2 : nd 4294967296 b ≤ 100000) (he : Env w) :
    Calls Tryd.prog 27 #[.agg #[v, u]] w fun e w' => e = .returned (.string ⟨(fracText a (dn b)).toArray⟩) ∧ Below w.heap.size w w' := by
  unfold fracText
  by_cases h : dn b = 1
  · rw [if_pos h]
    exact FracString_one v u a b w hv hu h ha he
  · rw [if_neg h]
    have h1 : 1 < b := by
      unfold dn at h
      split at h <;> omega
    rw [dn_of (by omega)]
    exact FracString_two v u a b w hv hu h1 ha hb2 he
set_option maxHeartbeats 1000000 in
theorem FNum_any (v u : Value) (a b : Nat) (w : World) (hv : D w v a) (hu : D w u b) (ha : nd 4294967296 a ≤ 1048576) :
    Calls Tryd.prog 22 #[.agg #[v, u]] w fun e w' => ∃ r, e = .returned (.agg #[r]) ∧ D w' r a ∧ Below w.heap.size w w' := by
  have b2 : ∀ o1 o2, Below w.heap.size w ((w.alloc o1).alloc o2) := fun o1 o2 => ((Below.refl _ _).alloc (Nat.le_refl _) _).alloc (by simp) _
  have HT := Lib.hid (fun o1 o2 => terms_any v u a b ((w.alloc o1).alloc o2) (hv.below (b2 o1 o2)) (hu.below (b2 o1 o2)))
  have HC := Lib.hid (fun o1 o2 w' (h : Below ((w.alloc o1).alloc o2).heap.size ((w.alloc o1).alloc o2) w') => clone_any v a w' ((hv.below (b2 o1 o2)).below h) ha)
  have HB := Lib.hid b2
  obtain ⟨ao, ac, rfl, -⟩ := hv.shape
  obtain ⟨bo, bc, rfl, -⟩ := hu.shape
  clear hv hu b2
  go_enter Tryd.func22, Tryd.ntmps22
  go_wp2_with fail
  refine (HT.out _ _).mono ?_
  rintro e w1 ⟨r, rfl, -, hb1⟩
  have HB1 := Lib.hid hb1
  go_wp2_with fail
  refine (HC.out _ _ _ HB1.out).mono ?_
  rintro e w2 ⟨x, rfl, hx, hb2⟩
  obtain ⟨xo, xc, rfl, -⟩ := hx.shape
  have hb3 := HB1.out.trans (hb2.mono HB1.out.size)
  have hcell : w2.cell? ⟨w.heap.size + 1, 0, none⟩ = some (.slice none 0 0) := (hb3.cell (p := ⟨w.heap.size + 1, 0, none⟩) (by simp)).trans (World.cell?_alloc_at _ _ _ _ (by simp))
  have hfr : w2.frozen? ⟨w.heap.size + 1, 0, none⟩ = false := (hb3.frozen (p := ⟨w.heap.size + 1, 0, none⟩) (by simp)).trans (World.frozen?_alloc_at _ _ _ _ (by simp))
  have HX := Lib.hid hx; have HCE := Lib.hid hcell
  have HBE := Lib.hid ((HB.out _ _).trans (hb3.mono (HB.out _ _).size))
  clear hx hb1 hb2 hb3
  go_wp2
  refine bodyPost_ret (v := .agg #[.slice xo (nd 4294967296 a) xc]) (by simp [results, Tryd.results22, go_sem, hcell]) rfl ⟨_, rfl, HX.out.setCell HCE.out (by intro d h; cases h) _, HBE.out.setCell (by show w.heap.size ≤ w.heap.size + 1; omega) _⟩
end Go.Proofs.YteajinpfigejfaaDoor
namespace Go.Proofs.YteajinpfigejfaaDoor
open Go Go.RowKit Gu

def ffE (P Q : Nat) : Int := if nd 2 P ≤ 16384 ∧ nd 2 Q ≤ 16384 then 0 else 3
def ffN (P Q x : Nat) : Nat := if nd 2 P ≤ 16384 ∧ nd 2 Q ≤ 16384 then x else 0
/-- in lowest terms -/
def lowP (a b : Nat) : Nat := a / Nat.gcd a b
def lowQ (a b : Nat) : Nat := b / Nat.gcd a b
set_option maxHeartbeats 1000000 in
theorem crossed_any (v u x y : Value) (a b c d : Nat) (w : World) (hv : D w v a) (hu : D w u b) (hx : D w x c) (hy : D w y d) (ha : nd 4294967296 a ≤ 100000) (hb : nd 4294967296 b ≤ 100000) (hc : nd 4294967296 c ≤ 100000) (hd : nd 4294967296 d ≤ 100000) :
    Calls Tryd.prog 63 #[.agg #[v, u], .agg #[x, y]] w fun e w' => ∃ r1 r2 r3, e = .returned (.tuple #[r1, r2, r3]) ∧ D w' r1 (a * dn d) ∧ D w' r2 (c * dn b) ∧ D w' r3 (dn b * dn d) ∧ Below w.heap.size w w' := by
  have b2 : ∀ o1 o2, Below w.heap.size w ((w.alloc o1).alloc o2) := fun o1 o2 => ((Below.refl _ _).alloc (Nat.le_refl _) _).alloc (by simp) _
  have hdb := dn_nd hb (by decide)
  have hdd := dn_nd hd (by decide)
  have HT1 := Lib.hid (fun o1 o2 => terms_any v u a b ((w.alloc o1).alloc o2) (hv.below (b2 o1 o2)) (hu.below (b2 o1 o2)))
  have HT2 := Lib.hid (fun o1 o2 w' (h : Below ((w.alloc o1).alloc o2).heap.size ((w.alloc o1).alloc o2) w') => terms_any x y c d w' ((hx.below (b2 o1 o2)).below h) ((hy.below (b2 o1 o2)).below h))
  have HA := Lib.hid (fun o1 o2 => hv.below (b2 o1 o2))
  have HC := Lib.hid (fun o1 o2 => hx.below (b2 o1 o2))
  have HB := Lib.hid b2
  obtain ⟨ao, ac, rfl, -⟩ := hv.shape
  obtain ⟨bo, bc, rfl, -⟩ := hu.shape
  obtain ⟨co, cc, rfl, -⟩ := hx.shape
  obtain ⟨eo, ec, rfl, -⟩ := hy.shape
  clear hv hu hx hy b2
  generalize dn b = B at *
  generalize dn d = E at *
  go_enter Tryd.func63, Tryd.ntmps63
  go_wp2_with fail
  refine (HT1.out _ _).mono ?_
  rintro e w1 ⟨r, rfl, hr, hb1⟩
  obtain ⟨ro, rc, rfl, -⟩ := hr.shape
  have HB1 := Lib.hid hb1; have HR := Lib.hid hr
  have e0 : w1.cell? ⟨w.heap.size + 1, 0, none⟩ = some (.slice co (nd 4294967296 c) cc) := (hb1.cell (p := ⟨w.heap.size + 1, 0, none⟩) (by simp)).trans (World.cell?_alloc_at _ _ _ _ (by simp))
  have e1 : w1.cell? ⟨w.heap.size + 1, 1, none⟩ = some (.slice eo (nd 4294967296 d) ec) := (hb1.cell (p := ⟨w.heap.size + 1, 1, none⟩) (by simp)).trans (World.cell?_alloc_at _ _ _ _ (by simp))
  clear hr hb1
  go_wp2_with fail
  refine (HT2.out _ _ _ HB1.out).mono ?_
  rintro e w2 ⟨s, rfl, hs, hb2⟩
  obtain ⟨so, sc, rfl, -⟩ := hs.shape
  have HB2 := Lib.hid (HB1.out.trans (hb2.mono HB1.out.size)); have HS := Lib.hid hs; have HR2 := Lib.hid (HR.out.below hb2)
  clear hs hb2 HR e0 e1
  have HA2 := Lib.hid ((HA.out _ _).below HB2.out)
  have HC2 := Lib.hid ((HC.out _ _).below HB2.out)
  have HP1 := Lib.hid (product_any _ _ a E w2 HA2.out HS.out (by omega) (by omega))
  go_wp2_with fail
  refine HP1.out.mono ?_
  rintro e w3 ⟨p1, rfl, hp1, hb3⟩
  have HB3 := Lib.hid (HB2.out.trans (hb3.mono HB2.out.size)); have HQ1 := Lib.hid hp1; have HR3 := Lib.hid (HR2.out.below hb3); have HS3 := Lib.hid (HS.out.below hb3); have HC3 := Lib.hid (HC2.out.below hb3)
  clear hp1 hb3
  have HP2 := Lib.hid (product_any _ _ c B w3 HC3.out HR3.out (by omega) (by omega))
  go_wp2_with fail
  refine HP2.out.mono ?_
  rintro e w4 ⟨p2, rfl, hp2, hb4⟩
  have HB4 := Lib.hid (HB3.out.trans (hb4.mono HB3.out.size)); have HQ2 := Lib.hid hp2; have HQ1' := Lib.hid (HQ1.out.below hb4); have HR4 := Lib.hid (HR3.out.below hb4); have HS4 := Lib.hid (HS3.out.below hb4)
  clear hp2 hb4
  have HP3 := Lib.hid (product_any _ _ B E w4 HR4.out HS4.out (by omega) (by omega))
  go_wp2_with fail
  refine HP3.out.mono ?_
  rintro e w5 ⟨p3, rfl, hp3, hb5⟩
  have HB5 := Lib.hid ((HB.out _ _).trans ((HB4.out.trans (hb5.mono HB4.out.size)).mono (HB.out _ _).size)); have HQ3 := Lib.hid hp3; have HX1 := Lib.hid (HQ1'.out.below hb5); have HX2 := Lib.hid (HQ2.out.below hb5)
  clear hp3 hb5
  go_wp2
  refine bodyPost_ret (v := .tuple #[p1, p2, p3]) (by simp [results, Tryd.results63, go_sem]) rfl ⟨_, _, _, rfl, HX1.out, HX2.out, HQ3.out, HB5.out⟩
set_option maxHeartbeats 1000000 in
theorem FCmp_any (v u x y : Value) (a b c d : Nat) (w : World) (hv : D w v a) (hu : D w u b) (hx : D w x c) (hy : D w y d) (ha : nd 4294967296 a ≤ 100000) (hb : nd 4294967296 b ≤ 100000) (hc : nd 4294967296 c ≤ 100000) (hd : nd 4294967296 d ≤ 100000) :
    Calls Tryd.prog 26 #[.agg #[v, u], .agg #[x, y]] w fun e w' => e = .returned (.int .i64 (cmpN (a * dn d : Nat) (c * dn b : Nat))) ∧ Below w.heap.size w w' := by
  have b2 : ∀ o1 o2, Below w.heap.size w ((w.alloc o1).alloc o2) := fun o1 o2 => ((Below.refl _ _).alloc (Nat.le_refl _) _).alloc (by simp) _
  have HT1 := Lib.hid (fun o1 o2 => crossed_any v u x y a b c d ((w.alloc o1).alloc o2) (hv.below (b2 o1 o2)) (hu.below (b2 o1 o2)) (hx.below (b2 o1 o2)) (hy.below (b2 o1 o2)) ha hb hc hd)
  have h1 := nd_mul ha (dn_nd hd (by decide))
  have h2 := nd_mul hc (dn_nd hb (by decide))
  have HB := Lib.hid b2
  obtain ⟨ao, ac, rfl, -⟩ := hv.shape
  obtain ⟨bo, bc, rfl, -⟩ := hu.shape
  obtain ⟨co, cc, rfl, -⟩ := hx.shape
  obtain ⟨eo, ec, rfl, -⟩ := hy.shape
  clear hv hu hx hy b2
  generalize a * dn d = P at *
  generalize c * dn b = Q at *
  go_enter Tryd.func26, Tryd.ntmps26
  go_wp2_with fail
  refine (HT1.out _ _).mono ?_
  rintro e w1 ⟨r1, r2, r3, rfl, hr1, hr2, -, hb1⟩
  have HB1 := Lib.hid ((HB.out _ _).trans (hb1.mono (HB.out _ _).size))
  have HCM := Lib.hid (compare_any r1 r2 P Q w1 hr1 hr2 (by omega) (by omega))
  clear hr1 hr2 hb1
  go_wp2_with fail
  refine HCM.out.mono ?_
  rintro e w2 ⟨rfl, k, rfl⟩
  go_wp2
  go_ret
  exact ⟨rfl, below_drewN HB1.out k⟩
/-- what the end of a function with a result of two cells reads, where a box was made before -/
theorem fit_end {w w1 : World} {B : Nat} (d0 : w1.cell? ⟨B, 0, none⟩ = some (.slice none 0 0)) (d1 : w1.cell? ⟨B, 1, none⟩ = some (.slice none 0 0)) (hb : Below w.heap.size w w1) (hB : w.heap.size ≤ B) (hlt : B < w1.heap.size) (x y : Value) (o : Obj) :
    (((w1.setCell ⟨B, 0, none⟩ x).setCell ⟨B, 1, none⟩ y).alloc o).cell? ⟨B, 0, none⟩ = some x ∧ (((w1.setCell ⟨B, 0, none⟩ x).setCell ⟨B, 1, none⟩ y).alloc o).cell? ⟨B, 1, none⟩ = some y ∧ Below w.heap.size w (((w1.setCell ⟨B, 0, none⟩ x).setCell ⟨B, 1, none⟩ y).alloc o) := by
  obtain ⟨t0, t1⟩ := read_two d0 d1 x y
  have hl : B < ((w1.setCell ⟨B, 0, none⟩ x).setCell ⟨B, 1, none⟩ y).heap.size := by rw [World.size_setCell, World.size_setCell]; exact hlt
  exact ⟨(World.cell?_alloc_past _ _ _ hl).trans t0, (World.cell?_alloc_past _ _ _ hl).trans t1, ((hb.setCell hB _).setCell hB _).alloc (Nat.le_of_lt (Nat.lt_of_le_of_lt hB hl)) _⟩
set_option maxHeartbeats 2000000 in
theorem fittingFrac_any (v u : Value) (a b : Nat) (w : World) (hv : D w v a) (hu : D w u b) (hb : 0 < b) (ha : nd 4294967296 a ≤ 300000) (hbn : nd 4294967296 b ≤ 300000) :
    Calls Tryd.prog 64 #[v, u] w fun e w' => ∃ r s, e = .returned (.tuple #[.agg #[r, s], .int .i64 (ffE (lowP a b) (lowQ a b))]) ∧ D w' r (ffN (lowP a b) (lowQ a b) (lowP a b)) ∧ D w' s (ffN (lowP a b) (lowQ a b) (lowQ a b)) ∧ Below w.heap.size w w' := by
  have b1 : ∀ o, Below w.heap.size w (w.alloc o) := fun o => (Below.refl _ _).alloc (Nat.le_refl _) _
  obtain ⟨N, hN⟩ : ∃ N, N = 300000 := ⟨_, rfl⟩
  have HDV := Lib.hid (divide_long N (by omega))
  have HL := Lib.hid (fun o => lowest_any HDV.out v u a b (w.alloc o) (hv.below (b1 o)) (hu.below (b1 o)) hb ((nd_le (by decide)).1 (by omega)) ((nd_le (by decide)).1 (by omega)))
  have hP : nd 4294967296 (lowP a b) ≤ 1048576 := Nat.le_trans (nd_mono (by decide) (Nat.div_le_self _ _)) (by omega)
  have hQ : nd 4294967296 (lowQ a b) ≤ 1048576 := Nat.le_trans (nd_mono (by decide) (Nat.div_le_self _ _)) (by omega)
  rw [show a / Nat.gcd a b = lowP a b from rfl, show b / Nat.gcd a b = lowQ a b from rfl] at HL
  have HB := Lib.hid b1
  obtain ⟨ao, ac, rfl, -⟩ := hv.shape
  obtain ⟨bo, bc, rfl, -⟩ := hu.shape
  clear hv hu b1 hN HDV hb ha hbn
  generalize lowP a b = P at *
  generalize lowQ a b = Q at *
  have hcase : (nd 2 P ≤ 16384 ∧ nd 2 Q ≤ 16384 ∧ ffE P Q = 0 ∧ (∀ x, ffN P Q x = x)) ∨ (16384 < nd 2 P ∧ ffE P Q = 3 ∧ (∀ x, ffN P Q x = 0)) ∨ (nd 2 P ≤ 16384 ∧ 16384 < nd 2 Q ∧ ffE P Q = 3 ∧ (∀ x, ffN P Q x = 0)) := by
    by_cases h1 : nd 2 P ≤ 16384
    · by_cases h2 : nd 2 Q ≤ 16384
      · exact .inl ⟨h1, h2, if_pos ⟨h1, h2⟩, fun x => if_pos ⟨h1, h2⟩⟩
      · exact .inr (.inr ⟨h1, by omega, if_neg (fun h => h2 h.2), fun x => if_neg (fun h => h2 h.2)⟩)
    · exact .inr (.inl ⟨by omega, if_neg (fun h => h1 h.1), fun x => if_neg (fun h => h1 h.1)⟩)
  have hres : Hid ((∃ x y, x = ffN P Q P ∧ y = ffN P Q Q)) := ⟨_, _, rfl, rfl⟩
  go_enter Tryd.func64, Tryd.ntmps64
  go_wp2_with fail
  refine (HL.out _).mono ?_
  rintro e w1 ⟨r, s, rfl, hr, hs, hb1⟩
  obtain ⟨ro, rc, rfl, -⟩ := hr.shape
  obtain ⟨so, sc, rfl, -⟩ := hs.shape
  have hz := hb1.size
  simp only [World.size_alloc] at hz
  have hlt : w.heap.size < w1.heap.size := by omega
  have HLT := Lib.hid hlt
  have d0 : w1.cell? ⟨w.heap.size, 0, none⟩ = some (.slice none 0 0) := (hb1.cell (p := ⟨w.heap.size, 0, none⟩) (by simp)).trans (World.cell?_alloc_at _ _ _ _ rfl)
  have d1 : w1.cell? ⟨w.heap.size, 1, none⟩ = some (.slice none 0 0) := (hb1.cell (p := ⟨w.heap.size, 1, none⟩) (by simp)).trans (World.cell?_alloc_at _ _ _ _ rfl)
  have g0 : w1.frozen? ⟨w.heap.size, 0, none⟩ = false := (hb1.frozen (p := ⟨w.heap.size, 0, none⟩) (by simp)).trans (World.frozen?_alloc_at _ _ _ _ rfl)
  have g1 : w1.frozen? ⟨w.heap.size, 1, none⟩ = false := (hb1.frozen (p := ⟨w.heap.size, 1, none⟩) (by simp)).trans (World.frozen?_alloc_at _ _ _ _ rfl)
  have HR := Lib.hid hr; have HS := Lib.hid hs
  have HBW := Lib.hid ((HB.out (.cells #[.slice none 0 0, .slice none 0 0] 26)).trans (hb1.mono (by simp)))
  have HD0 := Lib.hid d0; have HD1 := Lib.hid d1
  have ba : ∀ o, Below w1.heap.size w1 (w1.alloc o) := fun o => (Below.refl _ _).alloc (Nat.le_refl _) _
  have HBP := Lib.hid (fun o => bitLen_any _ P (w1.alloc o) (hr.below (ba o)) hP)
  have HBQ := Lib.hid (fun o => bitLen_any _ Q (w1.alloc o) (hs.below (ba o)) hQ)
  have HC := Lib.hid hcase
  clear hr hs hb1 ba hcase hP hQ
  rcases HC.out with ⟨q1, q2, q3, q4⟩ | ⟨q1, q3, q4⟩ | ⟨q1, q2, q3, q4⟩
  · have Q3 := Lib.hid q3; have Q4 := Lib.hid q4
    clear q3 q4
    generalize nd 2 P = bp at *
    generalize nd 2 Q = bq at *
    go_wp2_with fail
    refine (HBP.out _).mono ?_
    rintro e w2 ⟨rfl, rfl⟩
    go_wp2_with fail
    refine (HBQ.out _).mono ?_
    rintro e w2 ⟨rfl, rfl⟩
    go_wp2
    obtain ⟨t0, t1⟩ := fit_end (w := w) (B := w.heap.size) HD0.out HD1.out HBW.out (Nat.le_refl _) HLT.out (.slice ro (nd 4294967296 P) rc) (.slice so (nd 4294967296 Q) sc) (.cells #[.slice ro (nd 4294967296 P) rc, .slice so (nd 4294967296 Q) sc] 26)
    refine bodyPost_ret (v := .tuple #[.agg #[.slice ro (nd 4294967296 P) rc, .slice so (nd 4294967296 Q) sc], .int .i64 0]) (by simp [results, Tryd.results64, go_sem, t0, t1.1]) rfl
      ⟨_, _, by rw [Q3.out], by rw [Q4.out]; exact ((IsN_setTwo HR.out HD0.out HD1.out (by intro d h; cases h) (by intro d h; cases h) _ _).below ((Below.refl _ _).alloc (Nat.le_refl _) _)), by rw [Q4.out]; exact ((IsN_setTwo HS.out HD0.out HD1.out (by intro d h; cases h) (by intro d h; cases h) _ _).below ((Below.refl _ _).alloc (Nat.le_refl _) _)), t1.2⟩
  · have Q3 := Lib.hid q3; have Q4 := Lib.hid q4
    clear q3 q4
    generalize nd 2 P = bp at *
    go_wp2_with fail
    refine (HBP.out _).mono ?_
    rintro e w2 ⟨rfl, rfl⟩
    go_wp2
    obtain ⟨t0, t1⟩ := fit_end (w := w) (B := w.heap.size) HD0.out HD1.out HBW.out (Nat.le_refl _) HLT.out (.slice none 0 0) (.slice none 0 0) (.cells #[.slice ro (nd 4294967296 P) rc, .slice so (nd 4294967296 Q) sc] 26)
    refine bodyPost_ret (v := .tuple #[.agg #[.slice none 0 0, .slice none 0 0], .int .i64 3]) (by simp [results, Tryd.results64, go_sem, t0, t1.1]) rfl
      ⟨_, _, by rw [Q3.out], by rw [Q4.out]; exact IsN.zero _ _ _ _ _, by rw [Q4.out]; exact IsN.zero _ _ _ _ _, t1.2⟩
  · have Q3 := Lib.hid q3; have Q4 := Lib.hid q4
    clear q3 q4
    generalize nd 2 P = bp at *
    generalize nd 2 Q = bq at *
    go_wp2_with fail
    refine (HBP.out _).mono ?_
    rintro e w2 ⟨rfl, rfl⟩
    go_wp2_with fail
    refine (HBQ.out _).mono ?_
    rintro e w2 ⟨rfl, rfl⟩
    go_wp2
    obtain ⟨t0, t1⟩ := fit_end (w := w) (B := w.heap.size) HD0.out HD1.out HBW.out (Nat.le_refl _) HLT.out (.slice none 0 0) (.slice none 0 0) (.cells #[.slice ro (nd 4294967296 P) rc, .slice so (nd 4294967296 Q) sc] 26)
    refine bodyPost_ret (v := .tuple #[.agg #[.slice none 0 0, .slice none 0 0], .int .i64 3]) (by simp [results, Tryd.results64, go_sem, t0, t1.1]) rfl
      ⟨_, _, by rw [Q3.out], by rw [Q4.out]; exact IsN.zero _ _ _ _ _, by rw [Q4.out]; exact IsN.zero _ _ _ _ _, t1.2⟩
/-- a function's result of two cells in the block B, filled by what a call gave -/
theorem two_store {w W' : World} {B P Q : Nat} {ro so : Option Addr} {rc sc : Nat} (hr : D W' (.slice ro (nd 4294967296 P) rc) P) (hs : D W' (.slice so (nd 4294967296 Q) sc) Q)
    (d0 : W'.cell? ⟨B, 0, none⟩ = some (.slice none 0 0)) (d1 : W'.cell? ⟨B, 1, none⟩ = some (.slice none 0 0)) (hb : Below w.heap.size w W') (hB : w.heap.size ≤ B) :
    let W2 := (W'.setCell ⟨B, 0, none⟩ (.slice ro (nd 4294967296 P) rc)).setCell ⟨B, 1, none⟩ (.slice so (nd 4294967296 Q) sc)
    D W2 (.slice ro (nd 4294967296 P) rc) P ∧ D W2 (.slice so (nd 4294967296 Q) sc) Q ∧ W2.cell? ⟨B, 0, none⟩ = some (.slice ro (nd 4294967296 P) rc) ∧ W2.cell? ⟨B, 1, none⟩ = some (.slice so (nd 4294967296 Q) sc) ∧ Below w.heap.size w W2 := by
  obtain ⟨t0, t1⟩ := read_two d0 d1 (.slice ro (nd 4294967296 P) rc) (.slice so (nd 4294967296 Q) sc)
  exact ⟨IsN_setTwo hr d0 d1 (by intro d h; cases h) (by intro d h; cases h) _ _, IsN_setTwo hs d0 d1 (by intro d h; cases h) (by intro d h; cases h) _ _, t0, t1, (hb.setCell hB _).setCell hB _⟩
end Go.Proofs.YteajinpfigejfaaDoor
namespace Go.Proofs.YteajinpfigejfaaDoor
open Go Go.RowKit Gu

/-- boxes (block, offset, value), the program's numbers, the document's numbers -/
structure Kq (cs : List (Nat × Nat × Value)) (ns rs : List (Value × Nat)) (w W : World) : Prop where
  num : ∀ p ∈ ns, D W p.1 p.2
  dig : ∀ p ∈ rs, R W p.1 p.2
  box : ∀ p ∈ cs, p.1 < W.heap.size ∧ W.cell? ⟨p.1, p.2.1, none⟩ = some p.2.2
  env : Env W
  bel : Below w.heap.size w W
section
variable {cs : List (Nat × Nat × Value)} {ns rs : List (Value × Nat)} {w W W' : World}
theorem Kq.start (he : Env w) : Kq [] [] [] w w := ⟨fun _ h => by simp at h, fun _ h => by simp at h, fun _ h => by simp at h, he, Below.refl _ _⟩
theorem Kq.next (h : Kq cs ns rs w W) (hb : Below W.heap.size W W') : Kq cs ns rs w W' :=
  ⟨fun p hp => (h.num p hp).below hb, fun p hp => (h.dig p hp).below hb, fun p hp => ⟨Nat.lt_of_lt_of_le (h.box p hp).1 hb.size, (hb.cell (p := ⟨p.1, p.2.1, none⟩) (h.box p hp).1).trans (h.box p hp).2⟩, h.env.below hb, h.bel.trans (hb.mono h.bel.size)⟩
theorem Kq.drewN (h : Kq cs ns rs w W) (q : Nat) : Kq cs ns rs w (W.drewN q) := h.next (below_drewN (Below.refl _ _) q)
theorem Kq.drew (h : Kq cs ns rs w W) : Kq cs ns rs w W.drew := h.next (Below.refl _ _).drew
theorem Kq.addNum (h : Kq cs ns rs w W) {v : Value} {n : Nat} (hv : D W v n) : Kq cs ((v, n) :: ns) rs w W :=
  ⟨fun p hp => by
    rcases List.mem_cons.1 hp with rfl | hp
    · exact hv
    · exact h.num p hp, h.dig, h.box, h.env, h.bel⟩
theorem Kq.addDig (h : Kq cs ns rs w W) {v : Value} {n : Nat} (hv : R W v n) : Kq cs ns ((v, n) :: rs) w W :=
  ⟨h.num, fun p hp => by
    rcases List.mem_cons.1 hp with rfl | hp
    · exact hv
    · exact h.dig p hp, h.box, h.env, h.bel⟩
theorem Kq.alloc (h : Kq cs ns rs w W) (o : Obj) : Kq cs ns rs w (W.alloc o) := h.next ((Below.refl _ _).alloc (Nat.le_refl _) _)
theorem Kq.addBox (h : Kq cs ns rs w W) {b o : Nat} {v : Value} (h1 : b < W.heap.size) (h2 : W.cell? ⟨b, o, none⟩ = some v) : Kq ((b, o, v) :: cs) ns rs w W :=
  ⟨h.num, h.dig, fun p hp => by
    rcases List.mem_cons.1 hp with rfl | hp
    · exact ⟨h1, h2⟩
    · exact h.box p hp, h.env, h.bel⟩
/-- a variable gets its box -/
theorem Kq.boxed (h : Kq cs ns rs w W) (v : Value) (T : TypeId) : Kq ((W.heap.size, 0, v) :: cs) ns rs w (W.alloc (.cells #[v] T)) :=
  (h.alloc _).addBox (by simp) (World.cell?_alloc_at _ _ _ _ rfl)
theorem Kq.boxed2 (h : Kq cs ns rs w W) (v u : Value) (T : TypeId) : Kq ((W.heap.size, 1, u) :: (W.heap.size, 0, v) :: cs) ns rs w (W.alloc (.cells #[v, u] T)) :=
  ((h.alloc _).addBox (by simp) (World.cell?_alloc_at _ _ _ _ rfl)).addBox (by simp) (World.cell?_alloc_at _ _ _ _ rfl)
theorem Kq.cell (h : Kq cs ns rs w W) {g o : Nat} {v : Value} (hm : (g, o, v) ∈ cs) : W.cell? ⟨g, o, none⟩ = some v := (h.box _ hm).2
theorem RCmp_Q {v u : Value} {a b : Nat} (h : Kq cs ns rs w W) (h1 : (v, a) ∈ rs) (h2 : (u, b) ∈ rs) (ha : nd 65536 a ≤ 1048576) (hb : nd 65536 b ≤ 1048576) :
    Calls Tryd.prog 38 #[v, u] W fun e w' => e = .returned (.int .i64 (cmpN a b)) ∧ Kq cs ns rs w w' :=
  (RCmp_any _ _ a b W (h.dig _ h1) (h.dig _ h2) ha hb).mono fun _ _ ⟨he, k, hw⟩ => ⟨he, by rw [hw]; exact h.drewN k⟩
theorem awake_Q (h : Kq cs ns rs w W) : Calls Tryd.prog 6 #[] W fun e w' => e = .returned (.bool true) ∧ Kq cs ns rs w w' :=
  (awake_any W h.env).mono fun _ _ ⟨he, hB⟩ => ⟨he, h.next hB⟩
end
end Go.Proofs.YteajinpfigejfaaDoor
