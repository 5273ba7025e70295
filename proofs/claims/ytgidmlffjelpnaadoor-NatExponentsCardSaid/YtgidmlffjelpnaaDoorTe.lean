/- The contracts of divideLong and divide. -/
import Derived.Test.YtgidmlffjelpnaaDoorTd
import Derived.Laws.CopyOwn
import Derived.Deep.DeepMust
import Derived.Lib.ItoaNum
namespace Go.Proofs.YtgidmlffjelpnaaDoor
open Go Go.RowKit Gu

/-- a number's digits copied over a row of zeros -/
theorem copy_row {cur : List Value} {m x : Nat} (hz : ∀ i, i < m → cur[i]? = some (.int .u32 0)) (hx : x < 4294967296 ^ m) (i : Nat) (hi : i < m) :
    ((splice cur 0 ((pad 4294967296 (nd 4294967296 x) x).map fun d : Nat => Value.int .u32 (d : Int))).toArray)[i]? = some (.int .u32 (dg 4294967296 x i : Nat)) := by
  have hnd : nd 4294967296 x ≤ m := (nd_le (by decide)).2 hx
  have hl : ((pad 4294967296 (nd 4294967296 x) x).map fun d : Nat => Value.int .u32 (d : Int)).length = nd 4294967296 x := by simp [pad]
  simp only [splice, List.take_zero, List.nil_append, List.getElem?_toArray]
  by_cases h : i < nd 4294967296 x
  · rw [List.getElem?_append_left (by rw [hl]; exact h)]
    simp [pad, h]
  · rw [List.getElem?_append_right (by rw [hl]; omega), hl, List.getElem?_drop, show 0 + nd 4294967296 x + (i - nd 4294967296 x) = i from by omega, hz i hi]
    rw [dg_high (by decide) (nd_lt (by decide) x) (by omega)]
    rfl
theorem lz_pow {t : Nat} (h0 : 0 < t) (h : t < 4294967296) : Go.Lib.bitLen t ≤ 32 ∧ 0 < Go.Lib.bitLen t ∧ t * 2 ^ (32 - Go.Lib.bitLen t) < 4294967296 := by
  have h1 : Go.Lib.bitLen t ≤ 32 := Go.Lib.bitLen_le t 32 (by decide) (by simpa using h)
  have h2 : t < 2 ^ Go.Lib.bitLen t := (Go.Lib.bitLenAux_bounds 64 t (by omega) (by omega)).2.2
  refine ⟨h1, ?_, ?_⟩
  · rcases Nat.eq_zero_or_pos (Go.Lib.bitLen t) with h' | h'
    · rw [h'] at h2; simp at h2; omega
    · exact h'
  · have h3 : t * 2 ^ (32 - Go.Lib.bitLen t) < 2 ^ Go.Lib.bitLen t * 2 ^ (32 - Go.Lib.bitLen t) := Nat.mul_lt_mul_of_pos_right h2 (Nat.pow_pos (by decide))
    rw [← Nat.pow_add, show Go.Lib.bitLen t + (32 - Go.Lib.bitLen t) = 32 from by omega] at h3
    simpa using h3
/-- the divisor, shifted, has as many digits -/
theorem shl_nd {b s n : Nat} (hn : nd 4294967296 b = n) (hn2 : 2 ≤ n) (hs : dg 4294967296 b (n - 1) * 2 ^ s < 4294967296) (hs32 : s ≤ 32) : nd 4294967296 (b * 2 ^ s) = n := by
  have hB : 2 ≤ 4294967296 := by decide
  have hp : 0 < 2 ^ s := Nat.pow_pos (by decide)
  have h1 := nd_lt hB b
  rw [hn] at h1
  have hle : nd 4294967296 b ≤ nd 4294967296 (b * 2 ^ s) := nd_mono hB (Nat.le_mul_of_pos_right _ hp)
  have hge : nd 4294967296 (b * 2 ^ s) ≤ n := by
    apply (nd_le hB).2
    have e1 := div_succ 4294967296 b (n - 1)
    rw [show n - 1 + 1 = n from by omega, Nat.div_eq_of_lt h1, Nat.mul_zero, Nat.add_zero] at e1
    rw [← e1] at hs
    have e2 : b < (b / 4294967296 ^ (n - 1) + 1) * 4294967296 ^ (n - 1) := by
      have := Nat.lt_div_mul_add (Nat.pow_pos (n := n - 1) (by decide : 0 < 4294967296)) (a := b)
      rw [Nat.add_mul, Nat.one_mul]; exact this
    have e3 : b * 2 ^ s < ((b / 4294967296 ^ (n - 1) + 1) * 4294967296 ^ (n - 1)) * 2 ^ s := Nat.mul_lt_mul_of_pos_right e2 hp
    have e4 : (b / 4294967296 ^ (n - 1) + 1) * 2 ^ s ≤ 4294967296 := by
      have e6 := pow_dvd32 hs32
      have e7 : b / 4294967296 ^ (n - 1) * 2 ^ s < 2 ^ (32 - s) * 2 ^ s := by rw [Nat.mul_comm (2 ^ (32 - s)), ← e6]; exact hs
      have e8 := Nat.lt_of_mul_lt_mul_right e7
      have e9 : (b / 4294967296 ^ (n - 1) + 1) * 2 ^ s ≤ 2 ^ (32 - s) * 2 ^ s := Nat.mul_le_mul_right _ e8
      rw [Nat.mul_comm (2 ^ (32 - s)), ← e6] at e9
      exact e9
    have e5 : ((b / 4294967296 ^ (n - 1) + 1) * 4294967296 ^ (n - 1)) * 2 ^ s ≤ 4294967296 ^ n := by
      rw [Nat.mul_right_comm]
      refine Nat.le_trans (Nat.mul_le_mul_right _ e4) ?_
      rw [Nat.mul_comm, ← Nat.pow_succ]
      exact Nat.pow_le_pow_right (by decide) (by omega)
    omega
  omega
theorem Buf.grown {k : IntKind} {B : Nat} {T : TypeId} {w w' : World} {g gq m x : Nat} (h : Buf k B T w gq m x) (hb : w.grownBy w' (some g)) (hne : gq ≠ g) : Buf k B T w' gq m x :=
  World.rowIs.of_block h (hb.block gq (Buf.lt h) (by simp only [ne_eq, Option.some.injEq]; intro e; exact hne e))
/-- the arithmetic of one round -/
theorem long_digit {B x d k : Nat} (hd : 0 < d) : (x / B ^ k) % d = (dg B x k + B * ((x / B ^ (k + 1)) % d)) % d ∧ (x / B ^ k) / d = (dg B x k + B * ((x / B ^ (k + 1)) % d)) / d + B * ((x / B ^ (k + 1)) / d) := by
  have e1 := div_succ B x k
  have e2 := Nat.div_add_mod (x / B ^ (k + 1)) d
  generalize x / B ^ (k + 1) = y at *
  have e3 : x / B ^ k = dg B x k + B * (y % d) + d * (B * (y / d)) := by
    rw [e1]
    have : B * y = B * (d * (y / d)) + B * (y % d) := by rw [← Nat.mul_add, e2]
    rw [this, Nat.mul_left_comm]; omega
  rw [e3]
  exact ⟨Nat.add_mul_mod_self_left _ _ _, Nat.add_mul_div_left _ _ hd⟩
theorem long_lt {B x d k : Nat} (hB : 0 < B) (hd : 0 < d) : dg B x k + B * ((x / B ^ (k + 1)) % d) < d * B := by
  have h1 := dg_lt hB x k
  have h2 := Nat.mod_lt (x / B ^ (k + 1)) hd
  have h3 : B * ((x / B ^ (k + 1)) % d) + B ≤ B * d := by rw [← Nat.mul_succ]; exact Nat.mul_le_mul_left _ h2
  rw [Nat.mul_comm d]; omega
theorem long_shape {B x R n H k : Nat} : x % B ^ (k + 1) + B ^ (k + 1) * (R + B ^ n * H) = x % B ^ k + B ^ k * ((dg B x k + B * R) + B ^ (n + 1) * H) := by
  rw [mod_succ, Nat.pow_succ, Nat.mul_assoc, Nat.mul_add B, Nat.mul_add (B ^ k), Nat.mul_add (B ^ k), Nat.mul_add (B ^ k), Nat.pow_succ, Nat.mul_comm (B ^ n) B, Nat.mul_assoc B]
  omega
/-- what the loop of divideLong keeps: k digits of the quotient are still to come -/
def LongRel (x d n m : Nat) (g gq : Nat) (w : World) (k : Nat) (wr : World) : Prop :=
  ∃ H, Buf .u32 4294967296 85 wr g (m + n) (x % 4294967296 ^ k + 4294967296 ^ k * ((x / 4294967296 ^ k) % d + 4294967296 ^ n * H)) ∧
    Buf .u32 4294967296 85 wr gq m (0 + 4294967296 ^ k * ((x / 4294967296 ^ k) / d)) ∧ Below w.heap.size w wr
/-- what stands when the loop has ended -/
structure LongEnd (g gq n m q r : Nat) (w1 W : World) : Prop where
  bq : Buf .u32 4294967296 85 W gq m q
  br : ∀ i, i < n → W.cell? ⟨g, i, none⟩ = some (.int .u32 (dg 4294967296 r i : Nat))
  bel : Below w1.heap.size w1 W
  lt : g < W.heap.size
theorem LongEnd.next {g gq n m q r : Nat} {w1 W W' : World} (h : LongEnd g gq n m q r w1 W) (hb : Below W.heap.size W W') : LongEnd g gq n m q r w1 W' :=
  ⟨Gu.Buf.below h.bq hb (Gu.Buf.lt h.bq), fun i hi => (hb.cell (p := ⟨g, i, none⟩) h.lt).trans (h.br i hi), h.bel.trans (hb.mono h.bel.size), Nat.lt_of_lt_of_le h.lt hb.size⟩
theorem LongEnd.rest {g gq n m q r : Nat} {w1 W : World} (h : LongEnd g gq n m q r w1 W) (hr : r < 4294967296 ^ n) (cap : Nat) : D W (.slice (some ⟨g, 0, none⟩) (nd 4294967296 r) cap) r := by
  rcases Nat.eq_zero_or_pos r with h0 | h0
  · subst h0; rw [nd_zero]; exact IsN.zero _ _ _ _ _
  · exact .inr ⟨h0, g, 0, cap, rfl, fun i hi => by rw [Nat.zero_add]; exact h.br i (Nat.lt_of_lt_of_le hi ((nd_le (by decide)).2 hr))⟩
set_option maxHeartbeats 2000000 in
set_option maxRecDepth 100000 in
theorem divideLong_any (v u : Value) (a b : Nat) (w : World) (hv : D w v a) (hu : D w u b) (hab : b ≤ a) (hb2 : 2 ≤ nd 4294967296 b) (ha : nd 4294967296 a ≤ 400000) :
    Calls Tryd.prog 97 #[v, u] w fun e w' => ∃ q r, e = .returned (.tuple #[q, r]) ∧ D w' q (a / b) ∧ D w' r (a % b) ∧ Below w.heap.size w w' := by
  have hB : 2 ≤ 4294967296 := by decide
  have hnm := nd_mono hB hab
  have hb0 : 0 < b := by
    rcases Nat.eq_zero_or_pos b with h | h
    · subst h; rw [nd_zero] at hb2; omega
    · exact h
  have htop := dg_top hB hb0
  have htl := dg_lt (B := 4294967296) (by decide) b (nd 4294967296 b - 1)
  obtain ⟨l1, l2, l3⟩ := lz_pow htop htl
  obtain ⟨s, hs⟩ : ∃ s, s = 32 - Go.Lib.bitLen (dg 4294967296 b (nd 4294967296 b - 1)) := ⟨_, rfl⟩
  have hlz : (32 : Int) - (Go.Lib.bitLen (dg 4294967296 b (nd 4294967296 b - 1)) : Int) = s := by omega
  rw [← hs] at l3
  have hs31 : s ≤ 31 := by omega
  have hdn := shl_nd rfl hb2 l3 (by omega)
  have HLZ := Lib.hid (fun w => (Tryd.bits_LeadingZeros32 (dg 4294967296 b (nd 4294967296 b - 1) : Nat) w (by omega) (by omega)).mono (fun _ _ h => And.intro h.1 h.2.symm))
  rw [Int.toNat_natCast, hlz] at HLZ
  have HSB := Lib.hid (shiftLeft_any u b s w hu (by omega) (by omega))
  have HSA := Lib.hid (fun W (h : D W v a) => shiftLeft_any v a s W h (by omega) (by omega))
  have HV := Lib.hid hv
  obtain ⟨bo, bc, rfl, hcu⟩ := hu.shape
  obtain ⟨gb, go, rfl, hcb⟩ := hcu (nd 4294967296 b - 1) (by omega)
  obtain ⟨ao, ac, rfl, -⟩ := hv.shape
  have HDN := Lib.hid hdn
  clear hv hu hcu hab hs l1 l2 l3 hlz hdn
  have HND : Hid (nd 4294967296 a = nd 4294967296 a) := rfl
  generalize hna : nd 4294967296 a = la at *
  generalize hnb : nd 4294967296 b = n at *
  have HNA := Lib.hid hna; have HNB := Lib.hid hnb
  clear hna hnb HND
  generalize dg 4294967296 b (n - 1) = t at *
  have hmk1 := made_u32 (la + 1) (by omega)
  rw [show (((la + 1 : Nat)) : Int) = (la : Int) + 1 from by omega] at hmk1
  have hmk2 := made_u32 (la - n + 1) (by omega)
  rw [show (((la - n + 1 : Nat)) : Int) = (la : Int) - n + 1 from by omega] at hmk2
  go_enter Tryd.func97, Tryd.ntmps97
  go_wp2_with fail
  refine (HLZ.out _).mono ?_
  rintro e w' ⟨rfl, rfl⟩
  go_wp2_with fail
  refine HSB.out.mono ?_
  rintro e w1 ⟨dv, rfl, hd, hbel⟩
  have hz1 := hbel.size
  have HV1 := Lib.hid (HV.out.below (hbel.alloc hbel.size (.cells (madeCells #[.int .u32 0] (la + 1)) 85)))
  have hdb : ∀ bb o c l, dv = .slice (some ⟨bb, o, none⟩) l c → 0 < b * 2 ^ s → bb ≠ w1.heap.size := by
    intro bb o c l he h0
    rcases hd with ⟨h, _⟩ | ⟨_, b', o', c', he', hc'⟩
    · omega
    · rw [he'] at he
      simp only [Value.slice.injEq, Option.some.injEq, Addr.mk.injEq, and_true] at he
      obtain ⟨⟨rfl, rfl⟩, _, _⟩ := he
      have := World.block_lt_of_cell? _ _ (hc' 0 (nd_pos hB h0))
      exact Nat.ne_of_lt this
  have HDB := Lib.hid hdb
  clear hdb
  obtain ⟨d0, dc, rfl, -⟩ := hd.shape
  rw [HDN.out] at hd HDB ⊢
  have HD1 := Lib.hid hd
  have HB1 := Lib.hid hbel
  clear hd hbel hcb
  go_wp2_with fail
  refine (HSA.out _ HV1.out).mono ?_
  rintro e w2 ⟨av, rfl, hav, hbel⟩
  obtain ⟨a0, acc, rfl, -⟩ := hav.shape
  have hxl : a * 2 ^ s < 4294967296 ^ (la + 1) := by
    have h1 := nd_lt hB a
    rw [HNA.out] at h1
    rw [Nat.pow_succ]
    exact Nat.mul_lt_mul_of_lt_of_le h1 (Nat.le_trans (Nat.pow_le_pow_right (by decide) (show s ≤ 32 by omega)) (by decide)) (by decide)
  have hrow : Buf .u32 4294967296 85 w2 w1.heap.size (la + 1) 0 := (Buf.made .u32 4294967296 85 w1 (la + 1)).below hbel (by simp)
  obtain ⟨cur, hcur, hcsz, hcz⟩ := hrow
  have hcur' : w2.heap[w1.heap.size]? = some (.cells cur.toList.toArray 85 (0, 0)) := by rw [Array.toArray_toList]; exact hcur
  have HB12 := Lib.hid (((Below.refl w1.heap.size w1).alloc (Nat.le_refl _) (.cells (madeCells #[.int .u32 0] (la + 1)) 85)).trans (hbel.mono (by simp)))
  have HXL := Lib.hid hxl
  have HCPY := Lib.hid (fun i hi => copy_row (cur := cur.toList) (m := la + 1) (x := a * 2 ^ s) (fun i hi => by rw [Array.getElem?_toList, hcz i hi]; simp only [dg_zero]; rfl) hxl i hi)
  have HAV := Lib.hid hav
  have hnx : nd 4294967296 (a * 2 ^ s) ≤ la + 1 := (nd_le hB).2 hxl
  have hcl : cur.toList.length = la + 1 := by rw [Array.length_toList]; exact hcsz
  have hz2 := hbel.size
  simp only [World.size_alloc] at hz2
  clear hav hbel hxl hcur hcz hcsz HV1 HSA HLZ HV
  obtain ⟨CS, hCS⟩ : ∃ CS, CS = (pad 4294967296 (nd 4294967296 (a * 2 ^ s)) (a * 2 ^ s)).map fun d : Nat => Value.int .u32 (d : Int) := ⟨_, rfl⟩
  have hCSl : CS.length = nd 4294967296 (a * 2 ^ s) := by rw [hCS]; simp [pad]
  have HCS := Lib.hid hCS
  rw [← hCS] at HCPY
  have H1C : Hid (∀ v ∈ CS, v.oneCell' = true) := by rw [HCS.out]; exact newsU32 _ _
  have HSRC : Hid (0 < CS.length → ∃ ad, a0 = some ad ∧ ∀ j v, CS[j]? = some v → w2.cell? (ad.add j) = some v) := by
    intro h0
    rcases HAV.out with ⟨h1, -⟩ | ⟨h1, gb, go, cc, he, hc⟩
    · rw [hCSl, h1, nd_zero] at h0; omega
    · simp only [Value.slice.injEq] at he
      refine ⟨_, he.1, fun j v hj => ?_⟩
      have hjl : j < nd 4294967296 (a * 2 ^ s) := by
        rw [← hCSl]; exact (List.getElem?_eq_some_iff.1 hj).1
      have := hc j hjl
      rw [Addr.add_lit, this]
      rw [HCS.out] at hj
      simp [pad, hjl] at hj
      rw [← hj]
  have HNL := Lib.hid hCSl
  clear hCS hCSl
  generalize nd 4294967296 (a * 2 ^ s) = nx at *
  have hsz1 : (Tryd.prog.info? 85).map (·.size) = some 1 := by kernel_rfl
  go_wp2_with ((with_reducible show wpList _ _ _ _ _ _); go_must (refine wpList_copy_splice rfl (.tmp 29) (.tmp 32) 23 24 rfl 85 Tryd.underlying23 hsz1 (some ⟨w1.heap.size, 0, none⟩) a0 (la + 1) (la + 1) nx acc (by rfl) (by rfl) w1.heap.size 0 cur.toList 85 hcur' CS ?c0 ?c1 ?c2 H1C.out w1.heap.size w2 (Below.refl _ _) ?c3 ?_))
  case c0 => rw [HNL.out]; exact (Nat.min_eq_left hnx).symm
  case c1 => intro h0; first | exact ⟨rfl, HSRC.out h0⟩ | exact HSRC.out h0
  case c2 => rw [HNL.out, hcl]; omega
  case c3 => exact Nat.le_refl _
  intro w3 hrow3 hb3
  have HROW : Hid (Buf .u32 4294967296 85 w3 w1.heap.size (la + 1) (a * 2 ^ s)) := by
    refine ⟨_, hrow3.out, ?_, HCPY.out⟩
    rw [List.size_toArray, length_splice _ _ _ (by rw [HNL.out, hcl]; omega), hcl]
  have hz3 := hb3.size
  have hb13 := HB12.out.trans hb3
  have HB3 := Lib.hid hb13
  have hz13 := hb13.size
  clear hb13
  clear hrow3 hb3 hcl hcur' HCPY HNL HSRC HCS H1C HB12 hsz1
  have HBA : Hid (b * 2 ^ s ≠ 0) := Nat.ne_of_gt (Nat.mul_pos hb0 (Nat.pow_pos (by decide)))
  have HLN := Lib.hid (nd_lt hB b)
  have HPW : Hid (4294967296 ^ (n - 1) ≤ b) := by show _ ≤ _; rw [← HNB.out]; exact nd_pow_le hB hb0
  have HDP : Hid (0 < b * 2 ^ s) := Nat.pos_of_ne_zero HBA.out
  obtain ⟨m, hm⟩ : ∃ m, m = la - n + 1 := ⟨_, rfl⟩
  have hmi : (la : Int) - n + 1 = m := by omega
  have hla : la + 1 = m + n := by omega
  have HQ0 : Hid (a * 2 ^ s / 4294967296 ^ m < b * 2 ^ s) := by
    show _ < _
    rw [Nat.div_lt_iff_lt_mul (Nat.pow_pos (by decide)), Nat.mul_right_comm]
    refine Nat.mul_lt_mul_of_pos_right ?_ (Nat.pow_pos (by decide))
    have h1 := nd_lt hB a
    rw [HNA.out] at h1
    refine Nat.lt_of_lt_of_le h1 (Nat.le_trans ?_ (Nat.mul_le_mul_right _ HPW.out))
    rw [← Nat.pow_add]
    exact Nat.pow_le_pow_right (by decide) (by omega)
  have HMI := Lib.hid hmi
  have HMM := Lib.hid hm
  have HROW2 := HROW.out
  rw [hla] at HROW2
  have HR3 := Lib.hid HROW2
  clear HROW2 HROW hmi hm
  go_wp2
  rw [HMI.out, ← HMM.out]
  have hw3a : Below w3.heap.size w3 (w3.alloc (.cells (madeCells #[.int .u32 0] m) 85)) := (Below.refl _ _).alloc (Nat.le_refl _) _
  have HST : Hid (LongRel (a * 2 ^ s) (b * 2 ^ s) n m w1.heap.size w3.heap.size w1 m (w3.alloc (.cells (madeCells #[.int .u32 0] m) 85))) := by
    refine ⟨0, ?_, ?_, HB3.out.trans (hw3a.mono hz13)⟩
    · rw [Nat.mul_zero, Nat.add_zero, Nat.mod_eq_of_lt HQ0.out, Nat.mod_add_div]
      exact HR3.out.below hw3a (by omega)
    · rw [Nat.div_eq_of_lt HQ0.out, Nat.mul_zero]
      exact Buf.made _ _ _ _ _
  rw [show ((la - n : Nat) : Int) + 1 = m from by have := HMM.out; omega]
  have hgq : w1.heap.size < w3.heap.size := by omega
  have HLA := Lib.hid hla
  have hml : m ≤ 400001 := by omega
  clear hla hw3a HB3 HR3 HMI HMM hmk1 hmk2 hz13 hz2 hz3 hz1 hnx HSB HXL HAV
  obtain ⟨x, hx⟩ : ∃ x, x = a * 2 ^ s := ⟨_, rfl⟩
  obtain ⟨d, hd⟩ : ∃ d, d = b * 2 ^ s := ⟨_, rfl⟩
  have HX := Lib.hid hx; have HDE := Lib.hid hd
  rw [← hx, ← hd] at HST HQ0
  rw [← hd] at HD1 HDB HDN HDP
  clear hx hd
  go_loopw [42] (fun t wr => ∃ j k : Nat, Hid (j + k = m) ∧ t = .int .i64 j ∧ LongRel x d n m w1.heap.size w3.heap.size w1 k wr) (fun t _ => m - (intOf t).toNat)
  case atStart => exact ⟨0, m, by show _ = _; omega, rfl, HST.out⟩
  case round =>
    obtain ⟨j, k, HJK, rfl, H, hbuf, hq, hbel⟩ := hrel
    cases k with
    | zero =>
      have hjm : j = m := by have := HJK.out; omega
      rw [Nat.pow_zero, Nat.div_one, Nat.mod_one, Nat.zero_add, Nat.one_mul] at hbuf
      rw [Nat.pow_zero, Nat.div_one, Nat.zero_add, Nat.one_mul] at hq
      have HQL : Hid (x / d < 4294967296 ^ m) := by
        show _ < _
        rw [Nat.div_lt_iff_lt_mul HDP.out, Nat.mul_comm]
        exact (Nat.div_lt_iff_lt_mul (Nat.pow_pos (by decide))).1 HQ0.out
      have HRL : Hid (x % d < 4294967296 ^ n) := by
        have := nd_lt hB d
        rw [HDN.out] at this
        exact Nat.lt_trans (Nat.mod_lt _ HDP.out) this
      have hend : LongEnd w1.heap.size w3.heap.size n m (x / d) (x % d) w1 wr := ⟨hq, fun i hi => by rw [Gu.Buf.cell hbuf (by omega), dg_low (by decide) hi], hbel, Gu.Buf.lt hbuf⟩
      clear hbuf hq hbel
      subst hjm
      have HT1 := Lib.hid (fun W (h : LongEnd w1.heap.size w3.heap.size n j (x / d) (x % d) w1 W) => trim_buf w3.heap.size j j (x / d) W h.bq HQL.out (by omega) (Nat.le_refl _))
      have HT2 := Lib.hid (fun W (h : LongEnd w1.heap.size w3.heap.size n j (x / d) (x % d) w1 W) => trim_any w1.heap.size n (la + 1) (x % d) W h.br HRL.out (by omega) (by omega))
      have HSR := Lib.hid (fun W (h : LongEnd w1.heap.size w3.heap.size n j (x / d) (x % d) w1 W) => (shiftRight_any (.slice (some ⟨w1.heap.size, 0, none⟩) (nd 4294967296 (x % d)) (nd 4294967296 (x % d))) (x % d) s W (h.rest HRL.out _) (by have := (nd_le hB).2 HRL.out; omega) (by omega)).mono fun e w' ⟨r, he, hr, hb⟩ =>
        (show ∃ ro rl rc, e = Ending.returned (.slice ro rl rc) ∧ D w' (.slice ro rl rc) (x % d / 2 ^ s) ∧ LongEnd w1.heap.size w3.heap.size n j (x / d) (x % d) w1 w' from by
          obtain ⟨ro, rc, rfl, -⟩ := hr.shape
          exact ⟨ro, _, rc, he, hr, h.next hb⟩))
      have hsx : nd 4294967296 (x / d) ≤ j := (nd_le hB).2 HQL.out
      have hend2 := hend.next (Below.refl wr.heap.size wr).drew
      clear hend
      have HXD : Hid (x / d = a / b ∧ x % d / 2 ^ s = a % b) := by
        have hp : 0 < 2 ^ s := Nat.pow_pos (by decide)
        refine ⟨?_, ?_⟩
        · rw [HX.out, HDE.out, Nat.mul_div_mul_right _ _ hp]
        · rw [HX.out, HDE.out, Nat.mul_mod_mul_right, Nat.mul_div_cancel _ hp]
      obtain ⟨rr, hrr⟩ : ∃ rr, rr = x % d / 2 ^ s := ⟨_, rfl⟩
      rw [← hrr] at HSR HXD
      clear hrr
      have hi1 : (0 : Int) ≤ n := by omega
      have hi2 : (n : Int) ≤ (la : Int) + 1 := by omega
      have hi3 : (n : Int) ≤ ((la + 1 : Nat) : Int) := by omega
      have hi4 : n ≤ la + 1 := by omega
      go_wp2_with fail
      go_region_held3 (fun W : World => LongEnd w1.heap.size w3.heap.size n j (x / d) (x % d) w1 W) (assumption) (first
        | (go_at_call 73; refine (HSR.out _ ?h).mono ?_; (case h => assumption); rintro e w' ⟨ro, rl, rc, rfl, hr, hs'⟩)
        | (go_at_call 85; with_reducible refine (HT1.out _ ?h).mono ?_; (case h => assumption); rintro e w' ⟨rfl, rfl⟩)
        | (go_at_call 85; with_reducible refine (HT2.out _ ?h).mono ?_; (case h => assumption); rintro e w' ⟨rfl, rfl⟩))
      all_goals go_wp2
      all_goals go_ret2
      all_goals exact ⟨_, _, rfl, by rw [← HXD.out.1]; exact hs'.bq.isN hB HQL.out _, by rw [← HXD.out.2]; exact hr, HB1.out.trans (hs'.bel.mono HB1.out.size)⟩
    | succ k =>
      have hjm : j < m := by have := HJK.out; omega
      have hjm2 : (j : Int) < m := by omega
      have e1 : (m : Int) - 1 - j = k := by have := HJK.out; omega
      rw [long_shape] at hbuf
      have HW := Lib.hid (divideWindow_any w1.heap.size (m + n) k n (n + 1) (x % 4294967296 ^ k) (dg 4294967296 x k + 4294967296 * ((x / 4294967296 ^ (k + 1)) % d)) H d (.slice d0 n dc) wr hbuf (Nat.mod_lt _ (Nat.pow_pos (by decide))) (long_lt (by decide) HDP.out) (by have := HJK.out; omega) hb2 (by omega) (Nat.le_refl _) (HD1.out.below hbel) HDN.out HDB.out)
      clear hbuf
      have hkm : k < m := by have := HJK.out; omega
      have hkl : k + n ≤ la := by have := HLA.out; omega
      have hcell := hq.cell (i := k) hkm
      have hfr := hq.frozen k
      have HQ := Lib.hid hq; have HBEL := Lib.hid hbel
      clear hq hbel
      have hwlt := long_lt (B := 4294967296) (x := x) (k := k) (by decide) HDP.out
      obtain ⟨LD1, LD2⟩ := long_digit (B := 4294967296) (x := x) (k := k) HDP.out
      have hL1 := Lib.hid LD1; have hL2 := Lib.hid LD2
      clear LD1 LD2
      obtain ⟨W, hWe⟩ : ∃ W, W = dg 4294967296 x k + 4294967296 * ((x / 4294967296 ^ (k + 1)) % d) := ⟨_, rfl⟩
      rw [← hWe] at HW hL1 hL2
      have HLQ := Lib.hid (fun (h : W / d < 4294967296) => h)
      clear hwlt hWe
      generalize dg 4294967296 (0 + 4294967296 ^ (k + 1) * ((x / 4294967296 ^ (k + 1)) / d)) k = dq at *
      go_wp2_with fail
      rw [show k + n + 1 - k = n + 1 from by omega]
      refine HW.out.mono ?_
      rintro e w' ⟨rfl, hql, hbf, hgr⟩
      have hq2 := Buf.grown HQ.out hgr (by omega)
      have hcell2 := Gu.Buf.cell hq2 (i := k) hkm
      have hfr2 := Gu.Buf.frozen hq2 k
      have HNEW : Hid (LongRel x d n m w1.heap.size w3.heap.size w1 k (w'.setCell ⟨w3.heap.size, k, none⟩ (.int .u32 (W / d : Nat)))) := by
        refine ⟨W / 4294967296 ^ n + 4294967296 * H, ?_, ?_, ?_⟩
        · rw [hL1.out]
          exact World.rowIs.of_block hbf (Below.heap_setCell _ _ _ _ (by simp only [ne_eq]; omega))
        · rw [hL2.out]
          have e : 0 + 4294967296 ^ (k + 1) * ((x / 4294967296 ^ (k + 1)) / d) = 0 + 4294967296 ^ k * (0 + 4294967296 * ((x / 4294967296 ^ (k + 1)) / d)) := by rw [Nat.pow_succ, Nat.mul_assoc, Nat.zero_add, Nat.zero_add, Nat.zero_add]
          rw [e] at hq2
          exact Buf.set hq2 (by decide) (Nat.pow_pos (by decide)) (by decide) hql
        · have hsz := HBEL.out.size
          exact (HBEL.out.grown hgr (by omega) (fun j hj => by simp only [Option.some.injEq] at hj; omega)).setCell (by show w1.heap.size ≤ w3.heap.size; omega) _
      clear hbf hgr hq2 HQ HBEL HW hL1 hL2
      generalize dg 4294967296 (0 + 4294967296 ^ (k + 1) * ((x / 4294967296 ^ (k + 1)) / d)) k = dq2 at *
      generalize W / d = qd at *
      go_wp2
      go_roundw
      case rel => exact ⟨j + 1, k, by have := HJK.out; show _ = _; omega, by go_num, HNEW.out⟩
      case measure => simp [intOf]; omega
set_option maxHeartbeats 800000 in
theorem divide_long (N : Nat) (hN : N ≤ 400000) : DivOK (4294967296 ^ N) := by
  intro v u a b w hv hu hb ha hbN
  have hB : 2 ≤ 4294967296 := by decide
  have hna : nd 4294967296 a ≤ N := (nd_le hB).2 ha
  have hnb : nd 4294967296 b ≤ N := (nd_le hB).2 hbN
  have hnb0 := nd_pos hB hb
  clear ha hbN
  have HC := Lib.hid (compare_any v u a b w hv hu (by omega) (by omega))
  by_cases hlt : a < b
  · have HCl := Lib.hid (fun q => clone_any v a (w.drewN q) (IsN.drewN hv q) (by omega))
    have HE : Hid (a / b = 0 ∧ a % b = a) := ⟨Nat.div_eq_of_lt hlt, Nat.mod_eq_of_lt hlt⟩
    rw [cmpN_lt (by omega)] at HC
    obtain ⟨ao, ac, rfl, -⟩ := hv.shape
    obtain ⟨bo, bc, rfl, -⟩ := hu.shape
    clear hv hu hna hnb hb hlt hnb0
    go_enter Tryd.func79, Tryd.ntmps79
    go_wp2_with fail
    refine HC.out.mono ?_
    rintro e w' ⟨rfl, q, rfl⟩
    go_wp2_with fail
    refine (HCl.out q).mono ?_
    rintro e w' ⟨r, rfl, hr, hbel⟩
    go_wp2
    go_ret2
    exact ⟨.slice none 0 0, r, rfl, by rw [HE.out.1]; exact IsN.zero _ _ _ _ _, by rw [HE.out.2]; exact hr, (below_drewN (Below.refl _ _) q).trans hbel⟩
  · have hcmp : ¬ cmpN a b < 0 := by
      unfold cmpN; rw [if_neg (by omega)]; split <;> omega
    by_cases h1 : nd 4294967296 b = 1
    · have hb1 : b < 4294967296 := by
        have := nd_lt hB b
        rw [h1] at this; simpa using this
      have HD := Lib.hid (fun q => divideByDigit_any v a b (w.drewN q) (IsN.drewN hv q) (by omega) hb hb1)
      rcases hu with ⟨h0, _⟩ | ⟨_, bb, bo, bc, rfl, hcu⟩
      · omega
      have hcell : w.cell? ⟨bb, bo, none⟩ = some (.int .u32 (b : Nat)) := by
        have := hcu 0 (by omega)
        rw [Nat.add_zero] at this
        rw [this]; simp [dg, Nat.mod_eq_of_lt hb1]
      rw [h1] at HC ⊢
      have hmod := Nat.mod_lt a hb
      generalize cmpN a b = cc at *
      have HDG := Lib.hid (fun w => digitsOf_any (a % b) w (by omega))
      generalize hmm : a % b = mm at *
      have HMM := Lib.hid hmm; clear hmm
      obtain ⟨ao, ac, rfl, -⟩ := hv.shape
      clear hv hna hnb hlt hcu h1
      go_enter Tryd.func79, Tryd.ntmps79
      go_wp2_with fail
      refine HC.out.mono ?_
      rintro e w' ⟨rfl, q, rfl⟩
      go_wp2_with fail
      refine (HD.out q).mono ?_
      rintro e w' ⟨r, rfl, hr, hbel⟩
      go_wp2_with fail
      refine (HDG.out _).mono ?_
      rintro e w2 ⟨r2, rfl, hr2, hbel2⟩
      go_wp2
      go_ret2
      exact ⟨r, r2, rfl, hr.below hbel2, hr2, ((below_drewN (Below.refl _ _) q).trans hbel).trans (hbel2.mono hbel.size)⟩
    · have HD := Lib.hid (fun q => divideLong_any v u a b (w.drewN q) (IsN.drewN hv q) (IsN.drewN hu q) (by omega) (by omega) (by omega))
      have hne : (((nd 4294967296 b : Nat) : Int) == 1) = false := by simp; omega
      generalize cmpN a b = cc at *
      obtain ⟨ao, ac, rfl, -⟩ := hv.shape
      obtain ⟨bo, bc, rfl, -⟩ := hu.shape
      clear hv hu hna hnb hlt
      go_enter Tryd.func79, Tryd.ntmps79
      go_wp2_with fail
      refine HC.out.mono ?_
      rintro e w' ⟨rfl, q, rfl⟩
      go_wp2_with fail
      refine (HD.out q).mono ?_
      rintro e w' ⟨qv, r, rfl, hq, hr, hbel⟩
      go_wp2
      go_ret2
      exact ⟨qv, r, rfl, hq, hr, (below_drewN (Below.refl _ _) q).trans hbel⟩
end Go.Proofs.YtgidmlffjelpnaaDoor
