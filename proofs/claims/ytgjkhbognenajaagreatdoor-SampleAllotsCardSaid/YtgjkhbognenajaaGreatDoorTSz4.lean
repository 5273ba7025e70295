/- Contracts and lemmas (several texts merged into one). -/
import Derived.Test.YtgjkhbognenajaaGreatDoorTSz1
import Derived.Deep.RegionHeld3
import Derived.Deep.RegionLaw
import Derived.Deep.DeepMust
import Derived.Deep.DeepFit
import Derived.Test.YtgjkhbognenajaaGreatDoorSc
namespace Go.Proofs.YtgjkhbognenajaaGreatDoor
open Go Go.RowKit Gu

/-- an append to a row of the call's own, as one step of a region that draws its order -/
theorem step_append_own {P : Program} {ops : Array Oper} {o : Oper} {a : Act} {w : World} {K : Act → World → Prop} {Q : Exit → Act → World → Prop} {E : Prop} (hg : o.guard = none) (s x : Operand) (t : TypeId)
    (ho : o.op = Op.call { callee := Callee.builtin Builtin.append, args := #[s, x], argTypes := #[t, t] })
    (base : Nat) (e : TypeId) (i : TypeInfo) (z : Value) (size bytes : Nat) (ht : P.underlying t = some (.slice e)) (hi : P.info? e = some i) (hz : i.zero = some z)
    (hsize : i.size = size) (hby : i.bytes = bytes) (hzs : z.cells.size = size) (hsz : 0 < size)
    (v : Value) (n : Nat) (xs : List Value) (hs : a.eval s = v) (hown : w.ownsRow base e size v n xs)
    (ad : Addr) (m c : Nat) (news : List Value) (hx : a.eval x = .slice (some ad) m c) (hl : news.length = m * size) (hnews : ∀ j u, news[j]? = some u → w.cell? (ad.add j) = some u) (h1 : ∀ u ∈ news, u.oneCell' = true)
    (h63 : n + m ≤ maxLen) (hbytes : (n + m) * bytes ≤ 140737488355328) (hbase : base ≤ w.heap.size)
    (hK : ∀ v' w', w'.ownsRow base e size v' (n + m) (xs ++ news) → w.grownBy w' v.ownBlock → (v' = .slice none 0 0 ↔ v = .slice none 0 0 ∧ m = 0) → K (a.put o.dst v') w') :
    if Region.wanted o (yielded ops a.tmps) = true then Oper.wp P o a w K Q else E := by
  have hw : Region.wanted o (yielded ops a.tmps) = true := by simp [Region.wanted, hg]
  rw [if_pos hw]
  exact wp_append_own w s x t ho base e i z size bytes ht hi hz hsize hby hzs hsz v n xs hs hown ad m c news hx hl hnews h1 h63 hbytes hbase hK
theorem shr_word {B p t da db : Nat} (hB : B = p * t) (hp : 0 < p) (hda : da < B) : ((da + B * db) / p) % B = da / p + db % p * t := by
  subst hB
  have ht : 0 < t := by
    rcases Nat.eq_zero_or_pos t with h | h
    · subst h; omega
    · exact h
  have e1 : (da + p * t * db) / p = da / p + t * db := by
    rw [Nat.mul_assoc, Nat.add_mul_div_left _ _ hp]
  have e2 : t * db = (db % p) * t + p * t * (db / p) := by
    have h := Nat.div_add_mod db p
    have h2 : t * (p * (db / p) + db % p) = t * db := by rw [h]
    rw [Nat.mul_add, ← Nat.mul_assoc, Nat.mul_comm t p, Nat.mul_comm t (db % p)] at h2
    omega
  rw [e1, e2, ← Nat.add_assoc, Nat.add_mul_mod_self_left]
  apply Nat.mod_eq_of_lt
  have h3 : da / p < t := by rw [Nat.div_lt_iff_lt_mul hp, Nat.mul_comm]; exact hda
  have h4 : db % p * t + t ≤ p * t := by rw [← Nat.succ_mul]; exact Nat.mul_le_mul_right _ (Nat.mod_lt _ hp)
  omega
theorem pow_dvd16 {s : Nat} (h : s ≤ 16) : 65536 = 2 ^ s * 2 ^ (16 - s) := by
  rw [← Nat.pow_add, show s + (16 - s) = 16 from by omega]
theorem pow_n {n wh s : Nat} (h : n = 16 * wh + s) : 2 ^ n = 65536 ^ wh * 2 ^ s := by
  rw [h, Nat.pow_add, Nat.pow_mul]
/-- a digit of a number divided by a power of two, as the document makes it -/
theorem shr_dg {a n wh s k : Nat} (h : n = 16 * wh + s) (hs : s < 16) : dg 65536 (a / 2 ^ n) k = dg 65536 a (wh + k) / 2 ^ s + dg 65536 a (wh + k + 1) % 2 ^ s * 2 ^ (16 - s) := by
  rw [pow_n h, shr_digit (by decide) ⟨_, pow_dvd16 (by omega)⟩, Nat.add_comm k wh, shr_word (pow_dvd16 (by omega)) (Nat.pow_pos (by decide)) (dg_lt (by decide) _ _)]
/-- what the loop of Shr keeps -/
def RShrRel (a n : Nat) (w : World) (k : Nat) (v : Value) (wr : World) : Prop :=
  Own .i64 65536 3 wr w.heap.size v k (a / 2 ^ n % 65536 ^ k) ∧ Below w.heap.size w wr
theorem pad_wh {wh k X d : Nat} (hX : X < 65536 ^ k) (hd : d < 65536) : pad 65536 (wh + k + 1) (65536 ^ wh * (X + 65536 ^ k * d)) = pad 65536 (wh + k) (65536 ^ wh * X) ++ [d] := by
  rw [Nat.mul_add, ← Nat.mul_assoc, ← Nat.pow_add]
  refine pad_succ (by decide) ?_ hd
  rw [Nat.pow_add]
  exact Nat.mul_lt_mul_of_pos_left hX (Nat.pow_pos (by decide))
/-- what the loop of Shl keeps -/
def RShlRel (a s wh : Nat) (w : World) (k X c : Nat) (v : Value) (wr : World) : Prop :=
  c < 2 ^ s ∧ X < 65536 ^ k ∧ X + 65536 ^ k * c = (a % 65536 ^ k) * 2 ^ s ∧ Own .i64 65536 3 wr w.heap.size v (wh + k) (65536 ^ wh * X) ∧ Below w.heap.size w wr
theorem own_zeros {w : World} (wh : Nat) (hwh : wh ≤ 1048576) : Own .i64 65536 3 (w.alloc (.cells (madeCells #[.int .i64 0] wh) 3)) w.heap.size (.slice (some ⟨w.heap.size, 0, none⟩) wh wh) wh 0 := by
  unfold Own
  refine ⟨by simp [pad], .inr ⟨w.heap.size, wh, _, rfl, Nat.le_refl _, heap_alloc_new w _, Nat.le_refl _, by unfold maxLen; omega, by rw [size_madeCells, Nat.mul_one], ?_⟩⟩
  rw [pad_zero, Nat.mul_one]
  simp only [madeCells, Array.toList_map, Array.toList_range, List.size_toArray]
  rw [List.take_of_length_le (by simp)]
  apply List.ext_getElem (by simp)
  intro i h1 h2
  simp [Nat.mod_one]
set_option maxHeartbeats 2000000 in
set_option maxRecDepth 100000 in
theorem RShl_any (v : Value) (a n : Nat) (w : World) (hv : R w v a) (ha : nd 65536 a ≤ 500000) (hn : n ≤ 8000000) :
    Calls Tryz.prog 34 #[v, .int .i64 n] w fun e w' => ∃ r, e = .returned r ∧ R w' r (a * 2 ^ n) ∧ Below w.heap.size w w' := by
  obtain ⟨i0, hi, hz0, hz1, hz2⟩ := info_parts Tryz.infoInt
  have hB : 2 ≤ 65536 := by decide
  obtain ⟨ao, ac, rfl, hcv⟩ := hv.shape
  have HC := Lib.hid hcv
  clear hv hcv
  have HAl := Lib.hid (nd_lt hB a)
  generalize hna : nd 65536 a = la at *
  clear hna
  obtain ⟨wh, hwh⟩ : ∃ wh, wh = n / 16 := ⟨_, rfl⟩
  obtain ⟨s, hs⟩ : ∃ s, s = n % 16 := ⟨_, rfl⟩
  have hs16 : s < 16 := by omega
  have q1 : (n : Int) / 16 = wh := by omega
  have q2 : (n : Int) % 16 = s := by omega
  have HNW : Hid (n = 16 * wh + s) := by show _ = _; omega
  have hwl : wh ≤ 500000 := by omega
  clear hwh hs
  have hpp : 0 < 2 ^ s := Nat.pow_pos (by decide)
  have hpl : 2 ^ s ≤ 65536 := Nat.le_trans (Nat.pow_le_pow_right (by decide) (show s ≤ 16 by omega)) (by decide)
  have HP := Lib.hid (fun w => power_any s w (by omega))
  obtain ⟨p, hpe⟩ : ∃ p, p = 2 ^ s := ⟨_, rfl⟩
  have HPE := Lib.hid hpe
  rw [← hpe] at HP hpp hpl
  clear hpe
  have hmk := made_int wh (by omega)
  go_enter Tryz.func34, Tryz.ntmps34
  go_wp2_with fail
  refine (HP.out _).mono ?_
  rintro e w' ⟨rfl, rfl⟩
  have HPD : Hid (∀ c d : Nat, c < p → d < 65536 → c + d * p < 8589934592) := by
    intro c d h1 h2
    have h3 : d * p ≤ 65535 * 65536 := Nat.mul_le_mul (by omega) hpl
    omega
  go_wp2
  go_loopg [5, 6, 8] la (fun m out c x wr => ∃ k X cc : Nat, Hid (k + m = la) ∧ x = .int .i64 k ∧ c = .int .i64 cc ∧ RShlRel a s wh w k X cc out wr)
  case atStart => exact ⟨0, 0, 0, by show _ = _; omega, rfl, rfl, by rw [← HPE.out]; exact hpp, by simp, by simp [Nat.mod_one], by simpa using own_zeros wh (by omega), (Below.refl _ _).alloc (Nat.le_refl _) _⟩
  case round =>
    obtain ⟨k, X, c, HK, rfl, rfl, hc1, hX, hsum, hown, hbel⟩ := hrel
    have hkl : k ≤ la := by have := HK.out; omega
    rw [← HPE.out] at hc1 hsum
    by_cases hlt : k < la
    · have hlt' : (k : Int) < la := by omega
      obtain ⟨gb, go, rfl, hca⟩ := HC.out k hlt
      have hca' : wr.cell? ⟨gb, go + k, none⟩ = some (.int .i64 (dg 65536 a k : Nat)) := by
        rw [hbel.cell (p := ⟨gb, go + k, none⟩) (World.block_lt_of_cell? _ _ hca)]; exact hca
      have hda := dg_lt (B := 65536) (by decide) a k
      have hq := HPD.out c _ hc1 hda
      obtain ⟨q, hqe⟩ : ∃ q, q = c + dg 65536 a k * p := ⟨_, rfl⟩
      have hX2 : X + 65536 ^ k * (q % 65536) < 65536 ^ (k + 1) := snoc_lt hX (Nat.mod_lt _ (by decide))
      have hsum2 : (X + 65536 ^ k * (q % 65536)) + 65536 ^ (k + 1) * (q / 65536) = a % 65536 ^ (k + 1) * p := by rw [hqe]; exact shl_round hsum
      have hc2 : q / 65536 < p := by rw [hqe]; exact shl_carry hc1 hda
      have HPS := Lib.hid (pad_wh (wh := wh) hX (show q % 65536 < 65536 from Nat.mod_lt _ (by decide)))
      have HE : Hid (wrap64 ((c : Int) + wrap64 ((dg 65536 a k : Nat) * (p : Int))) = (q : Int)) := by
        show _ = _
        have hq2 := hqe
        have hq3 := hq
        rw [show ((dg 65536 a k : Nat) : Int) * (p : Int) = ((dg 65536 a k * p : Nat) : Int) from by simp]
        generalize dg 65536 a k * p = y at hq2 hq3 ⊢
        rw [IntWalk.wrap64_in (y : Int) (by omega), IntWalk.wrap64_in _ (by omega)]
        omega
      rw [← hqe] at hq
      have HS2 := Lib.hid (And.intro hc2 (And.intro hX2 hsum2))
      have HB := Lib.hid hbel
      have hltw := hown.lt
      have HLT := Lib.hid hltw
      have hsz := hbel.size
      unfold Own at hown
      have HONE : Hid (∀ x : Int, ∀ u ∈ [Value.int .i64 x], u.oneCell' = true) := by intro x u hu; simp at hu; subst hu; rfl
      clear hca hbel hltw hX hsum hqe hc2 hX2 hsum2
      generalize dg 65536 a k = da at *
      go_wp2_with (at_builtin; go_must (refine wpList_append_own _ rfl _ _ 22 rfl w.heap.size 3 i0 (.int .i64 0) 1 8 Tryz.underlying22 hi hz0 hz1 hz2 rfl (by decide) _ _ _ rfl (hown.alloc _) ⟨wr.heap.size, 0, none⟩ 1 1 [_] rfl rfl (cell_one_new _ _ _) (HONE.out _) ?c3 ?c4 ?c5 ?_))
      case c3 => unfold maxLen; omega
      case c4 => omega
      case c5 => simp; omega
      intro v' w4 hown4 hgrow hnil
      have hq0 : (q : Int).tmod 65536 = ((q % 65536 : Nat) : Int) := by rw [Int.tmod_eq_emod_of_nonneg (by omega)]; omega
      have hq4 : (q : Int).tdiv 65536 = ((q / 65536 : Nat) : Int) := by rw [Int.tdiv_eq_ediv_of_nonneg (by omega)]; omega
      have HFIN : Hid (RShlRel a s wh w (k + 1) (X + 65536 ^ k * (q % 65536)) (q / 65536) v' w4) := by
        rw [HE.out, hq0] at hown4
        refine ⟨by rw [← HPE.out]; exact HS2.out.1, HS2.out.2.1, by rw [← HPE.out]; exact HS2.out.2.2, ?_, ?_⟩
        · unfold Own
          rw [← Nat.add_assoc, HPS.out, List.map_append]
          exact hown4
        · refine Below.grown (HB.out.alloc (by omega) _) hgrow (by simp; omega) ?_
          intro j hj
          exact (HLT.out _ hj).1
      have HQ4 := Lib.hid hq4
      clear hown4 hgrow hnil hown hq0 hq4
      go_wp2
      rw [HE.out, HQ4.out]
      go_roundg (la - (k + 1))
      case measure => have := HK.out; omega
      case rel => exact ⟨k + 1, _, q / 65536, by have := HK.out; show _ = _; omega, by go_num, by first | rfl | (rw [IntWalk.wrap64_in _ (by omega)]) | go_num, HFIN.out⟩
    · obtain rfl : k = la := by omega
      have hnl : ¬ ((k : Int) < k) := by omega
      rw [Nat.mod_eq_of_lt HAl.out] at hsum
      have hval : 65536 ^ wh * (X + 65536 ^ k * c) = a * 2 ^ n := by
        rw [hsum, HPE.out, pow_n HNW.out, Nat.mul_left_comm]
      have hxl : a * 2 ^ n < 65536 ^ (wh + k + 1) := by
        rw [← hval, Nat.add_assoc, Nat.pow_add 65536 wh]
        exact Nat.mul_lt_mul_of_pos_left (snoc_lt hX (by omega)) (Nat.pow_pos (by decide))
      have HPS := Lib.hid (pad_wh (wh := wh) (d := c) hX (by omega))
      rw [hval] at HPS
      have HT := Lib.hid (fun v' w4 (h : Own .i64 65536 3 w4 w.heap.size v' (wh + k + 1) (a * 2 ^ n)) => Trim_own _ _ _ _ _ h hxl (by omega))
      have HB := Lib.hid hbel
      have hltw := hown.lt
      have HLT := Lib.hid hltw
      have hsz := hbel.size
      have HONE : Hid (∀ x : Int, ∀ u ∈ [Value.int .i64 x], u.oneCell' = true) := by intro x u hu; simp at hu; subst hu; rfl
      unfold Own at hown
      clear hbel hltw hX hsum hval hxl hlt
      go_wp2_with (at_builtin; go_must (refine wpList_append_own _ rfl _ _ 22 rfl w.heap.size 3 i0 (.int .i64 0) 1 8 Tryz.underlying22 hi hz0 hz1 hz2 rfl (by decide) _ _ _ rfl (hown.alloc _) ⟨wr.heap.size, 0, none⟩ 1 1 [_] rfl rfl (cell_one_new _ _ _) (HONE.out _) ?d3 ?d4 ?d5 ?_))
      case d3 => unfold maxLen; omega
      case d4 => omega
      case d5 => first | omega | (simp; omega)
      intro v' w4 hown4 hgrow hnil
      have HT2 : Hid (Below w.heap.size w w4) := by
        refine Below.grown (HB.out.alloc (by omega) _) hgrow (by simp; omega) ?_
        intro j hj
        exact (HLT.out _ hj).1
      have HO4 : Hid (Own .i64 65536 3 w4 w.heap.size v' (wh + k + 1) (a * 2 ^ n)) := by
        show Own _ _ _ _ _ _ _ _
        unfold Own
        rw [HPS.out, List.map_append]
        exact hown4
      clear hown4 hgrow hnil hown
      go_wp2_with fail
      refine (HT.out _ _ HO4.out).mono ?_
      rintro e w5 ⟨r, rfl, hr, rfl⟩
      obtain ⟨ro, rc, rfl, -⟩ := hr.shape
      have HR := Lib.hid hr
      clear hr
      go_wp2
      go_ret
      exact ⟨_, rfl, HR.out, HT2.out⟩
end Go.Proofs.YtgjkhbognenajaaGreatDoor
namespace Go.Proofs.YtgjkhbognenajaaGreatDoor
open Go Go.RowKit Gu

theorem low_dg (a : Nat) : dg 65536 a 0 % 2 = a % 2 := by
  unfold dg; rw [Nat.pow_zero, Nat.div_one]; omega
theorem gcd_two {a b : Nat} (h : (Nat.gcd a b) % 2 = 1) (ha : a % 2 = 0) : Nat.gcd (a / 2) b = Nat.gcd a b := by
  have e : a = 2 * (a / 2) := by omega
  have hc : Nat.Coprime 2 b := by
    have h1 : Nat.gcd 2 b ∣ 2 := Nat.gcd_dvd_left _ _
    have h2 : Nat.gcd 2 b ∣ Nat.gcd a b := Nat.dvd_gcd (Nat.dvd_trans h1 ⟨a / 2, e⟩) (Nat.gcd_dvd_right _ _)
    have h3 : Nat.gcd 2 b ≤ 2 := Nat.le_of_dvd (by decide) h1
    have h4 : 0 < Nat.gcd 2 b := Nat.gcd_pos_of_pos_left _ (by decide)
    rcases (show Nat.gcd 2 b = 1 ∨ Nat.gcd 2 b = 2 by omega) with h5 | h5
    · exact h5
    · rw [h5] at h2
      obtain ⟨c, hc⟩ := h2
      omega
  rw [show Nat.gcd a b = Nat.gcd (2 * (a / 2)) b from by rw [← e]]
  exact (Nat.Coprime.gcd_mul_left_cancel _ hc).symm
theorem gcd_kk {kk G' G m : Nat} (h : 2 ^ kk * G' = G) (h0 : 0 < G') (hG : G < 65536 ^ m) : kk ≤ 16 * m := by
  have e : 65536 ^ m = 2 ^ (16 * m) := by rw [Nat.pow_mul]
  have h1 : 2 ^ kk * 1 ≤ 2 ^ kk * G' := Nat.mul_le_mul_left _ h0
  rcases Nat.lt_or_ge (16 * m) kk with h2 | h2
  · have h3 : 2 ^ (16 * m) ≤ 2 ^ kk := Nat.pow_le_pow_right (by decide) (Nat.le_of_lt h2)
    omega
  · exact h2
theorem gcd_sub' {a b : Nat} (h : b ≤ a) : Nat.gcd (a - b) b = Nat.gcd a b := Nat.gcd_sub_self_left h
theorem nd_halve {a m : Nat} (h : nd 65536 a ≤ m) : nd 65536 (a / 2) ≤ m := Nat.le_trans (nd_mono (by decide) (Nat.div_le_self _ _)) h
/-- what the loops of Gcd keep -/
def GR (m G : Nat) (w : World) (A B : Nat) (x y : Value) (wr : World) : Prop :=
  R wr x A ∧ R wr y B ∧ nd 65536 A ≤ m ∧ nd 65536 B ≤ m ∧ 0 < B ∧ Nat.gcd A B = G ∧ Below w.heap.size w wr
theorem GR.next {m G : Nat} {w : World} {A B : Nat} {x y : Value} {wr wr' : World} (h : GR m G w A B x y wr) (hb : Below wr.heap.size wr wr') : GR m G w A B x y wr' := by
  obtain ⟨h1, h2, h3, h4, h5, h6, h7⟩ := h
  exact ⟨h1.below hb, h2.below hb, h3, h4, h5, h6, h7.trans (hb.mono h7.size)⟩
theorem R.low {w : World} {v : Value} {n : Nat} (h : R w v n) (h0 : 0 < n) : ∃ b o c, v = .slice (some ⟨b, o, none⟩) (nd 65536 n) c ∧ w.cell? ⟨b, o, none⟩ = some (.int .i64 (dg 65536 n 0)) ∧ 0 < nd 65536 n := by
  have hn := nd_pos (B := 65536) (by decide) h0
  rcases h with ⟨h1, _⟩ | ⟨_, b, o, c, hv, hc⟩
  · omega
  · exact ⟨b, o, c, hv, hc 0 hn, hn⟩
end Go.Proofs.YtgjkhbognenajaaGreatDoor
namespace Go.Proofs.YtgjkhbognenajaaGreatDoor
open Go Go.RowKit Gu

/-- the slice lies in a block from base on, if it has a cell -/
def FR (base : Nat) (r : Value) (X : Nat) : Prop := ∀ bb o l c, r = .slice (some ⟨bb, o, none⟩) l c → 0 < X → base ≤ bb
theorem FR.mono {b b' : Nat} {r : Value} {X : Nat} (h : FR b' r X) (hb : b ≤ b') : FR b r X := fun bb o l c he h0 => Nat.le_trans hb (h bb o l c he h0)
theorem own_FR {k : IntKind} {B : Nat} {T : TypeId} {w : World} {base : Nat} {v : Value} {m x : Nat} (h : Own k B T w base v m x) (X : Nat) : FR base v X := by
  intro bb o l c he _
  rcases h.shape with ⟨rfl, _⟩ | ⟨g, cap, rfl, hb, _⟩
  · cases he
  · simp only [Value.slice.injEq, Option.some.injEq, Addr.mk.injEq, and_true] at he
    obtain ⟨⟨rfl, rfl⟩, _, _⟩ := he
    exact hb
theorem Trim_own_f (base k X : Nat) (v : Value) (w : World) (h : Own .i64 65536 3 w base v k X) (hX : X < 65536 ^ k) (hk : k ≤ 4611686018427387904) :
    Calls Tryz.prog 41 #[v] w fun e w' => ∃ r, e = .returned r ∧ R w' r X ∧ w = w' ∧ FR base r X := by
  rcases h.shape with ⟨rfl, rfl⟩ | ⟨g, cap, rfl, hb, _, hm, hc, hcell⟩
  · obtain rfl : X = 0 := by rw [Nat.pow_zero] at hX; omega
    exact (Trim_none w).mono fun e w' ⟨he, hw⟩ => ⟨_, he, IsN.zero _ _ _ _ _, hw, fun _ _ _ _ _ h0 => absurd h0 (Nat.lt_irrefl _)⟩
  · refine (Trim_any g k cap X w hcell hX hk hm).mono fun e w' ⟨he, hw⟩ => ⟨_, he, ?_, hw, ?_⟩
    · rw [← hw]
      rcases Nat.eq_zero_or_pos X with h0 | h0
      · subst h0; rw [nd_zero]; exact IsN.zero _ _ _ _ _
      · exact .inr ⟨h0, g, 0, cap, rfl, fun i hi => by rw [Nat.zero_add]; exact hcell i (Nat.lt_of_lt_of_le hi ((nd_le (by decide)).2 hX))⟩
    · intro bb o l c he _
      simp only [Value.slice.injEq, Option.some.injEq, Addr.mk.injEq, and_true] at he
      obtain ⟨⟨rfl, rfl⟩, _, _⟩ := he
      exact hb
/-- a store into another block leaves the number -/
theorem FR.setCell {r : Value} {X base g j : Nat} {w : World} {u : Value} (h : R w r X) (hf : FR base r X) (hg : g < base) : R (w.setCell ⟨g, j, none⟩ u) r X := by
  refine IsN.grown h (grownBy_setCell w g j u) (fun b o c l he h0 => ?_)
  have := hf b o l c
  have h1 := hf b o _ _ he h0
  omega
set_option maxHeartbeats 2000000 in
set_option maxRecDepth 100000 in
theorem RSub_f (v u : Value) (a b : Nat) (w : World) (hv : R w v a) (hu : R w u b) (ha : nd 65536 a ≤ 1048576) (hb : nd 65536 b ≤ 1048576) (hle : b ≤ a) :
    Calls Tryz.prog 39 #[v, u] w fun e w' => ∃ r, e = .returned r ∧ R w' r (a - b) ∧ Below w.heap.size w w' ∧ FR w.heap.size r (a - b) := by
  obtain ⟨i0, hi, hz0, hz1, hz2⟩ := info_parts Tryz.infoInt
  have hB : 2 ≤ 65536 := by decide
  obtain ⟨ao, ac, rfl, hcv⟩ := hv.shape
  obtain ⟨bo, bc, rfl, -⟩ := hu.shape
  have HU := Lib.hid hu
  have HC := Lib.hid hcv
  have HAB := Lib.hid hle
  clear hv hu hcv hle
  have HAl := Lib.hid (nd_lt hB a)
  have HNb : Hid (nd 65536 b ≤ 4611686018427387904) := by show _ ≤ _; omega
  generalize nd 65536 a = la at *
  obtain ⟨lb, hlb⟩ : ∃ lb, nd 65536 b = lb := ⟨_, rfl⟩
  rw [hlb] at hb HU ⊢
  clear hlb
  go_enter Tryz.func39, Tryz.ntmps39
  go_wp2
  go_loopg [5, 6, 7] la (fun m out c i wr => ∃ k X br : Nat, Hid (m + k = la) ∧ i = .int .i64 k ∧ c = .int .i64 br ∧ SbRel a b w k X br out wr)
  case atStart => exact ⟨0, 0, 0, rfl, rfl, rfl, by omega, by simp, by simp [Nat.mod_one], Own.nil _ _ _ _ _, Below.refl _ _⟩
  case round =>
    obtain ⟨k, X, br, HK, rfl, rfl, hrel⟩ := hrel
    have hkl : k ≤ la := by have := HK.out; omega
    obtain ⟨hbr, hX, hsum, hown, hbel⟩ := hrel
    by_cases hlt : k < la
    · have hlt' : (k : Int) < la := by omega
      have hB' := Lib.hid (fun q => Rat_any _ b k (wr.drewN q) (HU.out.below (below_drewN hbel q)) HNb.out)
      obtain ⟨gb, go, rfl, hca⟩ := HC.out k hlt
      have hca' : wr.cell? ⟨gb, go + k, none⟩ = some (.int .i64 (dg 65536 a k : Nat)) := by
        rw [hbel.cell (p := ⟨gb, go + k, none⟩) (World.block_lt_of_cell? _ _ hca)]; exact hca
      have hda := dg_lt (B := 65536) (by decide) a k
      have hdb := dg_lt (B := 65536) (by decide) b k
      obtain ⟨d, br', hd, hd1, hd2, hneg⟩ : ∃ d br' : Nat, d + dg 65536 b k + br = dg 65536 a k + 65536 * br' ∧ d < 65536 ∧ br' ≤ 1 ∧ ((br' = 1 ∧ (dg 65536 a k : Int) - (dg 65536 b k : Nat) - br < 0) ∨ (br' = 0 ∧ 0 ≤ (dg 65536 a k : Int) - (dg 65536 b k : Nat) - br)) := by
        by_cases h : dg 65536 b k + br ≤ dg 65536 a k
        · exact ⟨dg 65536 a k - dg 65536 b k - br, 0, by omega, by omega, by omega, .inr ⟨rfl, by omega⟩⟩
        · exact ⟨dg 65536 a k + 65536 - dg 65536 b k - br, 1, by omega, by omega, by omega, .inl ⟨rfl, by omega⟩⟩
      have HSR := Lib.hid (sub_round (B := 65536) hsum hd)
      have HPS := Lib.hid (pad_succ (by decide) hX hd1)
      have HLT2 := Lib.hid (snoc_lt hX hd1)
      have HB := Lib.hid hbel
      have hltw := hown.lt
      have HLT := Lib.hid hltw
      have hsz := hbel.size
      unfold Own at hown
      clear hbel hltw hsum hX hca
      generalize dg 65536 a k = da at *
      generalize dg 65536 b k = db at *
      rcases hneg with ⟨rfl, hneg⟩ | ⟨rfl, hneg⟩
      · go_wp2_with fail
        go_quiet ((go_at_call 42; exact Calls.quiet_of_same ((hB'.out _).mono fun _ _ ⟨h, h'⟩ => ⟨h, h'.symm⟩)))
        have hown' := ownsRow_below hown (below_drewN (Below.refl wr.heap.size wr) nq)
        have hsz2 : w.heap.size ≤ (wr.drewN nq).heap.size := by have := (below_drewN (Below.refl wr.heap.size wr) nq).size; omega
        have HB2 : Hid (Below w.heap.size w (wr.drewN nq)) := below_drewN HB.out nq
        have HLT3 := Lib.hid hown'.lt
        have HD : Hid (((d : Nat) : Int) = (da : Int) - db - br + 65536) := by show _ = _; omega
        generalize wr.drewN nq = wq at *
        go_wp2_with (at_builtin; refine wpList_append_own _ rfl _ _ 22 rfl w.heap.size 3 i0 (.int .i64 0) 1 8 Tryz.underlying22 hi hz0 hz1 hz2 rfl (by decide) _ _ _ rfl (hown'.alloc _) ⟨wq.heap.size, 0, none⟩ 1 1 [.int .i64 ((da : Int) - db - br + 65536)] rfl rfl ?c1 ?c2 ?c3 ?c4 ?c5 ?_)
        case c1 => exact cell_one_new _ _ _
        case c2 => intro u hu; simp at hu; subst hu; rfl
        case c3 => unfold maxLen; omega
        case c4 => omega
        case c5 => simp; omega
        intro v' w4 hown4 hgrow hnil
        have HFIN : Hid (SbRel a b w (k + 1) (X + 65536 ^ k * d) 1 v' w4) := by
          refine ⟨by omega, HLT2.out, HSR.out, ?_, ?_⟩
          · unfold Own
            rw [HPS.out, List.map_append]
            show w4.ownsRow _ _ _ _ _ (_ ++ [Value.int .i64 ((d : Nat) : Int)])
            rw [HD.out]
            exact hown4
          · refine Below.grown (HB2.out.alloc (by omega) _) hgrow (by simp; omega) ?_
            intro j hj
            exact (HLT3.out _ hj).1
        clear hown4 hgrow hnil
        go_wp2
        go_roundg (la - (k + 1))
        case measure => have := HK.out; omega
        case rel => exact ⟨k + 1, _, 1, by show _ = _; omega, by go_num, rfl, HFIN.out⟩
      · go_wp2_with fail
        go_quiet ((go_at_call 42; exact Calls.quiet_of_same ((hB'.out _).mono fun _ _ ⟨h, h'⟩ => ⟨h, h'.symm⟩)))
        have hown' := ownsRow_below hown (below_drewN (Below.refl wr.heap.size wr) nq)
        have hsz2 : w.heap.size ≤ (wr.drewN nq).heap.size := by have := (below_drewN (Below.refl wr.heap.size wr) nq).size; omega
        have HB2 : Hid (Below w.heap.size w (wr.drewN nq)) := below_drewN HB.out nq
        have HLT3 := Lib.hid hown'.lt
        have HD : Hid (((d : Nat) : Int) = (da : Int) - db - br) := by show _ = _; omega
        generalize wr.drewN nq = wq at *
        go_wp2_with (at_builtin; refine wpList_append_own _ rfl _ _ 22 rfl w.heap.size 3 i0 (.int .i64 0) 1 8 Tryz.underlying22 hi hz0 hz1 hz2 rfl (by decide) _ _ _ rfl (hown'.alloc _) ⟨wq.heap.size, 0, none⟩ 1 1 [.int .i64 ((da : Int) - db - br)] rfl rfl ?c1 ?c2 ?c3 ?c4 ?c5 ?_)
        case c1 => exact cell_one_new _ _ _
        case c2 => intro u hu; simp at hu; subst hu; rfl
        case c3 => unfold maxLen; omega
        case c4 => omega
        case c5 => simp; omega
        intro v' w4 hown4 hgrow hnil
        have HFIN : Hid (SbRel a b w (k + 1) (X + 65536 ^ k * d) 0 v' w4) := by
          refine ⟨by omega, HLT2.out, HSR.out, ?_, ?_⟩
          · unfold Own
            rw [HPS.out, List.map_append]
            show w4.ownsRow _ _ _ _ _ (_ ++ [Value.int .i64 ((d : Nat) : Int)])
            rw [HD.out]
            exact hown4
          · refine Below.grown (HB2.out.alloc (by omega) _) hgrow (by simp; omega) ?_
            intro j hj
            exact (HLT3.out _ hj).1
        clear hown4 hgrow hnil
        go_wp2
        go_roundg (la - (k + 1))
        case measure => have := HK.out; omega
        case rel => exact ⟨k + 1, _, 0, by show _ = _; omega, by go_num, rfl, HFIN.out⟩
    · obtain rfl : k = la := by omega
      have hb1 : b < 65536 ^ k := Nat.lt_of_le_of_lt HAB.out HAl.out
      rw [Nat.mod_eq_of_lt HAl.out, Nat.mod_eq_of_lt hb1] at hsum
      have hb0 : br = 0 := by
        rcases Nat.lt_or_ge br 1 with h | h
        · omega
        · have h1 : br = 1 := by omega
          subst h1
          have := HAB.out
          rw [Nat.mul_one] at hsum
          omega
      subst hb0
      have hXe : X = a - b := by rw [Nat.mul_zero] at hsum; omega
      subst hXe
      have HT := Lib.hid (Trim_own_f _ _ _ _ _ hown hX (by omega))
      have HB := Lib.hid hbel
      clear hown hbel hsum hX
      go_wp2_with fail
      refine HT.out.mono ?_
      rintro e w5 ⟨r, rfl, hr, rfl, hfrr⟩
      obtain ⟨ro, rc, rfl, -⟩ := hr.shape
      have HR := Lib.hid hr
      have HFR := Lib.hid hfrr
      clear hr hfrr
      go_wp2
      go_ret
      exact ⟨_, rfl, HR.out, HB.out, HFR.out⟩
set_option maxHeartbeats 2000000 in
set_option maxRecDepth 100000 in
theorem RAdd_f (v u : Value) (a b : Nat) (w : World) (hv : R w v a) (hu : R w u b) (ha : nd 65536 a ≤ 1048576) (hb : nd 65536 b ≤ 1048576) :
    Calls Tryz.prog 36 #[v, u] w fun e w' => ∃ r, e = .returned r ∧ R w' r (a + b) ∧ Below w.heap.size w w' ∧ FR w.heap.size r (a + b) := by
  obtain ⟨i0, hi, hz0, hz1, hz2⟩ := info_parts Tryz.infoInt
  have hB : 2 ≤ 65536 := by decide
  obtain ⟨ao, ac, rfl, -⟩ := hv.shape
  obtain ⟨bo, bc, rfl, -⟩ := hu.shape
  have HV := Lib.hid hv; have HU := Lib.hid hu
  clear hv hu
  have HAl := Lib.hid (nd_lt hB a); have HBl := Lib.hid (nd_lt hB b)
  have HNa : Hid (nd 65536 a ≤ 4611686018427387904) := by show _ ≤ _; omega
  have HNb : Hid (nd 65536 b ≤ 4611686018427387904) := by show _ ≤ _; omega
  obtain ⟨la, hla⟩ : ∃ la, nd 65536 a = la := ⟨_, rfl⟩
  obtain ⟨lb, hlb⟩ : ∃ lb, nd 65536 b = lb := ⟨_, rfl⟩
  have HLA := Lib.hid hla; have HLB := Lib.hid hlb
  rw [hla] at ha HV HAl ⊢
  rw [hlb] at hb HU HBl ⊢
  clear hla hlb
  obtain ⟨M, hM1, hM2, hM3⟩ : ∃ M, la ≤ M ∧ lb ≤ M ∧ (M = la ∨ M = lb) := ⟨max la lb, by omega, by omega, by omega⟩
  have HM3 := Lib.hid hM3
  have hM : M ≤ 1048576 := by omega
  clear hM3
  go_enter Tryz.func36, Tryz.ntmps36
  go_wp2
  go_loopg [5, 6, 7] (M + 1) (fun m out c i wr => ∃ k X cc : Nat, Hid (m + k = M + 1) ∧ i = .int .i64 k ∧ c = .int .i64 cc ∧ AddRel a b w k X cc out wr ∧ Hid (k ≤ M ∨ (65536 ^ M ≤ a + b ∧ cc = 0)))
  case atStart => exact ⟨0, 0, 0, rfl, rfl, rfl, ⟨by omega, by simp, by simp [Nat.mod_one], Own.nil _ _ _ _ _, Below.refl _ _⟩, .inl (Nat.zero_le _)⟩
  case round =>
    obtain ⟨k, X, c, HK, rfl, rfl, hrel, HKM⟩ := hrel
    have hc1 : c ≤ 1 := hrel.1
    have hk1 : k ≤ M + 1 := by have := HK.out; omega
    by_cases hcont : k < la ∨ k < lb ∨ 0 < c
    · have hkM : k ≤ M := by
        rcases HKM.out with h | ⟨_, h⟩
        · exact h
        · omega
      obtain ⟨-, hX, hsum, hown, hbel⟩ := hrel
      have hA := Lib.hid (Rat_any _ a k wr (HV.out.below hbel) HNa.out)
      have hB' := Lib.hid (Rat_any _ b k wr (HU.out.below hbel) HNb.out)
      have hda := dg_lt (B := 65536) (by decide) a k
      have hdb := dg_lt (B := 65536) (by decide) b k
      have hd : (c + dg 65536 a k + dg 65536 b k) % 65536 < 65536 := Nat.mod_lt _ (by decide)
      have HSR := Lib.hid (sum_round (B := 65536) hsum)
      have HPS := Lib.hid (pad_succ (by decide) hX hd)
      have HLT2 := Lib.hid (snoc_lt hX hd)
      have HKM2 : Hid (k + 1 ≤ M ∨ (65536 ^ M ≤ a + b ∧ (c + dg 65536 a k + dg 65536 b k) / 65536 = 0)) := by
        show _ ∨ _
        rcases Nat.lt_or_ge k M with h | h
        · exact .inl h
        · refine .inr ?_
          have hkM2 : k = M := by omega
          subst hkM2
          have h1 : a < 65536 ^ k := Nat.lt_of_lt_of_le HAl.out (Nat.pow_le_pow_right (by decide) hM1)
          have h2 : b < 65536 ^ k := Nat.lt_of_lt_of_le HBl.out (Nat.pow_le_pow_right (by decide) hM2)
          rw [Nat.mod_eq_of_lt h1, Nat.mod_eq_of_lt h2] at hsum
          have hcc : c = 1 := by omega
          subst hcc
          refine ⟨by omega, ?_⟩
          have h3 : dg 65536 a k = 0 := dg_high (by decide) h1 (Nat.le_refl _)
          have h4 : dg 65536 b k = 0 := dg_high (by decide) h2 (Nat.le_refl _)
          rw [h3, h4]
      have HB := Lib.hid hbel
      have hltw := hown.lt
      have HLT := Lib.hid hltw
      have hsz := hbel.size
      unfold Own at hown
      clear hbel hltw hsum hX
      generalize dg 65536 a k = da at *
      generalize dg 65536 b k = db at *
      have HE : Hid ((((c + da + db) % 65536 : Nat) : Int) = (c + (da + db) : Int) % 65536) := by show _ = _; omega
      have HE2 : Hid ((((c + da + db) / 65536 : Nat) : Int) = (c + (da + db) : Int) / 65536) := by show _ = _; omega
      have hcond : (k : Int) < la ∨ (¬ (k : Int) < la ∧ (k : Int) < lb) ∨ (¬ (k : Int) < la ∧ ¬ (k : Int) < lb ∧ (0 : Int) < c) := by omega
      clear hcont
      rcases hcond with hcond | ⟨hcond0, hcond⟩ | ⟨hcond0, hcond1, hcond⟩
      all_goals
        go_wp2_with fail
        refine hA.out.mono ?_
        rintro e w' ⟨rfl, rfl⟩
        go_wp2_with fail
        refine hB'.out.mono ?_
        rintro e w' ⟨rfl, rfl⟩
        go_wp2_with (at_builtin; refine wpList_append_own _ rfl _ _ 22 rfl w.heap.size 3 i0 (.int .i64 0) 1 8 Tryz.underlying22 hi hz0 hz1 hz2 rfl (by decide) _ _ _ rfl (hown.alloc _) ⟨wr.heap.size, 0, none⟩ 1 1 [.int .i64 ((c + (da + db) : Int) % 65536)] rfl rfl ?c1 ?c2 ?c3 ?c4 ?c5 ?_)
        case c1 => exact cell_one_new _ _ _
        case c2 => intro u hu; simp at hu; subst hu; rfl
        case c3 => unfold maxLen; omega
        case c4 => omega
        case c5 => simp; omega
        intro v' w4 hown4 hgrow hnil
        have HFIN : Hid (AddRel a b w (k + 1) (X + 65536 ^ k * ((c + da + db) % 65536)) ((c + da + db) / 65536) v' w4) := by
          refine ⟨by omega, HLT2.out, HSR.out, ?_, ?_⟩
          · unfold Own
            rw [HPS.out, List.map_append]
            show w4.ownsRow _ _ _ _ _ (_ ++ [Value.int .i64 (((c + da + db) % 65536 : Nat) : Int)])
            rw [HE.out]
            exact hown4
          · refine Below.grown (HB.out.alloc (by omega) _) hgrow (by simp; omega) ?_
            intro j hj
            exact (HLT.out _ hj).1
        clear hown4 hgrow hnil
        go_wp2
        go_roundg (M + 1 - (k + 1))
        case measure => have := HK.out; omega
        case rel => exact ⟨k + 1, _, _, by show _ = _; omega, by go_num, congrArg _ HE2.out.symm, HFIN.out, HKM2.out⟩
    · have hk : la ≤ k ∧ lb ≤ k ∧ c = 0 := by omega
      obtain ⟨hk2, hk3, hc0⟩ := hk
      subst hc0
      obtain ⟨-, hX, hsum, hown, hbel⟩ := hrel
      have h1 : a < 65536 ^ k := Nat.lt_of_lt_of_le HAl.out (Nat.pow_le_pow_right (by decide) hk2)
      have h2 : b < 65536 ^ k := Nat.lt_of_lt_of_le HBl.out (Nat.pow_le_pow_right (by decide) hk3)
      rw [Nat.mod_eq_of_lt h1, Nat.mod_eq_of_lt h2, Nat.mul_zero, Nat.add_zero] at hsum
      subst hsum
      have hnd : nd 65536 (a + b) = k := by
        refine add_len HLA.out HLB.out hX hk2 hk3 ?_
        rcases HKM.out with h | ⟨h, _⟩
        · have := HM3.out; omega
        · rcases Nat.lt_or_ge k (M + 1) with h' | h'
          · have := HM3.out; omega
          · have : k = M + 1 := by omega
            subst this
            exact .inr (.inr ⟨by omega, h⟩)
      have HIS := Lib.hid (hown.isN (by decide) hnd)
      have HFR := Lib.hid (own_FR hown (a + b))
      have HB := Lib.hid hbel
      have hn1 : ¬ (k : Int) < la := by omega
      have hn2 : ¬ (k : Int) < lb := by omega
      clear hX hown hbel hcont
      go_wp2
      go_ret
      exact ⟨_, rfl, HIS.out, HB.out, HFR.out⟩
set_option maxHeartbeats 2000000 in
set_option maxRecDepth 100000 in
theorem RShl_f (v : Value) (a n : Nat) (w : World) (hv : R w v a) (ha : nd 65536 a ≤ 500000) (hn : n ≤ 8000000) :
    Calls Tryz.prog 34 #[v, .int .i64 n] w fun e w' => ∃ r, e = .returned r ∧ R w' r (a * 2 ^ n) ∧ Below w.heap.size w w' ∧ FR w.heap.size r (a * 2 ^ n) := by
  obtain ⟨i0, hi, hz0, hz1, hz2⟩ := info_parts Tryz.infoInt
  have hB : 2 ≤ 65536 := by decide
  obtain ⟨ao, ac, rfl, hcv⟩ := hv.shape
  have HC := Lib.hid hcv
  clear hv hcv
  have HAl := Lib.hid (nd_lt hB a)
  generalize hna : nd 65536 a = la at *
  clear hna
  obtain ⟨wh, hwh⟩ : ∃ wh, wh = n / 16 := ⟨_, rfl⟩
  obtain ⟨s, hs⟩ : ∃ s, s = n % 16 := ⟨_, rfl⟩
  have hs16 : s < 16 := by omega
  have q1 : (n : Int) / 16 = wh := by omega
  have q2 : (n : Int) % 16 = s := by omega
  have HNW : Hid (n = 16 * wh + s) := by show _ = _; omega
  have hwl : wh ≤ 500000 := by omega
  clear hwh hs
  have hpp : 0 < 2 ^ s := Nat.pow_pos (by decide)
  have hpl : 2 ^ s ≤ 65536 := Nat.le_trans (Nat.pow_le_pow_right (by decide) (show s ≤ 16 by omega)) (by decide)
  have HP := Lib.hid (fun w => power_any s w (by omega))
  obtain ⟨p, hpe⟩ : ∃ p, p = 2 ^ s := ⟨_, rfl⟩
  have HPE := Lib.hid hpe
  rw [← hpe] at HP hpp hpl
  clear hpe
  have hmk := made_int wh (by omega)
  go_enter Tryz.func34, Tryz.ntmps34
  go_wp2_with fail
  refine (HP.out _).mono ?_
  rintro e w' ⟨rfl, rfl⟩
  have HPD : Hid (∀ c d : Nat, c < p → d < 65536 → c + d * p < 8589934592) := by
    intro c d h1 h2
    have h3 : d * p ≤ 65535 * 65536 := Nat.mul_le_mul (by omega) hpl
    omega
  go_wp2
  go_loopg [5, 6, 8] la (fun m out c x wr => ∃ k X cc : Nat, Hid (k + m = la) ∧ x = .int .i64 k ∧ c = .int .i64 cc ∧ RShlRel a s wh w k X cc out wr)
  case atStart => exact ⟨0, 0, 0, by show _ = _; omega, rfl, rfl, by rw [← HPE.out]; exact hpp, by simp, by simp [Nat.mod_one], by simpa using own_zeros wh (by omega), (Below.refl _ _).alloc (Nat.le_refl _) _⟩
  case round =>
    obtain ⟨k, X, c, HK, rfl, rfl, hc1, hX, hsum, hown, hbel⟩ := hrel
    have hkl : k ≤ la := by have := HK.out; omega
    rw [← HPE.out] at hc1 hsum
    by_cases hlt : k < la
    · have hlt' : (k : Int) < la := by omega
      obtain ⟨gb, go, rfl, hca⟩ := HC.out k hlt
      have hca' : wr.cell? ⟨gb, go + k, none⟩ = some (.int .i64 (dg 65536 a k : Nat)) := by
        rw [hbel.cell (p := ⟨gb, go + k, none⟩) (World.block_lt_of_cell? _ _ hca)]; exact hca
      have hda := dg_lt (B := 65536) (by decide) a k
      have hq := HPD.out c _ hc1 hda
      obtain ⟨q, hqe⟩ : ∃ q, q = c + dg 65536 a k * p := ⟨_, rfl⟩
      have hX2 : X + 65536 ^ k * (q % 65536) < 65536 ^ (k + 1) := snoc_lt hX (Nat.mod_lt _ (by decide))
      have hsum2 : (X + 65536 ^ k * (q % 65536)) + 65536 ^ (k + 1) * (q / 65536) = a % 65536 ^ (k + 1) * p := by rw [hqe]; exact shl_round hsum
      have hc2 : q / 65536 < p := by rw [hqe]; exact shl_carry hc1 hda
      have HPS := Lib.hid (pad_wh (wh := wh) hX (show q % 65536 < 65536 from Nat.mod_lt _ (by decide)))
      have HE : Hid (wrap64 ((c : Int) + wrap64 ((dg 65536 a k : Nat) * (p : Int))) = (q : Int)) := by
        show _ = _
        have hq2 := hqe
        have hq3 := hq
        rw [show ((dg 65536 a k : Nat) : Int) * (p : Int) = ((dg 65536 a k * p : Nat) : Int) from by simp]
        generalize dg 65536 a k * p = y at hq2 hq3 ⊢
        rw [IntWalk.wrap64_in (y : Int) (by omega), IntWalk.wrap64_in _ (by omega)]
        omega
      rw [← hqe] at hq
      have HS2 := Lib.hid (And.intro hc2 (And.intro hX2 hsum2))
      have HB := Lib.hid hbel
      have hltw := hown.lt
      have HLT := Lib.hid hltw
      have hsz := hbel.size
      unfold Own at hown
      have HONE : Hid (∀ x : Int, ∀ u ∈ [Value.int .i64 x], u.oneCell' = true) := by intro x u hu; simp at hu; subst hu; rfl
      clear hca hbel hltw hX hsum hqe hc2 hX2 hsum2
      generalize dg 65536 a k = da at *
      go_wp2_with (at_builtin; go_must (refine wpList_append_own _ rfl _ _ 22 rfl w.heap.size 3 i0 (.int .i64 0) 1 8 Tryz.underlying22 hi hz0 hz1 hz2 rfl (by decide) _ _ _ rfl (hown.alloc _) ⟨wr.heap.size, 0, none⟩ 1 1 [_] rfl rfl (cell_one_new _ _ _) (HONE.out _) ?c3 ?c4 ?c5 ?_))
      case c3 => unfold maxLen; omega
      case c4 => omega
      case c5 => simp; omega
      intro v' w4 hown4 hgrow hnil
      have hq0 : (q : Int).tmod 65536 = ((q % 65536 : Nat) : Int) := by rw [Int.tmod_eq_emod_of_nonneg (by omega)]; omega
      have hq4 : (q : Int).tdiv 65536 = ((q / 65536 : Nat) : Int) := by rw [Int.tdiv_eq_ediv_of_nonneg (by omega)]; omega
      have HFIN : Hid (RShlRel a s wh w (k + 1) (X + 65536 ^ k * (q % 65536)) (q / 65536) v' w4) := by
        rw [HE.out, hq0] at hown4
        refine ⟨by rw [← HPE.out]; exact HS2.out.1, HS2.out.2.1, by rw [← HPE.out]; exact HS2.out.2.2, ?_, ?_⟩
        · unfold Own
          rw [← Nat.add_assoc, HPS.out, List.map_append]
          exact hown4
        · refine Below.grown (HB.out.alloc (by omega) _) hgrow (by simp; omega) ?_
          intro j hj
          exact (HLT.out _ hj).1
      have HQ4 := Lib.hid hq4
      clear hown4 hgrow hnil hown hq0 hq4
      go_wp2
      rw [HE.out, HQ4.out]
      go_roundg (la - (k + 1))
      case measure => have := HK.out; omega
      case rel => exact ⟨k + 1, _, q / 65536, by have := HK.out; show _ = _; omega, by go_num, by first | rfl | (rw [IntWalk.wrap64_in _ (by omega)]) | go_num, HFIN.out⟩
    · obtain rfl : k = la := by omega
      have hnl : ¬ ((k : Int) < k) := by omega
      rw [Nat.mod_eq_of_lt HAl.out] at hsum
      have hval : 65536 ^ wh * (X + 65536 ^ k * c) = a * 2 ^ n := by
        rw [hsum, HPE.out, pow_n HNW.out, Nat.mul_left_comm]
      have hxl : a * 2 ^ n < 65536 ^ (wh + k + 1) := by
        rw [← hval, Nat.add_assoc, Nat.pow_add 65536 wh]
        exact Nat.mul_lt_mul_of_pos_left (snoc_lt hX (by omega)) (Nat.pow_pos (by decide))
      have HPS := Lib.hid (pad_wh (wh := wh) (d := c) hX (by omega))
      rw [hval] at HPS
      have HT := Lib.hid (fun v' w4 (h : Own .i64 65536 3 w4 w.heap.size v' (wh + k + 1) (a * 2 ^ n)) => Trim_own_f _ _ _ _ _ h hxl (by omega))
      have HB := Lib.hid hbel
      have hltw := hown.lt
      have HLT := Lib.hid hltw
      have hsz := hbel.size
      have HONE : Hid (∀ x : Int, ∀ u ∈ [Value.int .i64 x], u.oneCell' = true) := by intro x u hu; simp at hu; subst hu; rfl
      unfold Own at hown
      clear hbel hltw hX hsum hval hxl hlt
      go_wp2_with (at_builtin; go_must (refine wpList_append_own _ rfl _ _ 22 rfl w.heap.size 3 i0 (.int .i64 0) 1 8 Tryz.underlying22 hi hz0 hz1 hz2 rfl (by decide) _ _ _ rfl (hown.alloc _) ⟨wr.heap.size, 0, none⟩ 1 1 [_] rfl rfl (cell_one_new _ _ _) (HONE.out _) ?d3 ?d4 ?d5 ?_))
      case d3 => unfold maxLen; omega
      case d4 => omega
      case d5 => first | omega | (simp; omega)
      intro v' w4 hown4 hgrow hnil
      have HT2 : Hid (Below w.heap.size w w4) := by
        refine Below.grown (HB.out.alloc (by omega) _) hgrow (by simp; omega) ?_
        intro j hj
        exact (HLT.out _ hj).1
      have HO4 : Hid (Own .i64 65536 3 w4 w.heap.size v' (wh + k + 1) (a * 2 ^ n)) := by
        show Own _ _ _ _ _ _ _ _
        unfold Own
        rw [HPS.out, List.map_append]
        exact hown4
      clear hown4 hgrow hnil hown
      go_wp2_with fail
      refine (HT.out _ _ HO4.out).mono ?_
      rintro e w5 ⟨r, rfl, hr, rfl, hfrr⟩
      obtain ⟨ro, rc, rfl, -⟩ := hr.shape
      have HR := Lib.hid hr
      have HFR := Lib.hid hfrr
      clear hr hfrr
      go_wp2
      go_ret
      exact ⟨_, rfl, HR.out, HT2.out, HFR.out⟩
end Go.Proofs.YtgjkhbognenajaaGreatDoor
namespace Go.Proofs.YtgjkhbognenajaaGreatDoor
open Go Go.RowKit Gu

theorem bit_room {t j s : Nat} (hs : s < 16) : dg 65536 (2 ^ (16 * j + s + 1) * t) j + 2 ^ s < 65536 := by
  have e1 : (2 : Nat) ^ (16 * j + s + 1) * t = 65536 ^ j * (2 ^ (s + 1) * t) := by
    rw [Nat.add_assoc, Nat.pow_add, Nat.pow_mul, Nat.mul_assoc]
  have e2 : dg 65536 (2 ^ (16 * j + s + 1) * t) j = 2 ^ (s + 1) * (t % 2 ^ (15 - s)) := by
    unfold dg
    rw [e1, Nat.mul_div_cancel_left _ (Nat.pow_pos (by decide)), show (65536 : Nat) = 2 ^ (s + 1) * 2 ^ (15 - s) from by rw [← Nat.pow_add, show s + 1 + (15 - s) = 16 from by omega], Nat.mul_mod_mul_left]
  rw [e2]
  have h1 : t % 2 ^ (15 - s) < 2 ^ (15 - s) := Nat.mod_lt _ (Nat.pow_pos (by decide))
  have h2 : 2 ^ (s + 1) * (t % 2 ^ (15 - s)) + 2 ^ (s + 1) ≤ 2 ^ (s + 1) * 2 ^ (15 - s) := by rw [← Nat.mul_succ]; exact Nat.mul_le_mul_left _ h1
  rw [← Nat.pow_add, show s + 1 + (15 - s) = 16 from by omega] at h2
  have h3 : 2 ^ (s + 1) = 2 * 2 ^ s := by rw [Nat.pow_succ, Nat.mul_comm]
  have h4 : 0 < 2 ^ s := Nat.pow_pos (by decide)
  omega
theorem nd_twice {z b : Nat} (h : z < 2 * b) : nd 65536 z ≤ nd 65536 b + 1 := by
  have h1 := nd_lt (by decide : 2 ≤ 65536) b
  apply (nd_le (by decide)).2
  rw [Nat.pow_succ]
  omega
/-- one bit of a long division -/
theorem bit_div {a b k : Nat} (hb : 0 < b) :
    (b ≤ (a / 2 ^ (k + 1)) % b * 2 + dg 2 a k → (a / 2 ^ k) % b = (a / 2 ^ (k + 1)) % b * 2 + dg 2 a k - b ∧ 2 ^ k * ((a / 2 ^ k) / b) = 2 ^ (k + 1) * ((a / 2 ^ (k + 1)) / b) + 2 ^ k) ∧
    ((a / 2 ^ (k + 1)) % b * 2 + dg 2 a k < b → (a / 2 ^ k) % b = (a / 2 ^ (k + 1)) % b * 2 + dg 2 a k ∧ 2 ^ k * ((a / 2 ^ k) / b) = 2 ^ (k + 1) * ((a / 2 ^ (k + 1)) / b)) := by
  have e1 := div_succ 2 a k
  have hd := dg_lt (B := 2) (by decide) a k
  have e2 := Nat.div_add_mod (a / 2 ^ (k + 1)) b
  have hm := Nat.mod_lt (a / 2 ^ (k + 1)) hb
  have ep : 2 ^ (k + 1) * ((a / 2 ^ (k + 1)) / b) = 2 ^ k * (2 * ((a / 2 ^ (k + 1)) / b)) := by rw [Nat.pow_succ, Nat.mul_assoc]
  rw [ep]
  generalize a / 2 ^ (k + 1) = y at *
  generalize dg 2 a k = c at *
  have e3 : a / 2 ^ k = (y % b * 2 + c) + b * (2 * (y / b)) := by
    have : b * (2 * (y / b)) = 2 * (b * (y / b)) := Nat.mul_left_comm _ _ _
    omega
  refine ⟨fun h => ?_, fun h => ?_⟩
  · have e4 : a / 2 ^ k = (y % b * 2 + c - b) + b * (2 * (y / b) + 1) := by rw [e3, Nat.mul_add]; omega
    rw [e4, Nat.add_mul_mod_self_left, Nat.add_mul_div_left _ _ hb, Nat.mod_eq_of_lt (by omega), Nat.div_eq_of_lt (by omega), Nat.zero_add, Nat.mul_add, Nat.mul_one]
    exact ⟨rfl, rfl⟩
  · rw [e3, Nat.add_mul_mod_self_left, Nat.add_mul_div_left _ _ hb, Nat.mod_eq_of_lt h, Nat.div_eq_of_lt h, Nat.zero_add]
    exact ⟨rfl, rfl⟩
/-- what the loop of DivMod keeps -/
def DMRel (a b la : Nat) (w : World) (k : Nat) (rv : Value) (wr : World) : Prop :=
  R wr rv ((a / 2 ^ k) % b) ∧ Buf .i64 65536 3 wr w.heap.size la (2 ^ k * ((a / 2 ^ k) / b)) ∧ Below w.heap.size w wr ∧ FR (w.heap.size + 1) rv ((a / 2 ^ k) % b)
set_option maxHeartbeats 4000000 in
set_option maxRecDepth 100000 in
theorem RDivMod_any (v u : Value) (a b : Nat) (w : World) (hv : R w v a) (hu : R w u b) (hb0 : 0 < b) (ha : nd 65536 a ≤ 400000) (hb : nd 65536 b ≤ 400000) :
    Calls Tryz.prog 15 #[v, u] w fun e w' => ∃ q r, e = .returned (.tuple #[q, r]) ∧ R w' q (a / b) ∧ R w' r (a % b) ∧ Below w.heap.size w w' := by
  have hB : 2 ≤ 65536 := by decide
  have HV := Lib.hid hv
  have HU := Lib.hid hu
  obtain ⟨ao, ac, rfl, -⟩ := hv.shape
  obtain ⟨bo, bc, rfl, -⟩ := hu.shape
  clear hv hu
  have HAl := Lib.hid (nd_lt hB a)
  have h2l : nd 2 a ≤ 16 * nd 65536 a := fit_len (Nat.le_refl _)
  have HA2 := Lib.hid (nd_lt (by decide : 2 ≤ 2) a)
  obtain ⟨la, hla⟩ : ∃ la, la = nd 65536 a := ⟨_, rfl⟩
  obtain ⟨l2, hl2⟩ : ∃ l2, l2 = nd 2 a := ⟨_, rfl⟩
  rw [← hla] at HV HAl h2l ha ⊢
  rw [← hl2] at h2l HA2
  have HLA := Lib.hid hla
  have HL2 := Lib.hid hl2
  have HBL : Hid (∀ W, R W (.slice ao la ac) a → Calls Tryz.prog 33 #[.slice ao la ac] W fun e w' => e = .returned (.int .i64 l2) ∧ W = w') := fun W h => by rw [HL2.out]; exact RBitLen_any _ a W h (by rw [← HLA.out]; omega)
  clear hla hl2
  have hmk := made_int la (by omega)
  go_enter Tryz.func15, Tryz.ntmps15
  go_wp2_with fail
  have hw1 : Below w.heap.size w (w.alloc (.cells (madeCells #[.int .i64 0] la) 3)) := (Below.refl _ _).alloc (Nat.le_refl _) _
  refine (HBL.out _ (HV.out.below hw1)).mono ?_
  rintro e w' ⟨rfl, rfl⟩
  have HST : Hid (DMRel a b la w l2 (.slice none 0 0) (w.alloc (.cells (madeCells #[.int .i64 0] la) 3))) := by
    have h1 : a / 2 ^ l2 = 0 := Nat.div_eq_of_lt HA2.out
    refine ⟨by rw [h1, Nat.zero_mod]; exact IsN.zero _ _ _ _ _, by rw [h1, Nat.zero_div, Nat.mul_zero]; exact Buf.made _ _ _ _ _, hw1, fun _ _ _ _ he => by cases he⟩
  clear hw1
  have HL1 := Lib.hid h2l
  go_wp2
  go_loopg [7, 8] l2 (fun m rv x wr => x = .int .i64 ((m : Int) - 1) ∧ Hid (m ≤ l2) ∧ DMRel a b la w m rv wr)
  case atStart => exact ⟨rfl, Nat.le_refl _, HST.out⟩
  case round =>
    obtain ⟨rfl, HML, hrel⟩ := hrel
    have HR := Lib.hid hrel
    obtain ⟨r0, rc, rfl, -⟩ := hrel.1.shape
    clear hrel
    cases gk with
    | zero =>
      rw [show ((0 : Nat) : Int) - 1 = -1 from rfl]
      have hq := HR.out.2.1
      have hr := HR.out.1
      rw [Nat.pow_zero, Nat.div_one, Nat.one_mul] at hq
      rw [Nat.pow_zero, Nat.div_one] at hr
      have hql : a / b < 65536 ^ la := Nat.lt_of_le_of_lt (Nat.div_le_self _ _) HAl.out
      have HT := Lib.hid (Trim_buf w.heap.size la la (a / b) wr hq hql (by omega) (Nat.le_refl _))
      have HQ := Lib.hid (Gu.Buf.isN hq hB hql la)
      have HRR := Lib.hid hr
      have HBE := Lib.hid HR.out.2.2.1
      clear hq hr hql HR
      obtain ⟨x, hx⟩ : ∃ x, x = a / 2 ^ 0 % b := ⟨_, rfl⟩
      rw [← hx]
      have HX := Lib.hid hx
      clear hx
      go_wp2_with fail
      refine HT.out.mono ?_
      rintro e w' ⟨rfl, rfl⟩
      go_wp2
      go_ret2
      exact ⟨_, _, rfl, HQ.out, by rw [HX.out, Nat.pow_zero, Nat.div_one]; exact HRR.out, HBE.out⟩
    | succ k =>
      rw [show ((k + 1 : Nat) : Int) - 1 = k from by omega]
      have hkl : k < 16 * la := by have := HML.out; have := HL1.out; omega
      have hbd := bit_div (a := a) (k := k) hb0
      have hmb := Nat.mod_lt (a / 2 ^ (k + 1)) hb0
      have hc2 := dg_lt (B := 2) (by decide) a k
      have hroom := bit_room (t := (a / 2 ^ (k + 1)) / b) (j := k / 16) (s := k % 16) (by omega)
      rw [show 16 * (k / 16) + k % 16 + 1 = k + 1 from by omega] at hroom
      have HSH := Lib.hid (fun W v (h : R W v (a / 2 ^ (k + 1) % b)) => RShl_f v _ 1 W h (by have := nd_mono (B := 65536) (by decide) (Nat.le_of_lt hmb); omega) (by omega))
      rw [Nat.pow_one] at HSH
      have HBI := Lib.hid (fun W (h : R W (.slice ao la ac) a) => RBit_any _ a (k : Int) W h (by omega) (by rw [← HLA.out]; omega))
      rw [show bitN a (k : Int) = dg 2 a k from by unfold bitN; rw [if_neg (by omega), Int.toNat_natCast]] at HBI
      obtain ⟨x, hx⟩ : ∃ x, x = a / 2 ^ (k + 1) % b := ⟨_, rfl⟩
      obtain ⟨Q, hQ⟩ : ∃ Q, Q = 2 ^ (k + 1) * (a / 2 ^ (k + 1) / b) := ⟨_, rfl⟩
      have hrel := HR.out
      unfold DMRel at hrel
      rw [← hx, ← hQ] at hrel
      rw [← hx] at HSH hbd hmb ⊢
      rw [← hQ] at hbd hroom
      obtain ⟨c, hc⟩ : ∃ c, c = dg 2 a k := ⟨_, rfl⟩
      rw [← hc] at hbd hc2 HBI
      have HBD := Lib.hid hbd
      have HRE := Lib.hid hrel
      have HRO := Lib.hid hroom
      clear hbd hrel hroom hx hQ hc HR HST
      go_wp2_with fail
      refine (HSH.out _ _ HRE.out.1).mono ?_
      rintro e w2 ⟨sv, rfl, hs, hb2, hf2⟩
      obtain ⟨s0, sc, rfl, -⟩ := hs.shape
      have HS2 := Lib.hid hs
      have HB2 := Lib.hid hb2
      have HF2 := Lib.hid (hf2.mono (show w.heap.size + 1 ≤ wr.heap.size from Gu.Buf.lt HRE.out.2.1))
      have HVA := Lib.hid ((HV.out.below HRE.out.2.2.1).below hb2)
      clear hs hb2 hf2
      go_wp2_with fail
      refine (HBI.out _ HVA.out).mono ?_
      rintro e w3 ⟨rfl, hb3⟩
      have HS3 := Lib.hid (HS2.out.below hb3)
      have HB3 := Lib.hid (HB2.out.trans (hb3.mono HB2.out.size))
      clear hb3 HS2 HB2 HVA
      have hx16 := nd_twice (show x * 2 < 2 * b by omega)
      rcases (show c = 0 ∨ c = 1 by omega) with rfl | rfl
      · obtain ⟨z, hz⟩ : ∃ z, z = x * 2 := ⟨_, rfl⟩
        obtain ⟨wz, rfl⟩ : ∃ wz, wz = w3 := ⟨_, rfl⟩
        rw [← hz] at HS3 ⊢
        rw [Nat.add_zero, ← hz] at HBD
        have HZ := HS3
        have HBZ := HB3
        have HFZ : Hid (FR (w.heap.size + 1) (.slice s0 (nd 65536 z) sc) z) := by rw [hz]; rw [hz] at HS3; exact HF2.out
        have HZE := Lib.hid hz
        have hzx : z < 2 * b := by omega
        clear hz
        have hzb : z < 2 * b := by omega
        have hz16 := nd_twice hzb
        have HUC := Lib.hid (HU.out.below (HRE.out.2.2.1.trans (HBZ.out.mono HRE.out.2.2.1.size)))
        have HCM := Lib.hid (RCmp_any _ _ z b wz HZ.out HUC.out (by omega) (by omega))
        by_cases hge : b ≤ z
        · have hcm : 0 ≤ cmpN z b := by unfold cmpN; rw [if_neg (by omega)]; split <;> omega
          have hds := HBD.out.1 hge
          have HDS := Lib.hid hds
          have HSU := Lib.hid (fun q => RSub_f _ _ z b (wz.drewN q) (IsN.drewN HZ.out q) (IsN.drewN HUC.out q) (by omega) (by omega) hge)
          have HQB := Lib.hid (Gu.Buf.below HRE.out.2.1 HBZ.out (Gu.Buf.lt HRE.out.2.1))
          have HBW := Lib.hid (HRE.out.2.2.1.trans (HBZ.out.mono HRE.out.2.2.1.size))
          clear hds hge hzb
          generalize cmpN z b = cm at *
          go_wp2_with fail
          refine HCM.out.mono ?_
          rintro e w' ⟨rfl, q, rfl⟩
          go_wp2_with fail
          refine (HSU.out q).mono ?_
          rintro e w6 ⟨nv, rfl, hn, hb6, hf6⟩
          obtain ⟨n0, nc, rfl, -⟩ := hn.shape
          have hq6 := Gu.Buf.below (Gu.Buf.below HQB.out (below_drewN (Below.refl _ _) q) (Gu.Buf.lt HQB.out)) hb6 (Gu.Buf.lt HQB.out)
          have HBF := Lib.hid ((HBW.out.trans ((below_drewN (Below.refl _ _) q).mono HBW.out.size)).trans (hb6.mono HBW.out.size))
          have hjl : k / 16 < la := by omega
          have hcell := Gu.Buf.cell hq6 (i := k / 16) hjl
          have hfr := Gu.Buf.frozen hq6 (k / 16)
          have HQ6 := Lib.hid hq6
          have HF6 := Lib.hid (hf6.mono (show w.heap.size + 1 ≤ (wz.drewN q).heap.size from Gu.Buf.lt HQB.out))
          have HN := Lib.hid hn
          have HAT : Hid (∀ W, Buf .i64 65536 3 W w.heap.size la Q → Buf .i64 65536 3 (W.setCell ⟨w.heap.size, k / 16, none⟩ (.int .i64 (dg 65536 Q (k / 16) + 2 ^ (k % 16) : Nat))) w.heap.size la (Q + 2 ^ k)) := by
            intro W hW
            have h1 := Buf.at hW (by decide) (k / 16) HRO.out
            have h2 := at_val (B := 65536) (V := Q) (j := k / 16) (d := dg 65536 Q (k / 16) + 2 ^ (k % 16))
            have h4 : 65536 ^ (k / 16) * (dg 65536 Q (k / 16) + 2 ^ (k % 16)) = 65536 ^ (k / 16) * dg 65536 Q (k / 16) + 65536 ^ (k / 16) * 2 ^ (k % 16) := Nat.mul_add _ _ _
            have h3 : 65536 ^ (k / 16) * 2 ^ (k % 16) = 2 ^ k := by
              rw [show (65536 : Nat) = 2 ^ 16 from by decide, ← Nat.pow_mul, ← Nat.pow_add]
              congr 1; omega
            rw [h3] at h4
            rw [show Q + 2 ^ k = Q % 65536 ^ (k / 16) + 65536 ^ (k / 16) * (dg 65536 Q (k / 16) + 2 ^ (k % 16) + 65536 * (Q / 65536 ^ (k / 16 + 1))) from by omega]
            exact h1
          have hpw : 2 ^ (k % 16) ≤ 65536 := Nat.le_trans (Nat.pow_le_pow_right (by decide) (show k % 16 ≤ 16 by omega)) (by decide)
          have HP := Lib.hid (fun w => power_any (k % 16) w (by omega))
          have hdq := dg_lt (B := 65536) (by decide) Q (k / 16)
          obtain ⟨j, hj⟩ : ∃ j, j = k / 16 := ⟨_, rfl⟩
          obtain ⟨s, hs⟩ : ∃ s, s = k % 16 := ⟨_, rfl⟩
          have q1 : (k : Int) / 16 = j := by omega
          have q2 : (k : Int) % 16 = s := by omega
          have ht1 : (k : Int).tdiv 16 = j := by rw [Int.tdiv_eq_ediv_of_nonneg (by omega)]; omega
          have ht2 : (k : Int).tmod 16 = s := by rw [Int.tmod_eq_emod_of_nonneg (by omega)]; omega
          have ht3 : IntKind.i64.wrap ((k : Int) / 16) = j := by rw [q1]; exact IntWalk.i64_in _ (by omega)
          have ht4 : IntKind.i64.wrap ((k : Int).tdiv 16) = j := by rw [ht1]; exact IntWalk.i64_in _ (by omega)
          have ht5 : IntKind.i64.wrap (j : Int) = j := IntWalk.i64_in _ (by omega)
          rw [← hj] at hcell hfr HAT hdq hjl
          rw [← hs] at HAT hpw HP
          clear hj hs hq6 hn hb6 hf6 HRO
          generalize dg 65536 Q j = dq at *
          obtain ⟨pw, hpe⟩ : ∃ pw, pw = 2 ^ s := ⟨_, rfl⟩
          rw [← hpe] at HAT hpw HP
          clear hpe
          have hjl2 : (j : Int) < la := by omega
          have hj0 : (0 : Int) ≤ j := by omega
          go_wp2_with fail
          have hwq : ((dq : Int) + pw) = ((dq + pw : Nat) : Int) := by omega
          have HNEW : Hid (DMRel a b la w k (.slice n0 (nd 65536 (z - b)) nc) (w6.setCell ⟨w.heap.size, j, none⟩ (.int .i64 ((dq : Int) + pw))).drew) := by
            rw [hwq]
            refine ⟨?_, ?_, ?_, ?_⟩
            · rw [HDS.out.1]
              exact (FR.setCell HN.out HF6.out (Nat.lt_succ_self _)).below (Below.refl _ _).drew
            · rw [HDS.out.2]
              exact HAT.out w6 HQ6.out
            · exact (HBF.out.setCell (Nat.le_refl _) _).drew
            · rw [HDS.out.1]; exact HF6.out
          clear hwq
          go_region_with (go_at_call 40; refine (HP.out _).mono ?_; rintro e w' ⟨rfl, rfl⟩)
          all_goals go_wp2
          all_goals go_roundg k
          all_goals first | exact Nat.lt_succ_self _ | exact ⟨by go_num, Nat.le_of_succ_le HML.out, HNEW.out⟩
        · have hcm : cmpN z b = -1 := cmpN_lt (by omega)
          have hds := HBD.out.2 (by omega)
          have HNEW : Hid (∀ q, DMRel a b la w k (.slice s0 (nd 65536 z) sc) (wz.drewN q)) := fun q => by
            refine ⟨?_, ?_, ?_, ?_⟩
            · rw [hds.1]; exact IsN.drewN HZ.out q
            · rw [hds.2]; exact Gu.Buf.below (Gu.Buf.below HRE.out.2.1 HBZ.out (Gu.Buf.lt HRE.out.2.1)) (below_drewN (Below.refl _ _) q) (Gu.Buf.lt (Gu.Buf.below HRE.out.2.1 HBZ.out (Gu.Buf.lt HRE.out.2.1)))
            · exact below_drewN (HRE.out.2.2.1.trans (HBZ.out.mono HRE.out.2.2.1.size)) q
            · rw [hds.1]; exact HFZ.out
          rw [hcm] at HCM
          clear hcm hds hge hzb
          go_wp2_with fail
          refine HCM.out.mono ?_
          rintro e w' ⟨rfl, q, rfl⟩
          have HN2 := HNEW.out q
          go_wp2
          go_roundg k
          case measure => exact Nat.lt_succ_self _
          case rel => exact ⟨by go_num, Nat.le_of_succ_le HML.out, HN2⟩
      · have HOF := Lib.hid (Of_any 1 w3 (by decide))
        have HAD := Lib.hid (fun W o (h1 : R W (.slice s0 (nd 65536 (x * 2)) sc) (x * 2)) (h2 : R W o 1) => RAdd_f _ o (x * 2) 1 W h1 h2 (by omega) (by have := (nd_le (B := 65536) (n := 1) (k := 1) (by decide)).2 (by decide); omega))
        go_wp2_with fail
        refine HOF.out.mono ?_
        rintro e w4 ⟨ov, rfl, ho, hb4⟩
        obtain ⟨o0, oc, rfl, -⟩ := ho.shape
        have HA4 := Lib.hid (HAD.out _ _ (HS3.out.below hb4) ho)
        have HB4 := Lib.hid (HB3.out.trans (hb4.mono HB3.out.size))
        clear ho hb4 HOF HAD
        go_wp2_with fail
        refine HA4.out.mono ?_
        rintro e w5 ⟨zv, rfl, hzv, hb5, hf5⟩
        obtain ⟨z0, zc, rfl, -⟩ := hzv.shape
        have HBZ := Lib.hid (HB4.out.trans (hb5.mono HB4.out.size))
        have hlt4 : w.heap.size + 1 ≤ w4.heap.size := Nat.le_trans (show w.heap.size + 1 ≤ wr.heap.size from Gu.Buf.lt HRE.out.2.1) HB4.out.size
        obtain ⟨z, hz⟩ : ∃ z, z = x * 2 + 1 := ⟨_, rfl⟩
        obtain ⟨wz, rfl⟩ : ∃ wz, wz = w5 := ⟨_, rfl⟩
        rw [← hz] at hzv hf5 ⊢
        rw [← hz] at HBD
        have HZ := Lib.hid hzv
        have HFZ : Hid (FR (w.heap.size + 1) (.slice z0 (nd 65536 z) zc) z) := hf5.mono hlt4
        have HZE := Lib.hid hz
        have hzx : z < 2 * b := by omega
        clear hz hzv hf5 hb5 HA4
        have hzb : z < 2 * b := by omega
        have hz16 := nd_twice hzb
        have HUC := Lib.hid (HU.out.below (HRE.out.2.2.1.trans (HBZ.out.mono HRE.out.2.2.1.size)))
        have HCM := Lib.hid (RCmp_any _ _ z b wz HZ.out HUC.out (by omega) (by omega))
        by_cases hge : b ≤ z
        · have hcm : 0 ≤ cmpN z b := by unfold cmpN; rw [if_neg (by omega)]; split <;> omega
          have hds := HBD.out.1 hge
          have HDS := Lib.hid hds
          have HSU := Lib.hid (fun q => RSub_f _ _ z b (wz.drewN q) (IsN.drewN HZ.out q) (IsN.drewN HUC.out q) (by omega) (by omega) hge)
          have HQB := Lib.hid (Gu.Buf.below HRE.out.2.1 HBZ.out (Gu.Buf.lt HRE.out.2.1))
          have HBW := Lib.hid (HRE.out.2.2.1.trans (HBZ.out.mono HRE.out.2.2.1.size))
          clear hds hge hzb
          generalize cmpN z b = cm at *
          go_wp2_with fail
          refine HCM.out.mono ?_
          rintro e w' ⟨rfl, q, rfl⟩
          go_wp2_with fail
          refine (HSU.out q).mono ?_
          rintro e w6 ⟨nv, rfl, hn, hb6, hf6⟩
          obtain ⟨n0, nc, rfl, -⟩ := hn.shape
          have hq6 := Gu.Buf.below (Gu.Buf.below HQB.out (below_drewN (Below.refl _ _) q) (Gu.Buf.lt HQB.out)) hb6 (Gu.Buf.lt HQB.out)
          have HBF := Lib.hid ((HBW.out.trans ((below_drewN (Below.refl _ _) q).mono HBW.out.size)).trans (hb6.mono HBW.out.size))
          have hjl : k / 16 < la := by omega
          have hcell := Gu.Buf.cell hq6 (i := k / 16) hjl
          have hfr := Gu.Buf.frozen hq6 (k / 16)
          have HQ6 := Lib.hid hq6
          have HF6 := Lib.hid (hf6.mono (show w.heap.size + 1 ≤ (wz.drewN q).heap.size from Gu.Buf.lt HQB.out))
          have HN := Lib.hid hn
          have HAT : Hid (∀ W, Buf .i64 65536 3 W w.heap.size la Q → Buf .i64 65536 3 (W.setCell ⟨w.heap.size, k / 16, none⟩ (.int .i64 (dg 65536 Q (k / 16) + 2 ^ (k % 16) : Nat))) w.heap.size la (Q + 2 ^ k)) := by
            intro W hW
            have h1 := Buf.at hW (by decide) (k / 16) HRO.out
            have h2 := at_val (B := 65536) (V := Q) (j := k / 16) (d := dg 65536 Q (k / 16) + 2 ^ (k % 16))
            have h4 : 65536 ^ (k / 16) * (dg 65536 Q (k / 16) + 2 ^ (k % 16)) = 65536 ^ (k / 16) * dg 65536 Q (k / 16) + 65536 ^ (k / 16) * 2 ^ (k % 16) := Nat.mul_add _ _ _
            have h3 : 65536 ^ (k / 16) * 2 ^ (k % 16) = 2 ^ k := by
              rw [show (65536 : Nat) = 2 ^ 16 from by decide, ← Nat.pow_mul, ← Nat.pow_add]
              congr 1; omega
            rw [h3] at h4
            rw [show Q + 2 ^ k = Q % 65536 ^ (k / 16) + 65536 ^ (k / 16) * (dg 65536 Q (k / 16) + 2 ^ (k % 16) + 65536 * (Q / 65536 ^ (k / 16 + 1))) from by omega]
            exact h1
          have hpw : 2 ^ (k % 16) ≤ 65536 := Nat.le_trans (Nat.pow_le_pow_right (by decide) (show k % 16 ≤ 16 by omega)) (by decide)
          have HP := Lib.hid (fun w => power_any (k % 16) w (by omega))
          have hdq := dg_lt (B := 65536) (by decide) Q (k / 16)
          obtain ⟨j, hj⟩ : ∃ j, j = k / 16 := ⟨_, rfl⟩
          obtain ⟨s, hs⟩ : ∃ s, s = k % 16 := ⟨_, rfl⟩
          have q1 : (k : Int) / 16 = j := by omega
          have q2 : (k : Int) % 16 = s := by omega
          have ht1 : (k : Int).tdiv 16 = j := by rw [Int.tdiv_eq_ediv_of_nonneg (by omega)]; omega
          have ht2 : (k : Int).tmod 16 = s := by rw [Int.tmod_eq_emod_of_nonneg (by omega)]; omega
          have ht3 : IntKind.i64.wrap ((k : Int) / 16) = j := by rw [q1]; exact IntWalk.i64_in _ (by omega)
          have ht4 : IntKind.i64.wrap ((k : Int).tdiv 16) = j := by rw [ht1]; exact IntWalk.i64_in _ (by omega)
          have ht5 : IntKind.i64.wrap (j : Int) = j := IntWalk.i64_in _ (by omega)
          rw [← hj] at hcell hfr HAT hdq hjl
          rw [← hs] at HAT hpw HP
          clear hj hs hq6 hn hb6 hf6 HRO
          generalize dg 65536 Q j = dq at *
          obtain ⟨pw, hpe⟩ : ∃ pw, pw = 2 ^ s := ⟨_, rfl⟩
          rw [← hpe] at HAT hpw HP
          clear hpe
          have hjl2 : (j : Int) < la := by omega
          have hj0 : (0 : Int) ≤ j := by omega
          go_wp2_with fail
          have hwq : ((dq : Int) + pw) = ((dq + pw : Nat) : Int) := by omega
          have HNEW : Hid (DMRel a b la w k (.slice n0 (nd 65536 (z - b)) nc) (w6.setCell ⟨w.heap.size, j, none⟩ (.int .i64 ((dq : Int) + pw))).drew) := by
            rw [hwq]
            refine ⟨?_, ?_, ?_, ?_⟩
            · rw [HDS.out.1]
              exact (FR.setCell HN.out HF6.out (Nat.lt_succ_self _)).below (Below.refl _ _).drew
            · rw [HDS.out.2]
              exact HAT.out w6 HQ6.out
            · exact (HBF.out.setCell (Nat.le_refl _) _).drew
            · rw [HDS.out.1]; exact HF6.out
          clear hwq
          go_region_with (go_at_call 40; refine (HP.out _).mono ?_; rintro e w' ⟨rfl, rfl⟩)
          all_goals go_wp2
          all_goals go_roundg k
          all_goals first | exact Nat.lt_succ_self _ | exact ⟨by go_num, Nat.le_of_succ_le HML.out, HNEW.out⟩
        · have hcm : cmpN z b = -1 := cmpN_lt (by omega)
          have hds := HBD.out.2 (by omega)
          have HNEW : Hid (∀ q, DMRel a b la w k (.slice z0 (nd 65536 z) zc) (wz.drewN q)) := fun q => by
            refine ⟨?_, ?_, ?_, ?_⟩
            · rw [hds.1]; exact IsN.drewN HZ.out q
            · rw [hds.2]; exact Gu.Buf.below (Gu.Buf.below HRE.out.2.1 HBZ.out (Gu.Buf.lt HRE.out.2.1)) (below_drewN (Below.refl _ _) q) (Gu.Buf.lt (Gu.Buf.below HRE.out.2.1 HBZ.out (Gu.Buf.lt HRE.out.2.1)))
            · exact below_drewN (HRE.out.2.2.1.trans (HBZ.out.mono HRE.out.2.2.1.size)) q
            · rw [hds.1]; exact HFZ.out
          rw [hcm] at HCM
          clear hcm hds hge hzb
          go_wp2_with fail
          refine HCM.out.mono ?_
          rintro e w' ⟨rfl, q, rfl⟩
          have HN2 := HNEW.out q
          go_wp2
          go_roundg k
          case measure => exact Nat.lt_succ_self _
          case rel => exact ⟨by go_num, Nat.le_of_succ_le HML.out, HN2⟩
end Go.Proofs.YtgjkhbognenajaaGreatDoor
