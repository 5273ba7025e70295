/- The contracts of the document's own functions Shl and Shr. -/
import Derived.Test.YtgidmlffjelpnaaDoorSe
import Derived.Deep.RegionHeld3
import Derived.Deep.RegionLaw
import Derived.Deep.DeepMust
import Derived.Deep.DeepFit
namespace Go.Proofs.YtgidmlffjelpnaaDoor
open Go Go.RowKit Gu

/-- an append to a row of the call's own, as one step of a region that draws its order -/
theorem step_append_own {P : Program} {ops : Array Oper} {o : Oper} {a : Act} {w : World} {K : Act → World → Prop} {Q : Exit → Act → World → Prop} {E : Prop} (hg : o.guard = none) (s x : Operand) (t : TypeId)
    (ho : o.op = Op.call { callee := Callee.builtin Builtin.append, args := #[s, x], argTypes := #[t, t] })
    (base : Nat) (e : TypeId) (i : TypeInfo) (z : Value) (size bytes : Nat) (ht : P.underlying t = some (.slice e)) (hi : P.info? e = some i) (hz : i.zero = some z)
    (hsize : i.size = size) (hby : i.bytes = bytes) (hzs : z.cells.size = size) (hsz : 0 < size)
    (v : Value) (n : Nat) (xs : List Value) (hs : a.eval s = v) (hown : w.ownsRow base e size v n xs)
    (ad : Addr) (m c : Nat) (news : List Value) (hx : a.eval x = .slice (some ad) m c) (hl : news.length = m * size) (hnews : ∀ j u, news[j]? = some u → w.cell? (ad.add j) = some u) (h1 : ∀ u ∈ news, u.oneCell' = true)
    (h63 : n + m ≤ maxLen) (hbytes : (n + m) * bytes ≤ 140737488355328) (hbase : base ≤ w.heap.size)
    (hK : ∀ v' w', w'.ownsRow base e size v' (n + m) (xs ++ news) → w.grownBy w' v.ownBlock → (v' = .slice none 0 0 ↔ v = .slice none 0 0 ∧ m = 0) → K (a.put o.dst v') w') :
    if Region.wanted o (yielded ops a.tmps) = true then Oper.wp P o a w K Q else E := by
  have hw : Region.wanted o (yielded ops a.tmps) = true := by simp [Region.wanted, hg]
  rw [if_pos hw]
  exact wp_append_own w s x t ho base e i z size bytes ht hi hz hsize hby hzs hsz v n xs hs hown ad m c news hx hl hnews h1 h63 hbytes hbase hK
theorem shr_word {B p t da db : Nat} (hB : B = p * t) (hp : 0 < p) (hda : da < B) : ((da + B * db) / p) % B = da / p + db % p * t := by
  subst hB
  have ht : 0 < t := by
    rcases Nat.eq_zero_or_pos t with h | h
    · subst h; omega
    · exact h
  have e1 : (da + p * t * db) / p = da / p + t * db := by
    rw [Nat.mul_assoc, Nat.add_mul_div_left _ _ hp]
  have e2 : t * db = (db % p) * t + p * t * (db / p) := by
    have h := Nat.div_add_mod db p
    have h2 : t * (p * (db / p) + db % p) = t * db := by rw [h]
    rw [Nat.mul_add, ← Nat.mul_assoc, Nat.mul_comm t p, Nat.mul_comm t (db % p)] at h2
    omega
  rw [e1, e2, ← Nat.add_assoc, Nat.add_mul_mod_self_left]
  apply Nat.mod_eq_of_lt
  have h3 : da / p < t := by rw [Nat.div_lt_iff_lt_mul hp, Nat.mul_comm]; exact hda
  have h4 : db % p * t + t ≤ p * t := by rw [← Nat.succ_mul]; exact Nat.mul_le_mul_right _ (Nat.mod_lt _ hp)
  omega
theorem pow_dvd16 {s : Nat} (h : s ≤ 16) : 65536 = 2 ^ s * 2 ^ (16 - s) := by
  rw [← Nat.pow_add, show s + (16 - s) = 16 from by omega]
theorem pow_n {n wh s : Nat} (h : n = 16 * wh + s) : 2 ^ n = 65536 ^ wh * 2 ^ s := by
  rw [h, Nat.pow_add, Nat.pow_mul]
/-- a digit of a number divided by a power of two, as the document makes it -/
theorem shr_dg {a n wh s k : Nat} (h : n = 16 * wh + s) (hs : s < 16) : dg 65536 (a / 2 ^ n) k = dg 65536 a (wh + k) / 2 ^ s + dg 65536 a (wh + k + 1) % 2 ^ s * 2 ^ (16 - s) := by
  rw [pow_n h, shr_digit (by decide) ⟨_, pow_dvd16 (by omega)⟩, Nat.add_comm k wh, shr_word (pow_dvd16 (by omega)) (Nat.pow_pos (by decide)) (dg_lt (by decide) _ _)]
/-- what the loop of Shr keeps -/
def RShrRel (a n : Nat) (w : World) (k : Nat) (v : Value) (wr : World) : Prop :=
  Own .i64 65536 3 wr w.heap.size v k (a / 2 ^ n % 65536 ^ k) ∧ Below w.heap.size w wr
set_option maxHeartbeats 2000000 in
set_option maxRecDepth 100000 in
theorem RShr_any (v : Value) (a n : Nat) (w : World) (hv : R w v a) (ha : nd 65536 a ≤ 1048576) (hn : n ≤ 9223372036854775807) :
    Calls Tryd.prog 63 #[v, .int .i64 n] w fun e w' => ∃ r, e = .returned r ∧ R w' r (a / 2 ^ n) ∧ Below w.heap.size w w' := by
  obtain ⟨i0, hi, hz0, hz1, hz2⟩ := info_parts Tryd.infoInt
  have hB : 2 ≤ 65536 := by decide
  obtain ⟨ao, ac, rfl, hcv⟩ := hv.shape
  have HV := Lib.hid hv
  have HC := Lib.hid hcv
  clear hv hcv
  have HAl := Lib.hid (nd_lt hB a)
  generalize hna : nd 65536 a = la at *
  have HNa : Hid (nd 65536 a ≤ 4611686018427387904) := by show _ ≤ _; omega
  clear hna
  obtain ⟨wh, hwh⟩ : ∃ wh, wh = n / 16 := ⟨_, rfl⟩
  obtain ⟨s, hs⟩ : ∃ s, s = n % 16 := ⟨_, rfl⟩
  have hs16 : s < 16 := by omega
  have q1 : (n : Int) / 16 = wh := by omega
  have q2 : (n : Int) % 16 = s := by omega
  have HNW : Hid (n = 16 * wh + s) := by show _ = _; omega
  have hwl : wh ≤ 576460752303423487 := by omega
  clear hwh hs
  have hpp : 0 < 2 ^ s := Nat.pow_pos (by decide)
  have hpt : 0 < 2 ^ (16 - s) := Nat.pow_pos (by decide)
  have HPT := Lib.hid (pow_dvd16 (show s ≤ 16 by omega))
  have hpl : 2 ^ s ≤ 65536 := Nat.le_trans (Nat.pow_le_pow_right (by decide) (show s ≤ 16 by omega)) (by decide)
  have htl : 2 ^ (16 - s) ≤ 65536 := Nat.le_trans (Nat.pow_le_pow_right (by decide) (show 16 - s ≤ 16 by omega)) (by decide)
  have HP := Lib.hid (fun w => power_any s w (by omega))
  have HDG := Lib.hid (fun k => shr_dg (a := a) (k := k) HNW.out hs16)
  generalize hpe : 2 ^ s = p at *
  generalize hte : 2 ^ (16 - s) = t at *
  clear hpe hte
  have ht : (65536 : Int) / p = t := by
    have : 65536 / p = t := by rw [HPT.out, Nat.mul_div_cancel_left _ hpp]
    rw [show (65536 : Int) / p = ((65536 / p : Nat) : Int) from by simp, this]
  have HTT := Lib.hid ht
  clear ht
  go_enter Tryd.func63, Tryd.ntmps63
  go_wp2_with fail
  refine (HP.out _).mono ?_
  rintro e w' ⟨rfl, rfl⟩
  go_wp2
  go_loopg [5, 7] (la - wh) (fun m out x wr => ∃ k, Hid (wh + k + m = max la wh) ∧ x = .int .i64 ((wh + k : Nat) : Int) ∧ RShrRel a n w k out wr)
  case atStart => exact ⟨0, by show _ = _; omega, rfl, by simpa [RShrRel, Nat.mod_one] using ⟨Own.nil _ _ _ _ _, Below.refl _ _⟩⟩
  case round =>
    obtain ⟨k, HK, rfl, hown, hbel⟩ := hrel
    by_cases hlt : wh + k < la
    · have h1 : ((wh + k : Nat) : Int) < la := by omega
      obtain ⟨gb, go, rfl, hca⟩ := HC.out (wh + k) hlt
      have hgb0 : gb < w.heap.size := World.block_lt_of_cell? _ _ hca
      have hkb : k ≤ 1048576 := by omega
      have hca' : wr.cell? ⟨gb, go + (wh + k), none⟩ = some (.int .i64 (dg 65536 a (wh + k) : Nat)) := by
        rw [hbel.cell (p := ⟨gb, go + (wh + k), none⟩) (World.block_lt_of_cell? _ _ hca)]; exact hca
      have HA := Lib.hid (fun q => Rat_any _ a (wh + k + 1) (wr.drewN q) (HV.out.below (below_drewN hbel q)) HNa.out)
      have hd := HDG.out k
      have hda := dg_lt (B := 65536) (by decide) a (wh + k)
      have hdb := dg_lt (B := 65536) (by decide) a (wh + k + 1)
      have hdx := dg_lt (B := 65536) (by decide) (a / 2 ^ n) k
      have HPS : Hid (pad 65536 (k + 1) (a / 2 ^ n % 65536 ^ (k + 1)) = pad 65536 k (a / 2 ^ n % 65536 ^ k) ++ [dg 65536 (a / 2 ^ n) k]) := by
        show _ = _
        rw [mod_succ]
        exact pad_succ (by decide) (Nat.mod_lt _ (Nat.pow_pos (by decide))) hdx
      have HB := Lib.hid hbel
      have hltw := hown.lt
      have HLT := Lib.hid hltw
      have hsz := hbel.size
      unfold Own at hown
      clear hca hbel hltw
      generalize dg 65536 (a / 2 ^ n) k = dx at *
      have HDX := Lib.hid hd
      clear hd
      obtain ⟨j, hj⟩ : ∃ j, j = wh + k := ⟨_, rfl⟩
      rw [← hj] at h1 hca' HA hda hdb HDX hlt ⊢
      have HJ := Lib.hid hj
      clear hj
      generalize dg 65536 a j = da at *
      generalize dg 65536 a (j + 1) = db at *
      have hp0 : ¬ (p : Int) = 0 := by omega
      have hp1 : ¬ p = 0 := by omega
      have hdp : da / p ≤ da := Nat.div_le_self _ _
      have hmp : db % p < p := Nat.mod_lt _ hpp
      have hmul : db % p * t ≤ 65535 * 65536 := Nat.mul_le_mul (by omega) htl
      have HX : Hid (IntKind.i64.wrap (IntKind.i64.wrap ((da : Int) / p) + IntKind.i64.wrap (((db : Int).tmod p) * (IntKind.i64.wrap (Int.tdiv 65536 (p : Int))))) = (dx : Int)) := by
        show _ = _
        have hdx' := HDX.out
        rw [Int.tdiv_eq_ediv_of_nonneg (by omega), HTT.out, IntWalk.i64_in (t : Int) (by omega), Int.tmod_eq_emod_of_nonneg (by omega), show (da : Int) / p = ((da / p : Nat) : Int) from by simp, show (db : Int) % p = ((db % p : Nat) : Int) from by simp,
          show ((db % p : Nat) : Int) * (t : Int) = ((db % p * t : Nat) : Int) from by simp]
        generalize da / p = y1 at *
        generalize db % p * t = y2 at *
        rw [IntWalk.i64_in (y1 : Int) (by omega), IntWalk.i64_in (y2 : Int) (by omega), IntWalk.i64_in _ (by omega)]
        omega
      clear hdp hmp hmul
      have HONE : Hid (∀ x : Int, ∀ u ∈ [Value.int .i64 x], u.oneCell' = true) := by intro x u hu; simp at hu; subst hu; rfl
      have HML : Hid (k + 1 ≤ maxLen) := by show _ ≤ _; unfold maxLen; omega
      have HBY : Hid ((k + 1) * 8 ≤ 140737488355328) := by show _ ≤ _; omega
      have HBS : Hid (∀ o, w.heap.size ≤ (wr.drew.alloc o).heap.size) := fun o => Nat.le_trans hsz (by rw [World.size_alloc]; exact Nat.le_succ _)
      have hwj : IntKind.i64.wrap ((j : Int) + 1) = (j : Int) + 1 := IntWalk.i64_in _ (by omega)
      have hlw : (j : Int) < la := by omega
      have hlw2 : (0 : Int) ≤ (j : Int) := by omega
      have hca2 : wr.drew.cell? ⟨gb, go + (j), none⟩ = some (.int .i64 (da : Nat)) := hca'
      have HA2 : Hid (Calls Tryd.prog 47 #[.slice (some ⟨gb, go, none⟩) la ac, .int .i64 ((j : Int) + 1)] wr.drew fun e w' => e = .returned (.int .i64 (db : Nat)) ∧ wr.drew = w') := HA.out 1
      clear HA
      have hgb : gb < wr.heap.size := World.block_lt_of_cell? _ _ hca'
      have HAL : Hid (∀ o, (wr.drew.alloc o).cell? ⟨gb, go + (j), none⟩ = some (.int .i64 (da : Nat))) := fun o => (((Below.refl wr.drew.heap.size wr.drew).alloc (Nat.le_refl _) o).cell (p := ⟨gb, go + (j), none⟩) hgb).trans hca'
      go_wp2
      go_region_held3 (fun W : World => W.cell? ⟨gb, go + (j), none⟩ = some (.int .i64 (da : Nat))) (first | assumption | exact HAL.out _) (first
        | (go_at_call 47; go_must (go_fit HA2.out); rintro e w' ⟨rfl, rfl⟩)
        | (refine step_append_own rfl (.tmp 19) (.tmp 36) 30 rfl w.heap.size 3 i0 (.int .i64 0) 1 8 Tryd.underlying30 hi hz0 hz1 hz2 rfl (by decide) _ _ _ (by rfl) (hown.drew.alloc _) ⟨wr.heap.size, 0, none⟩ 1 1 [_] rfl rfl (cell_one_new _ _ _) (HONE.out _) HML.out HBY.out (HBS.out _) ?_; intro v' w4 hown4 hgrow hnil; have hca4 : w4.cell? ⟨gb, go + j, none⟩ = some (.int .i64 (da : Nat)) := hgrow.cell (HAL.out _) (fun e => Nat.not_lt_of_le (HLT.out _ e.symm).1 hgb0)) | fail)
      have HFIN : Hid (RShrRel a n w (k + 1) v' w4) := by
        refine ⟨?_, ?_⟩
        · unfold Own
          rw [HPS.out, List.map_append]
          rw [HX.out] at hown4
          exact hown4
        · refine Below.grown (HB.out.drew.alloc hsz _) hgrow (by rw [World.size_alloc]; exact Nat.le_succ_of_le hsz) ?_
          intro j hj
          exact (HLT.out _ hj).1
      clear hown4 hgrow hnil hown hca4 HX
      go_wp2
      go_roundg (la - wh - (k + 1))
      case measure => have h1 := HK.out; have h2 := HJ.out; have h3 : max la wh = la := Nat.max_eq_left (by omega); rw [h3] at h1; omega
      case rel => exact ⟨k + 1, by have h1 := HK.out; have h2 := HJ.out; have h3 : max la wh = la := Nat.max_eq_left (by omega); rw [h3] at h1; show _ = max la wh; rw [h3]; omega, by rw [HJ.out]; go_num, HFIN.out⟩
    · have hnl : ¬ ((wh + k : Nat) : Int) < la := by omega
      have hxl : a / 2 ^ n < 65536 ^ k := by
        rw [pow_n HNW.out, ← Nat.div_div_eq_div_mul]
        refine Nat.lt_of_le_of_lt (Nat.div_le_self _ _) ?_
        rw [Nat.div_lt_iff_lt_mul (Nat.pow_pos (by decide)), ← Nat.pow_add]
        exact Nat.lt_of_lt_of_le HAl.out (Nat.pow_le_pow_right (by decide) (by omega))
      rw [Nat.mod_eq_of_lt hxl] at hown
      have hkk : k ≤ 4611686018427387904 := by
        have h1 := HK.out
        rcases Nat.le_total la wh with h | h
        · rw [Nat.max_eq_right h] at h1; omega
        · rw [Nat.max_eq_left h] at h1; omega
      have HT := Lib.hid (Trim_own _ _ _ _ _ hown hxl hkk)
      have HB := Lib.hid hbel
      clear hown hbel hxl hlt
      go_wp2_with fail
      refine HT.out.mono ?_
      rintro e w5 ⟨r, rfl, hr, rfl⟩
      obtain ⟨ro, rc, rfl, -⟩ := hr.shape
      have HR := Lib.hid hr
      clear hr
      go_wp2
      go_ret
      exact ⟨_, rfl, HR.out, HB.out⟩
theorem pad_wh {wh k X d : Nat} (hX : X < 65536 ^ k) (hd : d < 65536) : pad 65536 (wh + k + 1) (65536 ^ wh * (X + 65536 ^ k * d)) = pad 65536 (wh + k) (65536 ^ wh * X) ++ [d] := by
  rw [Nat.mul_add, ← Nat.mul_assoc, ← Nat.pow_add]
  refine pad_succ (by decide) ?_ hd
  rw [Nat.pow_add]
  exact Nat.mul_lt_mul_of_pos_left hX (Nat.pow_pos (by decide))
/-- what the loop of Shl keeps -/
def RShlRel (a s wh : Nat) (w : World) (k X c : Nat) (v : Value) (wr : World) : Prop :=
  c < 2 ^ s ∧ X < 65536 ^ k ∧ X + 65536 ^ k * c = (a % 65536 ^ k) * 2 ^ s ∧ Own .i64 65536 3 wr w.heap.size v (wh + k) (65536 ^ wh * X) ∧ Below w.heap.size w wr
theorem own_zeros {w : World} (wh : Nat) (hwh : wh ≤ 1048576) : Own .i64 65536 3 (w.alloc (.cells (madeCells #[.int .i64 0] wh) 3)) w.heap.size (.slice (some ⟨w.heap.size, 0, none⟩) wh wh) wh 0 := by
  unfold Own
  refine ⟨by simp [pad], .inr ⟨w.heap.size, wh, _, rfl, Nat.le_refl _, heap_alloc_new w _, Nat.le_refl _, by unfold maxLen; omega, by rw [size_madeCells, Nat.mul_one], ?_⟩⟩
  rw [pad_zero, Nat.mul_one]
  simp only [madeCells, Array.toList_map, Array.toList_range, List.size_toArray]
  rw [List.take_of_length_le (by simp)]
  apply List.ext_getElem (by simp)
  intro i h1 h2
  simp [Nat.mod_one]
set_option maxHeartbeats 2000000 in
set_option maxRecDepth 100000 in
theorem RShl_any (v : Value) (a n : Nat) (w : World) (hv : R w v a) (ha : nd 65536 a ≤ 500000) (hn : n ≤ 8000000) :
    Calls Tryd.prog 65 #[v, .int .i64 n] w fun e w' => ∃ r, e = .returned r ∧ R w' r (a * 2 ^ n) ∧ Below w.heap.size w w' := by
  obtain ⟨i0, hi, hz0, hz1, hz2⟩ := info_parts Tryd.infoInt
  have hB : 2 ≤ 65536 := by decide
  obtain ⟨ao, ac, rfl, hcv⟩ := hv.shape
  have HC := Lib.hid hcv
  clear hv hcv
  have HAl := Lib.hid (nd_lt hB a)
  generalize hna : nd 65536 a = la at *
  clear hna
  obtain ⟨wh, hwh⟩ : ∃ wh, wh = n / 16 := ⟨_, rfl⟩
  obtain ⟨s, hs⟩ : ∃ s, s = n % 16 := ⟨_, rfl⟩
  have hs16 : s < 16 := by omega
  have q1 : (n : Int) / 16 = wh := by omega
  have q2 : (n : Int) % 16 = s := by omega
  have HNW : Hid (n = 16 * wh + s) := by show _ = _; omega
  have hwl : wh ≤ 500000 := by omega
  clear hwh hs
  have hpp : 0 < 2 ^ s := Nat.pow_pos (by decide)
  have hpl : 2 ^ s ≤ 65536 := Nat.le_trans (Nat.pow_le_pow_right (by decide) (show s ≤ 16 by omega)) (by decide)
  have HP := Lib.hid (fun w => power_any s w (by omega))
  obtain ⟨p, hpe⟩ : ∃ p, p = 2 ^ s := ⟨_, rfl⟩
  have HPE := Lib.hid hpe
  rw [← hpe] at HP hpp hpl
  clear hpe
  have hmk := made_int wh (by omega)
  go_enter Tryd.func65, Tryd.ntmps65
  go_wp2_with fail
  refine (HP.out _).mono ?_
  rintro e w' ⟨rfl, rfl⟩
  have HPD : Hid (∀ c d : Nat, c < p → d < 65536 → c + d * p < 8589934592) := by
    intro c d h1 h2
    have h3 : d * p ≤ 65535 * 65536 := Nat.mul_le_mul (by omega) hpl
    omega
  go_wp2
  go_loopg [5, 6, 8] la (fun m out c x wr => ∃ k X cc : Nat, Hid (k + m = la) ∧ x = .int .i64 k ∧ c = .int .i64 cc ∧ RShlRel a s wh w k X cc out wr)
  case atStart => exact ⟨0, 0, 0, by show _ = _; omega, rfl, rfl, by rw [← HPE.out]; exact hpp, by simp, by simp [Nat.mod_one], by simpa using own_zeros wh (by omega), (Below.refl _ _).alloc (Nat.le_refl _) _⟩
  case round =>
    obtain ⟨k, X, c, HK, rfl, rfl, hc1, hX, hsum, hown, hbel⟩ := hrel
    have hkl : k ≤ la := by have := HK.out; omega
    rw [← HPE.out] at hc1 hsum
    by_cases hlt : k < la
    · have hlt' : (k : Int) < la := by omega
      obtain ⟨gb, go, rfl, hca⟩ := HC.out k hlt
      have hca' : wr.cell? ⟨gb, go + k, none⟩ = some (.int .i64 (dg 65536 a k : Nat)) := by
        rw [hbel.cell (p := ⟨gb, go + k, none⟩) (World.block_lt_of_cell? _ _ hca)]; exact hca
      have hda := dg_lt (B := 65536) (by decide) a k
      have hq := HPD.out c _ hc1 hda
      obtain ⟨q, hqe⟩ : ∃ q, q = c + dg 65536 a k * p := ⟨_, rfl⟩
      have hX2 : X + 65536 ^ k * (q % 65536) < 65536 ^ (k + 1) := snoc_lt hX (Nat.mod_lt _ (by decide))
      have hsum2 : (X + 65536 ^ k * (q % 65536)) + 65536 ^ (k + 1) * (q / 65536) = a % 65536 ^ (k + 1) * p := by rw [hqe]; exact shl_round hsum
      have hc2 : q / 65536 < p := by rw [hqe]; exact shl_carry hc1 hda
      have HPS := Lib.hid (pad_wh (wh := wh) hX (show q % 65536 < 65536 from Nat.mod_lt _ (by decide)))
      have HE : Hid (wrap64 ((c : Int) + wrap64 ((dg 65536 a k : Nat) * (p : Int))) = (q : Int)) := by
        show _ = _
        have hq2 := hqe
        have hq3 := hq
        rw [show ((dg 65536 a k : Nat) : Int) * (p : Int) = ((dg 65536 a k * p : Nat) : Int) from by simp]
        generalize dg 65536 a k * p = y at hq2 hq3 ⊢
        rw [IntWalk.wrap64_in (y : Int) (by omega), IntWalk.wrap64_in _ (by omega)]
        omega
      rw [← hqe] at hq
      have HS2 := Lib.hid (And.intro hc2 (And.intro hX2 hsum2))
      have HB := Lib.hid hbel
      have hltw := hown.lt
      have HLT := Lib.hid hltw
      have hsz := hbel.size
      unfold Own at hown
      have HONE : Hid (∀ x : Int, ∀ u ∈ [Value.int .i64 x], u.oneCell' = true) := by intro x u hu; simp at hu; subst hu; rfl
      clear hca hbel hltw hX hsum hqe hc2 hX2 hsum2
      generalize dg 65536 a k = da at *
      go_wp2_with (at_builtin; go_must (refine wpList_append_own _ rfl _ _ 30 rfl w.heap.size 3 i0 (.int .i64 0) 1 8 Tryd.underlying30 hi hz0 hz1 hz2 rfl (by decide) _ _ _ rfl (hown.alloc _) ⟨wr.heap.size, 0, none⟩ 1 1 [_] rfl rfl (cell_one_new _ _ _) (HONE.out _) ?c3 ?c4 ?c5 ?_))
      case c3 => unfold maxLen; omega
      case c4 => omega
      case c5 => simp; omega
      intro v' w4 hown4 hgrow hnil
      have hq0 : (q : Int).tmod 65536 = ((q % 65536 : Nat) : Int) := by rw [Int.tmod_eq_emod_of_nonneg (by omega)]; omega
      have hq4 : (q : Int).tdiv 65536 = ((q / 65536 : Nat) : Int) := by rw [Int.tdiv_eq_ediv_of_nonneg (by omega)]; omega
      have HFIN : Hid (RShlRel a s wh w (k + 1) (X + 65536 ^ k * (q % 65536)) (q / 65536) v' w4) := by
        rw [HE.out, hq0] at hown4
        refine ⟨by rw [← HPE.out]; exact HS2.out.1, HS2.out.2.1, by rw [← HPE.out]; exact HS2.out.2.2, ?_, ?_⟩
        · unfold Own
          rw [← Nat.add_assoc, HPS.out, List.map_append]
          exact hown4
        · refine Below.grown (HB.out.alloc (by omega) _) hgrow (by simp; omega) ?_
          intro j hj
          exact (HLT.out _ hj).1
      have HQ4 := Lib.hid hq4
      clear hown4 hgrow hnil hown hq0 hq4
      go_wp2
      rw [HE.out, HQ4.out]
      go_roundg (la - (k + 1))
      case measure => have := HK.out; omega
      case rel => exact ⟨k + 1, _, q / 65536, by have := HK.out; show _ = _; omega, by go_num, by first | rfl | (rw [IntWalk.wrap64_in _ (by omega)]) | go_num, HFIN.out⟩
    · obtain rfl : k = la := by omega
      have hnl : ¬ ((k : Int) < k) := by omega
      rw [Nat.mod_eq_of_lt HAl.out] at hsum
      have hval : 65536 ^ wh * (X + 65536 ^ k * c) = a * 2 ^ n := by
        rw [hsum, HPE.out, pow_n HNW.out, Nat.mul_left_comm]
      have hxl : a * 2 ^ n < 65536 ^ (wh + k + 1) := by
        rw [← hval, Nat.add_assoc, Nat.pow_add 65536 wh]
        exact Nat.mul_lt_mul_of_pos_left (snoc_lt hX (by omega)) (Nat.pow_pos (by decide))
      have HPS := Lib.hid (pad_wh (wh := wh) (d := c) hX (by omega))
      rw [hval] at HPS
      have HT := Lib.hid (fun v' w4 (h : Own .i64 65536 3 w4 w.heap.size v' (wh + k + 1) (a * 2 ^ n)) => Trim_own _ _ _ _ _ h hxl (by omega))
      have HB := Lib.hid hbel
      have hltw := hown.lt
      have HLT := Lib.hid hltw
      have hsz := hbel.size
      have HONE : Hid (∀ x : Int, ∀ u ∈ [Value.int .i64 x], u.oneCell' = true) := by intro x u hu; simp at hu; subst hu; rfl
      unfold Own at hown
      clear hbel hltw hX hsum hval hxl hlt
      go_wp2_with (at_builtin; go_must (refine wpList_append_own _ rfl _ _ 30 rfl w.heap.size 3 i0 (.int .i64 0) 1 8 Tryd.underlying30 hi hz0 hz1 hz2 rfl (by decide) _ _ _ rfl (hown.alloc _) ⟨wr.heap.size, 0, none⟩ 1 1 [_] rfl rfl (cell_one_new _ _ _) (HONE.out _) ?d3 ?d4 ?d5 ?_))
      case d3 => unfold maxLen; omega
      case d4 => omega
      case d5 => first | omega | (simp; omega)
      intro v' w4 hown4 hgrow hnil
      have HT2 : Hid (Below w.heap.size w w4) := by
        refine Below.grown (HB.out.alloc (by omega) _) hgrow (by simp; omega) ?_
        intro j hj
        exact (HLT.out _ hj).1
      have HO4 : Hid (Own .i64 65536 3 w4 w.heap.size v' (wh + k + 1) (a * 2 ^ n)) := by
        show Own _ _ _ _ _ _ _ _
        unfold Own
        rw [HPS.out, List.map_append]
        exact hown4
      clear hown4 hgrow hnil hown
      go_wp2_with fail
      refine (HT.out _ _ HO4.out).mono ?_
      rintro e w5 ⟨r, rfl, hr, rfl⟩
      obtain ⟨ro, rc, rfl, -⟩ := hr.shape
      have HR := Lib.hid hr
      clear hr
      go_wp2
      go_ret
      exact ⟨_, rfl, HR.out, HT2.out⟩
end Go.Proofs.YtgidmlffjelpnaaDoor
