/- Contracts and lemmas (several texts merged into one). -/
import Derived.Test.YthafnhjnlfpifaaDoorBKdp3
import Derived.Laws.BytesArg
import Derived.Test.YthafnhjnlfpifaaDoorBKdp2
import Derived.Deep.RegionHeld3
namespace Go.Proofs.YthafnhjnlfpifaaDoor
open Go Go.RowKit Gu

theorem nd_half {x : Nat} (h : 0 < x) : nd 2 x = nd 2 (x / 2) + 1 := by
  unfold nd; rw [digs_pos (by decide) h]; rfl
theorem bits_16 {n : Nat} (h : 0 < n) : nd 2 n = 16 * (nd 65536 n - 1) + nd 2 (dg 65536 n (nd 65536 n - 1)) := by
  have hB : 2 ≤ 65536 := by decide
  obtain ⟨k, hk⟩ : ∃ k, nd 65536 n = k + 1 := ⟨nd 65536 n - 1, by have := nd_pos hB h; omega⟩
  have ht := dg_top hB h
  rw [hk, Nat.add_sub_cancel] at ht ⊢
  have hl := nd_lt (by decide : 2 ≤ 2) (dg 65536 n k)
  have hp := nd_pow_le (by decide : 2 ≤ 2) ht
  have h0 := nd_pos (by decide : 2 ≤ 2) ht
  generalize hL : nd 2 (dg 65536 n k) = L at *
  obtain ⟨M, rfl⟩ : ∃ M, L = M + 1 := ⟨L - 1, by omega⟩
  rw [Nat.add_sub_cancel] at hp
  have := bits_top (s := 16) (by decide) hk hp hl
  rw [this]; rfl
end Go.Proofs.YthafnhjnlfpifaaDoor
namespace Go.Proofs.YthafnhjnlfpifaaDoor
open Go Go.RowKit Gu

theorem Tryd.infoU8 : (Tryd.prog.info? 5).map (fun i => (i.zero, i.size, i.bytes)) = some (some (.int .u8 0), 1, 1) := by kernel_rfl
/-- an own row whose elements are one cell wide, by the index -/
theorem row_of_own {w : World} {base : Nat} {T : TypeId} {v : Value} {n : Nat} {xs : List Value} (h : w.ownsRow base T 1 v n xs) (hn : 0 < n) :
    ∃ g cap f, v = .slice (some ⟨g, 0, none⟩) n cap ∧ base ≤ g ∧ n ≤ cap ∧ w.rowIs g T cap f ∧ ∀ i, i < n → xs[i]? = some (f i) := by
  rcases h.2 with ⟨_, h2⟩ | ⟨g, cap, cur, hv, hb, hh, hle, hm, hs, ht⟩
  · omega
  · refine ⟨g, cap, fun i => (cur[i]?).getD (.bool false), hv, hb, hle, ⟨cur, hh, by omega, fun i hi => ?_⟩, fun i hi => ?_⟩
    · simp [Array.getElem?_eq_getElem (show i < cur.size by omega)]
    · rw [← ht, List.getElem?_take, if_pos (by omega), Array.getElem?_toList]; simp [Array.getElem?_eq_getElem (show i < cur.size by omega)]
/-- the first k decimal digits as bytes, the least first -/
def chs (n k : Nat) : List Value := (List.range k).map fun j => Value.int .u8 ((48 + dg 10 n j : Nat) : Int)
theorem chs_succ (n k : Nat) : chs n (k + 1) = chs n k ++ [Value.int .u8 ((48 + dg 10 n k : Nat) : Int)] := by
  unfold chs; rw [List.range_succ, List.map_append]; rfl
/-- a row of which i places at either end have changed sides -/
def rv {α : Type} (k i : Nat) (f : Nat → α) (p : Nat) : α := if p < k ∧ (p < i ∨ k ≤ p + i) then f (k - 1 - p) else f p
theorem rv_zero {α : Type} (k : Nat) (f : Nat → α) (p : Nat) : rv k 0 f p = f p := by unfold rv; rw [if_neg (by omega)]
theorem rv_in {α : Type} {k i p : Nat} (f : Nat → α) (h1 : i ≤ p) (h2 : p + i < k) : rv k i f p = f p := by unfold rv; rw [if_neg (by omega)]
theorem rv_all {α : Type} {k i p : Nat} (f : Nat → α) (h : k ≤ 2 * i + 1) (h1 : 2 * i ≤ k) (hp : p < k) : rv k i f p = f (k - 1 - p) := by
  unfold rv
  split
  · rfl
  · rw [show k - 1 - p = p from by omega]
theorem rv_next {α : Type} {k i j : Nat} (f : Nat → α) (hj : j + i + 1 = k) (hij : i < j) (p : Nat) :
    (if p = j then f i else if p = i then f j else rv k i f p) = rv k (i + 1) f p := by
  unfold rv
  by_cases h1 : p = j
  · rw [if_pos h1, if_pos (by omega)]; congr 1; omega
  · rw [if_neg h1]
    by_cases h2 : p = i
    · rw [if_pos h2, if_pos (by omega)]; congr 1; omega
    · rw [if_neg h2]
      by_cases h3 : p < k ∧ (p < i ∨ k ≤ p + i)
      · rw [if_pos h3, if_pos (by omega)]
      · rw [if_neg h3, if_neg (by omega)]
theorem dec_rev {n k : Nat} (h : 0 < n) (hk : nd 10 n = k) : (List.range k).map (fun p => UInt8.ofNat (48 + dg 10 n (k - 1 - p))) = Lib.decDigits n := by
  rw [dec_eq_digits h, hk]
  apply List.ext_getElem (by simp [pad])
  intro i h1 h2
  simp only [List.length_map, List.length_range] at h1
  simp only [List.getElem_map, List.getElem_range, List.getElem_reverse, pad_getElem, List.length_map, pad_length]
/-- what the first loop of Text keeps: k digits are out -/
def TxtRel (n : Nat) (w : World) (k : Nat) (av bv : Value) (wr : World) : Prop :=
  k ≤ nd 10 n ∧ R wr av (n / 10 ^ k) ∧ wr.ownsRow w.heap.size 5 1 bv k (chs n k) ∧ Below w.heap.size w wr
theorem nd_ten {n m : Nat} (h : nd 65536 n ≤ m) : nd 10 n ≤ 5 * m := by
  have h1 := (nd_le (by decide : 2 ≤ 65536)).1 h
  apply (nd_le (by decide : 2 ≤ 10)).2
  refine Nat.lt_of_lt_of_le h1 ?_
  rw [Nat.pow_mul]
  exact Nat.pow_le_pow_left (by decide) _
set_option maxHeartbeats 1000000 in
set_option maxRecDepth 100000 in
theorem Text_pos (v : Value) (n : Nat) (w : World) (hv : R w v n) (h0 : 0 < n) (hn : nd 65536 n ≤ 1000000) :
    Calls Tryd.prog 49 #[v] w fun e w' => e = .returned (.string ⟨(Lib.decDigits n).toArray⟩) ∧ Below w.heap.size w w' := by
  obtain ⟨i0, hi, hz0, hz1, hz2⟩ := info_parts Tryd.infoU8
  have HV := Lib.hid hv
  obtain ⟨ao, ac, rfl, -⟩ := hv.shape
  have hp0 : 0 < nd 65536 n := nd_pos (by decide) h0
  clear hv
  obtain ⟨L, hL⟩ : ∃ L, nd 65536 n = L + 1 := ⟨nd 65536 n - 1, by omega⟩
  rw [hL] at HV ⊢
  clear hp0 hL
  go_enter Tryd.func49, Tryd.ntmps49
  go_wp2
  go_loopg [0, 3, 4] (nd 10 n) (fun m av bv rv wr => ∃ k, ∃ r : Nat, Hid (m + k = nd 10 n) ∧ rv = .int .i64 r ∧ TxtRel n w k av bv wr)
  case atStart => exact ⟨0, 0, rfl, rfl, Nat.zero_le _, by rw [Nat.pow_zero, Nat.div_one]; exact HV.out, World.ownsRow_nil _ _ _ _, Below.refl _ _⟩
  case round =>
    obtain ⟨k, r, HK, rfl, hk, hr, hown, hbel⟩ := hrel
    have hd : nd 65536 (n / 10 ^ k) ≤ 1000000 := Nat.le_trans (nd_mono (by decide) (Nat.div_le_self _ _)) hn
    have hkb : k ≤ 5000000 := by have := nd_ten hn; omega
    have HR := Lib.hid hr
    obtain ⟨ro, rc, rfl, -⟩ := hr.shape
    clear hr
    by_cases hz : n / 10 ^ k = 0
    · have hkm : nd 10 n = k := by
        rcases Nat.lt_or_ge k (nd 10 n) with h | h
        · have h1 := nd_pow_le (by decide : 2 ≤ 10) h0
          have h2 : 10 ^ k ≤ 10 ^ (nd 10 n - 1) := Nat.pow_le_pow_right (by decide) (by omega)
          have h3 := Nat.div_pos (Nat.le_trans h2 h1) (Nat.pow_pos (by decide))
          omega
        · omega
      have hk0 : 0 < k := by rw [← hkm]; exact nd_pos (by decide) h0
      rw [hz, nd_zero]
      have HDR : Hid ((List.range k).map (fun p => UInt8.ofNat (48 + dg 10 n (k - 1 - p))) = Lib.decDigits n) := dec_rev h0 hkm
      obtain ⟨g, cap, f, rfl, hg, hkc, hrow, hf⟩ := row_of_own hown hk0
      have hf' : ∀ i, i < k → f i = Value.int .u8 ((48 + dg 10 n i : Nat) : Int) := by
        intro i hi
        have := hf i hi
        rw [chs, List.getElem?_map, List.getElem?_range hi] at this
        exact (Option.some.inj this).symm
      have HF := Lib.hid hf'
      have HROW := Lib.hid hrow
      have HBl := Lib.hid hbel
      clear hz hkm hown hbel hf hf' hrow HR hd hk
      go_wp2
      obtain ⟨wo, rfl⟩ : ∃ wo : World, wo = wr := ⟨_, rfl⟩
      go_loopw [5, 6] (fun a b wx => ∃ i : Nat, 2 * i ≤ k ∧ a = .int .i64 i ∧ b = .int .i64 ((k : Int) - 1 - i) ∧ wx.rowIs g 5 cap (rv k i f) ∧ Below w.heap.size w wx) (fun a _ _ => k - (intOf a).toNat)
      case atStart => exact ⟨0, Nat.zero_le _, rfl, by go_num, HROW.out.congr (fun p _ => (rv_zero k f p).symm), HBl.out⟩
      case round =>
        obtain ⟨i, hik, rfl, rfl, hrow, hbx⟩ := hrel
        have HB2 := Lib.hid hbx
        have HR2 := Lib.hid hrow
        clear hrow hbx
        by_cases hlt : 2 * i + 1 < k
        · obtain ⟨j, hj⟩ : ∃ j, j + i + 1 = k := ⟨k - 1 - i, by omega⟩
          rw [show (k : Int) - 1 - i = j from by omega]
          have hij : (i : Int) < j := by omega
          have hjk : (j : Int) < k := by omega
          have hne : i ≠ j := by omega
          have HJ := Lib.hid hj
          have h1 : wr.cell? ⟨g, i, none⟩ = some (.int .u8 ((48 + dg 10 n i : Nat) : Int)) := by
            rw [HR2.out.cell (i := i) (by omega), rv_in f (Nat.le_refl _) (by omega), HF.out i (by omega)]
          have h2 : wr.cell? ⟨g, j, none⟩ = some (.int .u8 ((48 + dg 10 n j : Nat) : Int)) := by
            rw [HR2.out.cell (i := j) (by omega), rv_in f (by omega) (by omega), HF.out j (by omega)]
          have h3 := HR2.out.frozen i
          have h4 := HR2.out.frozen j
          have HNX : Hid (((wr.setCell ⟨g, i, none⟩ (.int .u8 ((48 + dg 10 n j : Nat) : Int))).setCell ⟨g, j, none⟩ (.int .u8 ((48 + dg 10 n i : Nat) : Int))).rowIs g 5 cap (rv k (i + 1) f)) := by
            refine World.rowIs.congr ((HR2.out.set i _).set j _) fun p _ => ?_
            rw [← HF.out i (by omega), ← HF.out j (by omega)]
            exact rv_next f HJ.out (by omega) p
          clear hj
          generalize ((48 + dg 10 n i : Nat) : Int) = ci at *
          generalize ((48 + dg 10 n j : Nat) : Int) = cj at *
          go_wp2
          go_roundw
          case rel => exact ⟨i + 1, by have := HJ.out; omega, by go_num, by have := HJ.out; go_num, HNX.out, (HB2.out.setCell hg _).setCell hg _⟩
          case measure => simp [intOf]; omega
        · have hnl : ¬ ((i : Int) < (k : Int) - 1 - i) := by omega
          obtain ⟨S, hS⟩ : ∃ S : ByteArray, S = ⟨(Lib.decDigits n).toArray⟩ := ⟨_, rfl⟩
          have kc : ∀ dst, Tryd.prog.underlying dst = some .string → (convert 59 dst (.slice (some ⟨g, 0, none⟩) k cap)).run Tryd.prog wr = .ok (.string S) wr := by
            have h := run_convert_bytes_arg (P := Tryd.prog) wr 59 5 Tryd.underlying59 Tryd.underlying5 g 0 k cap ((List.range k).map fun p => ((48 + dg 10 n (k - 1 - p) : Nat) : Int)) (by simp) (fun p hp => by
              rw [Nat.zero_add, HR2.out.cell (i := p) (by omega), rv_all f (by omega) hik hp, HF.out _ (by omega)]
              simp [List.getD, hp])
            have e : strOfNums ((List.range k).map fun p => ((48 + dg 10 n (k - 1 - p) : Nat) : Int)) = S := by
              rw [hS, ← HDR.out]
              unfold strOfNums
              rw [List.map_map]
              rfl
            rw [e] at h
            exact h
          have kc1 := kc 9 Tryd.underlying9
          have HS := Lib.hid hS
          clear kc hS
          go_wp2
          go_ret
          exact ⟨by rw [← HS.out]; rfl, HB2.out⟩
    · have hz2 : 0 < n / 10 ^ k := Nat.pos_of_ne_zero hz
      have hzp : 0 < nd 65536 (n / 10 ^ k) := nd_pos (by decide) hz2
      have hkm : k < nd 10 n := by
        rcases Nat.lt_or_ge k (nd 10 n) with h | h
        · exact h
        · exact absurd (Nat.div_eq_of_lt (Nat.lt_of_lt_of_le (nd_lt (by decide) n) (Nat.pow_le_pow_right (by decide) h))) hz
      have HD := Lib.hid (Small_any _ (n / 10 ^ k) 10 wr HR.out (by omega) (by decide) (by decide))
      have hg : dg 10 n k < 10 := dg_lt (by decide) _ _
      rw [show (n / 10 ^ k) % 10 = dg 10 n k from rfl, Nat.div_div_eq_div_mul, ← Nat.pow_succ] at HD
      have HO := Lib.hid hown; have HBl := Lib.hid hbel
      have HRB := Lib.hid hown.lt
      have HGS := Lib.hid (chs_succ n k)
      clear hz hz2 hown hbel hd HR
      generalize dg 10 n k = g at *
      generalize nd 65536 (n / 10 ^ k) = l at *
      go_wp2_with fail
      refine HD.out.mono ?_
      rintro e w2 ⟨q, rfl, hr2, hb2, hrf⟩
      have HRF := Lib.hid hrf; clear hrf
      have HR2 := Lib.hid hr2; have HB2 := Lib.hid hb2
      have hown3 := ownsRow_below HO.out hb2
      have hsz : w.heap.size ≤ w2.heap.size := Nat.le_trans HBl.out.size HB2.out.size
      clear hr2 hb2
      go_wp2_with (at_builtin; refine wpList_append_own _ rfl _ _ 59 rfl w.heap.size 5 i0 (.int .u8 0) 1 1 Tryd.underlying59 hi hz0 hz1 hz2 rfl (by decide) _ _ _ rfl (hown3.alloc _) ⟨w2.heap.size, 0, none⟩ 1 1 [.int .u8 ((48 + g : Nat) : Int)] rfl rfl ?c1 ?c2 ?c3 ?c4 ?c5 ?_)
      case c1 => exact cell_one_new _ _ _
      case c2 => intro u hu; simp at hu; subst hu; rfl
      case c3 => unfold maxLen; omega
      case c4 => omega
      case c5 => simp; omega
      intro v' w4 hown4 hgrow hnil
      have HFIN : Hid (TxtRel n w (k + 1) q v' w4) := by
        refine ⟨by omega, ?_, by rw [HGS.out]; exact hown4, ?_⟩
        · have h1 := (HR2.out.below ((Below.refl w2.heap.size w2).alloc (Nat.le_refl _) (.cells #[.int .u8 ((48 + g : Nat) : Int)] 5)))
          rcases h1 with h1 | ⟨p1, b, o, cap, hv1, hc1⟩
          · exact .inl h1
          · refine .inr ⟨p1, b, o, cap, hv1, fun i hi => hgrow.cell (hc1 i hi) ?_⟩
            intro e
            have h3 := HRB.out _ e.symm
            obtain ⟨c4, h4⟩ := HRF.out
            rw [hv1] at h4
            simp only [Value.slice.injEq, Option.some.injEq, Addr.mk.injEq, and_true] at h4
            have h5 := h4.1.1
            have h6 : b = wr.heap.size := h5
            have h7 : b < wr.heap.size := h3.2
            omega
        · refine Below.grown ((HBl.out.trans (HB2.out.mono HBl.out.size)) |>.alloc (by omega) _) hgrow (by simp; omega) ?_
          intro j hj
          exact (HRB.out _ hj).1
      clear hown4 hgrow hnil hown3
      go_wp2
      go_roundg (nd 10 n - (k + 1))
      case measure => have := HK.out; omega
      case rel => exact ⟨k + 1, g, by show _ = _; omega, rfl, HFIN.out⟩
theorem Text_any (v : Value) (n : Nat) (w : World) (hv : R w v n) (hn : nd 65536 n ≤ 1000000) :
    Calls Tryd.prog 49 #[v] w fun e w' => e = .returned (.string ⟨(Lib.decDigits n).toArray⟩) ∧ Below w.heap.size w w' := by
  rcases Nat.eq_zero_or_pos n with h0 | h0
  · subst h0
    obtain ⟨ao, ac, rfl, -⟩ := hv.shape
    rw [nd_zero]
    have HD : Hid (Lib.decDigits 0 = [48]) := decDigits_small (by decide)
    clear hv
    go_enter Tryd.func49, Tryd.ntmps49
    go_wp2
    go_ret
    exact ⟨by rw [HD.out]; rfl, Below.refl _ _⟩
  · exact Text_pos v n w hv h0 hn
end Go.Proofs.YthafnhjnlfpifaaDoor
namespace Go.Proofs.YthafnhjnlfpifaaDoor
open Go Go.RowKit Gu

theorem New_neg (n : Int) (w : World) (hn : n < 0) :
    Calls Tryd.prog 46 #[.int .i64 n] w fun e w' => e = .returned (.tuple #[.agg #[.slice none 0 0], .int .i64 2]) ∧ Below w.heap.size w w' := by
  go_enter Tryd.func46, Tryd.ntmps46
  go_wp2
  refine bodyPost_ret (v := .tuple #[.agg #[.slice none 0 0], .int .i64 2]) (by simp [results, Tryd.results46, go_sem]) rfl ⟨rfl, ?_⟩
  exact (Below.refl _ _).alloc (Nat.le_refl _) _
end Go.Proofs.YthafnhjnlfpifaaDoor
namespace Go.Proofs.YthafnhjnlfpifaaDoor
open Go Go.RowKit Gu

/-- a number as an int, and whether it is one -/
def intN (n : Nat) : Nat := if n ≤ 9223372036854775807 then n else 0
def intB (n : Nat) : Bool := decide (n ≤ 9223372036854775807)
theorem nd63 {n : Nat} : nd 2 n ≤ 63 ↔ n ≤ 9223372036854775807 := by
  rw [nd_le (by decide)]; omega
end Go.Proofs.YthafnhjnlfpifaaDoor
namespace Go.Proofs.YthafnhjnlfpifaaDoor
open Go Go.RowKit Gu

/-- a binary digit, 0 for a negative place -/
def bitN (n : Nat) (i : Int) : Nat := if i < 0 then 0 else dg 2 n i.toNat
theorem lt_ten {n t : Nat} (h : nd 65536 n ≤ 3 * t) : n < 10 ^ (15 * t) := by
  have h1 := (nd_le (by decide : 2 ≤ 65536)).1 h
  rw [Nat.pow_mul] at h1 ⊢
  exact Nat.lt_of_lt_of_le h1 (Nat.pow_le_pow_left (by decide) _)
theorem fit_len {n m : Nat} (h : nd 65536 n ≤ m) : nd 2 n ≤ 16 * m := by
  have h1 := (nd_le (by decide : 2 ≤ 65536)).1 h
  apply (nd_le (by decide : 2 ≤ 2)).2
  rw [Nat.pow_mul]
  exact h1
theorem fit_ok {n : Nat} (h : nd 65536 n ≤ 1024) : nd 2 n ≤ 16384 := fit_len h
theorem nd_32 {n m : Nat} (h : nd 65536 n ≤ m) : nd 4294967296 n ≤ m := by
  have h1 := (nd_le (by decide : 2 ≤ 65536)).1 h
  exact (nd_le (by decide : 2 ≤ 4294967296)).2 (Nat.lt_of_lt_of_le h1 (Nat.pow_le_pow_left (by decide) _))
theorem made_any (v : Value) (n : Nat) (w : World) (hv : R w v n) (hn : nd 65536 n ≤ 1024) :
    Calls Tryd.prog 20 #[v] w fun e w' => ∃ r, e = .returned (.tuple #[.agg #[r], .bool true]) ∧ D w' r n ∧ Below w.heap.size w w' := by
  have hlen := dec_len_le (by decide) (lt_ten (t := 342) (by omega : nd 65536 n ≤ 3 * 342))
  have b1 : ∀ o, Below w.heap.size w (w.alloc o) := fun o => (Below.refl _ _).alloc (Nat.le_refl _) _
  have HT := Lib.hid (fun o => Text_any v n (w.alloc o) (hv.below (b1 o)) (by omega))
  have HP := Lib.hid (fun w => Parse_num ⟨(Lib.decDigits n).toArray⟩ w (by rw [← len_data]; exact Nat.le_trans hlen (by decide)) (isNum_dec n))
  have hsv : sval (Lib.decDigits n) = n := sval_dec n
  have hd : (⟨(Lib.decDigits n).toArray⟩ : ByteArray).data.toList = Lib.decDigits n := rfl
  rw [hd, hsv, show fitE n = 0 from if_pos (fit_ok hn), show fitN n = n from if_pos (fit_ok hn)] at HP
  obtain ⟨S, hS⟩ : ∃ S : ByteArray, S = ⟨(Lib.decDigits n).toArray⟩ := ⟨_, rfl⟩
  rw [← hS] at HT HP
  obtain ⟨ao, ac, rfl, -⟩ := hv.shape
  clear hv hS hsv hd hlen
  go_enter Tryd.func20, Tryd.ntmps20
  go_wp2_with fail
  refine (HT.out _).mono ?_
  rintro e w1 ⟨rfl, hb⟩
  obtain ⟨hc, hf⟩ := bcell hb
  have hz := hb.size
  simp only [World.size_alloc] at hz
  have HB := Lib.hid ((b1 _).trans (hb.mono (by simp)))
  have HC := Lib.hid hb
  clear hb
  go_wp2_with fail
  refine (HP.out _).mono ?_
  rintro e w2 ⟨r, rfl, hr, hb⟩
  obtain ⟨hc2, hf2⟩ := bcell hb
  have hz2 := hb.size
  have HB2 := Lib.hid (HB.out.trans (hb.mono HB.out.size))
  have HD := Lib.hid hr
  obtain ⟨ro, rc, rfl, -⟩ := hr.shape
  have hx : w2.cell? ⟨w.heap.size, 0, none⟩ = some (.slice none 0 0) := ((hc2 _ _ (by omega)).trans (hc _ _ (by simp))).trans (World.cell?_alloc_at _ _ _ _ rfl)
  have hy : w2.frozen? ⟨w.heap.size, 0, none⟩ = false := ((hf2 _ _ (by omega)).trans (hf _ _ (by simp))).trans (by simp)
  have hne : w.heap.size ≠ w2.heap.size := by omega
  have hx2 : ∀ o, (w2.alloc o).cell? ⟨w.heap.size, 0, none⟩ = some (.slice none 0 0) := fun o => (((Below.refl w2.heap.size w2).alloc (Nat.le_refl _) o).cell (p := ⟨w.heap.size, 0, none⟩) (show w.heap.size < w2.heap.size by omega)).trans hx
  have hy2 : ∀ o, (w2.alloc o).frozen? ⟨w.heap.size, 0, none⟩ = false := fun o => (((Below.refl w2.heap.size w2).alloc (Nat.le_refl _) o).frozen (p := ⟨w.heap.size, 0, none⟩) (show w.heap.size < w2.heap.size by omega)).trans hy
  have HX := Lib.hid hx2
  clear hr hb hc hf hc2 hf2
  go_wp2
  refine bodyPost_ret (v := .tuple #[.agg #[.slice ro (nd 4294967296 n) rc], .bool true]) (by simp [results, Tryd.results20, go_sem, hx2]) rfl ⟨_, rfl, (HD.out.below ((Below.refl _ _).alloc (Nat.le_refl _) _)).setCell (HX.out _) (by intro d h; cases h) _, (HB2.out.alloc HB2.out.size _).setCell (Nat.le_refl _) _⟩
end Go.Proofs.YthafnhjnlfpifaaDoor
namespace Go.Proofs.YthafnhjnlfpifaaDoor
open Go Go.RowKit Gu

theorem Trim_none (w : World) : Calls Tryd.prog 21 #[.slice none 0 0] w fun e w' => e = .returned (.slice none 0 0) ∧ w = w' := by
  go_enter Tryd.func21, Tryd.ntmps21
  go_wp2
  go_loop [3] (fun n => n = .int .i64 0) (fun _ => 0)
  case atStart => rfl
  case round =>
    subst hrel
    go_wp2
    go_ret
    exact ⟨rfl, rfl⟩
theorem Trim_own (base k X : Nat) (v : Value) (w : World) (h : Own .i64 65536 3 w base v k X) (hX : X < 65536 ^ k) (hk : k ≤ 4611686018427387904) :
    Calls Tryd.prog 21 #[v] w fun e w' => ∃ r, e = .returned r ∧ R w' r X ∧ w = w' := by
  rcases h.shape with ⟨rfl, rfl⟩ | ⟨g, cap, rfl, _, _, hm, hc, hcell⟩
  · obtain rfl : X = 0 := by rw [Nat.pow_zero] at hX; omega
    exact (Trim_none w).mono fun e w' ⟨he, hw⟩ => ⟨_, he, IsN.zero _ _ _ _ _, hw⟩
  · refine (Trim_any g k cap X w hcell hX hk hm).mono fun e w' ⟨he, hw⟩ => ⟨_, he, ?_, hw⟩
    rw [← hw]
    rcases Nat.eq_zero_or_pos X with h0 | h0
    · subst h0; rw [nd_zero]; exact IsN.zero _ _ _ _ _
    · exact .inr ⟨h0, g, 0, cap, rfl, fun i hi => by rw [Nat.zero_add]; exact hcell i (Nat.lt_of_lt_of_le hi ((nd_le (by decide)).2 hX))⟩
/-- a slice of digits that came in -/
def IsRaw (w : World) (v : Value) (xs : List Nat) : Prop :=
  Dig 65536 xs ∧ ((xs = [] ∧ ∃ ao c, v = .slice ao 0 c) ∨ ∃ b o c, v = .slice (some ⟨b, o, none⟩) xs.length c ∧ ∀ i (h : i < xs.length), w.cell? ⟨b, o + i, none⟩ = some (.int .u16 (xs[i] : Nat)))
theorem IsRaw.shape {w : World} {v : Value} {xs : List Nat} (h : IsRaw w v xs) : ∃ ao c, v = .slice ao xs.length c ∧ ∀ i (h : i < xs.length), ∃ b o, ao = some ⟨b, o, none⟩ ∧ w.cell? ⟨b, o + i, none⟩ = some (.int .u16 (xs[i] : Nat)) := by
  rcases h.2 with ⟨rfl, ao, c, rfl⟩ | ⟨b, o, c, rfl, hc⟩
  · exact ⟨ao, c, rfl, fun i h => by simp at h⟩
  · exact ⟨_, c, rfl, fun i h => ⟨b, o, rfl, hc i h⟩⟩
/-- the number that the first m digits make -/
def rawN (xs : List Nat) (m : Nat) : Nat := val 65536 (xs.take m)
theorem rawN_lt {xs : List Nat} (h : Dig 65536 xs) {k : Nat} (hk : k ≤ xs.length) : rawN xs k < 65536 ^ k := by
  have := val_lt (h.take k)
  rw [List.length_take, Nat.min_eq_left hk] at this
  exact this
theorem rawN_nd {xs : List Nat} (h : Dig 65536 xs) (m : Nat) : nd 65536 (rawN xs m) ≤ m := by
  apply (nd_le (by decide : 2 ≤ 65536)).2
  have := val_lt (h.take m)
  refine Nat.lt_of_lt_of_le this (Nat.pow_le_pow_right (by decide) ?_)
  rw [List.length_take]; omega
/-- what the loop of Raw keeps -/
def RawRel (xs : List Nat) (w : World) (k : Nat) (v : Value) (wr : World) : Prop :=
  Own .i64 65536 3 wr w.heap.size v k (rawN xs k) ∧ Below w.heap.size w wr
set_option maxHeartbeats 1000000 in
set_option maxRecDepth 100000 in
theorem Raw_any (v : Value) (xs : List Nat) (most : Nat) (w : World) (hv : IsRaw w v xs) (_hlen : xs.length ≤ maxLen) (hm : most ≤ 1048576) :
    Calls Tryd.prog 5 #[v, .int .i64 most] w fun e w' => ∃ r, e = .returned r ∧ R w' r (rawN xs most) ∧ Below w.heap.size w w' := by
  obtain ⟨i0, hi, hz0, hz1, hz2⟩ := info_parts Tryd.infoInt
  have HDg := Lib.hid hv.1
  obtain ⟨ao, c, rfl, hcv⟩ := hv.shape
  have HC := Lib.hid hcv
  obtain ⟨K, hK⟩ : ∃ K, K = min xs.length most := ⟨_, rfl⟩
  have hL : Hid (rawN xs K = rawN xs most) := by
    show _ = _
    rw [hK]; unfold rawN
    rcases Nat.le_total xs.length most with h | h
    · rw [Nat.min_eq_left h, List.take_of_length_le (Nat.le_refl _), List.take_of_length_le h]
    · rw [Nat.min_eq_right h]
  have hKl : K ≤ xs.length := by omega
  have hKm : K ≤ most := by omega
  have hKe : K = xs.length ∨ K = most := by omega
  have HKE := Lib.hid hKe
  unfold maxLen at _hlen
  clear hv hcv hK hKe
  obtain ⟨L, hxl⟩ : ∃ L, xs.length = L := ⟨_, rfl⟩
  have HXL := Lib.hid hxl
  rw [hxl] at _hlen hKl HKE ⊢
  clear hxl
  go_enter Tryd.func5, Tryd.ntmps5
  go_wp2
  go_loopg [5, 6] K (fun m out x wr => ∃ k, Hid (m + k = K) ∧ x = .int .i64 k ∧ RawRel xs w k out wr)
  case atStart => exact ⟨0, rfl, rfl, by unfold rawN; exact Own.nil _ _ _ _ _, Below.refl _ _⟩
  case round =>
    obtain ⟨k, HKK, rfl, hown, hbel⟩ := hrel
    have hkK : k ≤ K := by have := HKK.out; omega
    by_cases hlt : k < K
    · have h1 : (k : Int) < L := by omega
      have h2 : (k : Int) < most := by omega
      have hkx : k < xs.length := by rw [HXL.out]; omega
      obtain ⟨gb, go, rfl, hca⟩ := HC.out k hkx
      have hd : xs[k] < 65536 := HDg.out k hkx
      have hca' : wr.cell? ⟨gb, go + k, none⟩ = some (.int .u16 (xs[k] : Nat)) := by
        rw [hbel.cell (p := ⟨gb, go + k, none⟩) (World.block_lt_of_cell? _ _ hca)]; exact hca
      have HPS : Hid (pad 65536 (k + 1) (rawN xs (k + 1)) = pad 65536 k (rawN xs k) ++ [xs[k]]) := by
        show _ = _
        unfold rawN
        rw [val_take_succ _ _ _ hkx]
        exact pad_succ (by decide) (rawN_lt HDg.out (by omega)) hd
      have HB := Lib.hid hbel
      have hltw := hown.lt
      have HLT := Lib.hid hltw
      have hsz := hbel.size
      unfold Own at hown
      clear hca hbel hltw
      generalize xs[k] = d at *
      go_wp2_with (at_builtin; refine wpList_append_own _ rfl _ _ 29 rfl w.heap.size 3 i0 (.int .i64 0) 1 8 Tryd.underlying29 hi hz0 hz1 hz2 rfl (by decide) _ _ _ rfl (hown.alloc _) ⟨wr.heap.size, 0, none⟩ 1 1 [.int .i64 (d : Int)] rfl rfl ?c1 ?c2 ?c3 ?c4 ?c5 ?_)
      case c1 => exact cell_one_new _ _ _
      case c2 => intro u hu; simp at hu; subst hu; rfl
      case c3 => unfold maxLen; omega
      case c4 => omega
      case c5 => simp; omega
      intro v' w4 hown4 hgrow hnil
      have HFIN : Hid (RawRel xs w (k + 1) v' w4) := by
        refine ⟨?_, ?_⟩
        · unfold Own
          rw [HPS.out, List.map_append]
          exact hown4
        · refine Below.grown (HB.out.alloc (by omega) _) hgrow (by simp; omega) ?_
          intro j hj
          exact (HLT.out _ hj).1
      clear hown4 hgrow hnil hown
      go_wp2
      go_roundg (K - (k + 1))
      case measure => have := HKK.out; omega
      case rel => exact ⟨k + 1, by show _ = _; omega, by go_num, HFIN.out⟩
    · obtain rfl : k = K := by omega
      have HT := Lib.hid (Trim_own _ _ _ _ _ hown (rawN_lt HDg.out (by rw [HXL.out]; omega)) (by omega))
      have HB := Lib.hid hbel
      have hor : ¬ (k : Int) < L ∨ ¬ (k : Int) < most := by have := HKE.out; omega
      have h3 : ((decide ((k : Int) < L)) && (decide ((k : Int) < most))) = false := by
        rcases hor with h | h <;> simp [h]
      clear hown hbel
      rcases hor with h | h
      · clear h3
        go_wp2_with fail
        refine HT.out.mono ?_
        rintro e w5 ⟨r, rfl, hr, rfl⟩
        obtain ⟨ro, rc, rfl, -⟩ := hr.shape
        have HR := Lib.hid hr
        clear hr
        go_wp2
        go_ret
        exact ⟨_, rfl, by rw [← hL.out]; exact HR.out, HB.out⟩
      · clear h3
        by_cases h4 : (k : Int) < L
        all_goals
          go_wp2_with fail
          refine HT.out.mono ?_
          rintro e w5 ⟨r, rfl, hr, rfl⟩
          obtain ⟨ro, rc, rfl, -⟩ := hr.shape
          have HR := Lib.hid hr
          clear hr
          go_wp2
          go_ret
          exact ⟨_, rfl, by rw [← hL.out]; exact HR.out, HB.out⟩
end Go.Proofs.YthafnhjnlfpifaaDoor
namespace Go.Proofs.YthafnhjnlfpifaaDoor
open Go Go.RowKit Gu

theorem lt_of_div {a b P : Nat} (h : a / P < b / P) : a < b := by
  rcases Nat.lt_or_ge a b with h1 | h1
  · exact h1
  · have := Nat.div_le_div_right (c := P) h1; omega
end Go.Proofs.YthafnhjnlfpifaaDoor
namespace Go.Proofs.YthafnhjnlfpifaaDoor
open Go Go.RowKit Gu

/-- what the loop of Add keeps: k digits are out, the carry -/
def AddRel (a b : Nat) (w : World) (k X c : Nat) (v : Value) (wr : World) : Prop :=
  c ≤ 1 ∧ X < 65536 ^ k ∧ X + 65536 ^ k * c = a % 65536 ^ k + b % 65536 ^ k ∧ Own .i64 65536 3 wr w.heap.size v k X ∧ Below w.heap.size w wr
/-- how many digits a sum has -/
theorem sum_top {B a b M : Nat} (hB : 2 ≤ B) (ha : a < B ^ M) (hb : b < B ^ M) : a + b < B ^ (M + 1) := by
  rw [Nat.pow_succ]
  have := Nat.mul_le_mul_left (B ^ M) hB
  omega
theorem add_len {a b la lb k : Nat} (ha : nd 65536 a = la) (hb : nd 65536 b = lb) (hX : a + b < 65536 ^ k) (h1 : la ≤ k) (h2 : lb ≤ k)
    (h : k ≤ la ∨ k ≤ lb ∨ (0 < k ∧ 65536 ^ (k - 1) ≤ a + b)) : nd 65536 (a + b) = k := by
  have hB : 2 ≤ 65536 := by decide
  have hle := (nd_le hB).2 hX
  rcases Nat.eq_or_lt_of_le hle with h3 | h3
  · exact h3
  · exfalso
    have h4 := nd_mono hB (show a ≤ a + b by omega)
    have h5 := nd_mono hB (show b ≤ a + b by omega)
    rcases h with h | h | ⟨h0, h⟩
    · omega
    · omega
    · have := (nd_le hB (n := a + b) (k := k - 1)).1 (by omega)
      omega
end Go.Proofs.YthafnhjnlfpifaaDoor
namespace Go.Proofs.YthafnhjnlfpifaaDoor
open Go Go.RowKit Gu

/-- what the loop of Sub keeps: k digits are out, the borrow -/
def SbRel (a b : Nat) (w : World) (k X br : Nat) (v : Value) (wr : World) : Prop :=
  br ≤ 1 ∧ X < 65536 ^ k ∧ X + b % 65536 ^ k = a % 65536 ^ k + 65536 ^ k * br ∧ Own .i64 65536 3 wr w.heap.size v k X ∧ Below w.heap.size w wr
end Go.Proofs.YthafnhjnlfpifaaDoor
namespace Go.Proofs.YthafnhjnlfpifaaDoor
open Go Go.RowKit Gu

theorem third_cell {w w2 : World} {o1 o2 : Obj} {T : TypeId} {q : Nat} (hb : Below ((((w.alloc o1).alloc o2).alloc (.cells #[.slice none 0 0] T)).drewN q).heap.size ((((w.alloc o1).alloc o2).alloc (.cells #[.slice none 0 0] T)).drewN q) w2) :
    w2.cell? ⟨w.heap.size + 1 + 1, 0, none⟩ = some (.slice none 0 0) ∧ w2.frozen? ⟨w.heap.size + 1 + 1, 0, none⟩ = false := by
  have h1 := below_drewN (Below.refl (((w.alloc o1).alloc o2).alloc (.cells #[.slice none 0 0] T)).heap.size (((w.alloc o1).alloc o2).alloc (.cells #[.slice none 0 0] T))) q
  have hlt : w.heap.size + 1 + 1 < (((w.alloc o1).alloc o2).alloc (.cells #[.slice none 0 0] T)).heap.size := by simp
  exact ⟨(hb.cell (p := ⟨w.heap.size + 1 + 1, 0, none⟩) (Nat.lt_of_lt_of_le hlt h1.size)).trans ((h1.cell (p := ⟨w.heap.size + 1 + 1, 0, none⟩) hlt).trans (World.cell?_alloc_at _ _ _ _ (by simp))),
    (hb.frozen (p := ⟨w.heap.size + 1 + 1, 0, none⟩) (Nat.lt_of_lt_of_le hlt h1.size)).trans ((h1.frozen (p := ⟨w.heap.size + 1 + 1, 0, none⟩) hlt).trans (World.frozen?_alloc_at _ _ _ _ (by simp)))⟩
def subE (a b : Nat) : Int := if a < b then 10 else 0
set_option maxHeartbeats 1000000 in
theorem NSub_any (v u : Value) (a b : Nat) (w : World) (hv : D w v a) (hu : D w u b) (ha : nd 4294967296 a ≤ 1048576) (hb : nd 4294967296 b ≤ 1048576) :
    Calls Tryd.prog 9 #[.agg #[v], .agg #[u]] w fun e w' => ∃ r, e = .returned (.tuple #[.agg #[r], .int .i64 (subE a b)]) ∧ D w' r (a - b) ∧ Below w.heap.size w w' := by
  have b3 : ∀ o1 o2 o3, Below w.heap.size w (((w.alloc o1).alloc o2).alloc o3) := fun o1 o2 o3 => (((Below.refl _ _).alloc (Nat.le_refl _) _).alloc (by simp) _).alloc (by simp; omega) _
  have HC := Lib.hid (fun o1 o2 o3 => compare_any v u a b (((w.alloc o1).alloc o2).alloc o3) (hv.below (b3 o1 o2 o3)) (hu.below (b3 o1 o2 o3)) ha hb)
  have HB3 := Lib.hid b3
  by_cases h : a < b
  · have HE : Hid (subE a b = 10 ∧ a - b = 0) := ⟨if_pos h, by omega⟩
    have HM : Hid (cmpN a b = -1) := cmpN_lt (by omega)
    rw [HM.out] at HC
    obtain ⟨ao, ac, rfl, -⟩ := hv.shape
    obtain ⟨bo, bc, rfl, -⟩ := hu.shape
    clear hv hu b3 h
    go_enter Tryd.func9, Tryd.ntmps9
    go_wp2_with fail
    refine (HC.out _ _ _).mono ?_
    rintro e w1 ⟨rfl, q, rfl⟩
    go_wp2
    refine bodyPost_ret (v := .tuple #[.agg #[.slice none 0 0], .int .i64 10]) (by simp [results, Tryd.results9, go_sem]) rfl ⟨.slice none 0 0, by rw [HE.out.1], by rw [HE.out.2]; exact IsN.zero _ _ _ _ _, (below_drewN (HB3.out _ _ _) q).setCell (by show w.heap.size ≤ w.heap.size + 1 + 1; omega) _⟩
  · have HE : Hid (subE a b = 0) := if_neg h
    have hm : 0 ≤ cmpN a b := by unfold cmpN; rw [if_neg (by omega)]; split <;> omega
    have HD := Lib.hid (fun W (h1 : D W v a) (h2 : D W u b) => difference_any v u a b W h1 h2 ha hb (by omega))
    have HV := Lib.hid (fun o1 o2 o3 q => hv.below (below_drewN (b3 o1 o2 o3) q))
    have HU := Lib.hid (fun o1 o2 o3 q => hu.below (below_drewN (b3 o1 o2 o3) q))
    obtain ⟨ao, ac, rfl, -⟩ := hv.shape
    obtain ⟨bo, bc, rfl, -⟩ := hu.shape
    generalize cmpN a b = m at *
    clear hv hu b3 h
    go_enter Tryd.func9, Tryd.ntmps9
    go_wp2_with fail
    refine (HC.out _ _ _).mono ?_
    rintro e w1 ⟨rfl, q, rfl⟩
    go_wp2_with fail
    refine (HD.out _ (HV.out _ _ _ _) (HU.out _ _ _ _)).mono ?_
    rintro e w2 ⟨r, rfl, hr, hbel⟩
    obtain ⟨hcell, hfr⟩ := third_cell hbel
    obtain ⟨ro, rc, rfl, -⟩ := hr.shape
    have HR := Lib.hid hr
    have HCE := Lib.hid hcell
    have HB := Lib.hid ((below_drewN (HB3.out _ _ _) _).trans (hbel.mono (below_drewN (HB3.out _ _ _) _).size))
    clear hr hbel
    go_wp2
    refine bodyPost_ret (v := .tuple #[.agg #[.slice ro (nd 4294967296 (a - b)) rc], .int .i64 0]) (by simp [results, Tryd.results9, go_sem, hcell]) rfl ⟨_, by rw [HE.out], HR.out.setCell HCE.out (by intro d h; cases h) _, HB.out.setCell (by show w.heap.size ≤ w.heap.size + 1 + 1; omega) _⟩
theorem pair_cells {w w2 : World} {T : TypeId} (hb : Below ((w.alloc (.cells #[.slice none 0 0] T)).alloc (.cells #[.slice none 0 0] T)).heap.size ((w.alloc (.cells #[.slice none 0 0] T)).alloc (.cells #[.slice none 0 0] T)) w2) :
    (w2.cell? ⟨w.heap.size, 0, none⟩ = some (.slice none 0 0) ∧ w2.frozen? ⟨w.heap.size, 0, none⟩ = false) ∧ (w2.cell? ⟨w.heap.size + 1, 0, none⟩ = some (.slice none 0 0) ∧ w2.frozen? ⟨w.heap.size + 1, 0, none⟩ = false) := by
  have h0 : Below (w.alloc (.cells #[.slice none 0 0] T)).heap.size (w.alloc (.cells #[.slice none 0 0] T)) ((w.alloc (.cells #[.slice none 0 0] T)).alloc (.cells #[.slice none 0 0] T)) := (Below.refl _ _).alloc (Nat.le_refl _) _
  have l1 : w.heap.size < (w.alloc (.cells #[.slice none 0 0] T)).heap.size := by simp
  have l2 : w.heap.size < ((w.alloc (.cells #[.slice none 0 0] T)).alloc (.cells #[.slice none 0 0] T)).heap.size := by simp; omega
  have l3 : w.heap.size + 1 < ((w.alloc (.cells #[.slice none 0 0] T)).alloc (.cells #[.slice none 0 0] T)).heap.size := by simp
  exact ⟨⟨(hb.cell (p := ⟨w.heap.size, 0, none⟩) l2).trans ((h0.cell (p := ⟨w.heap.size, 0, none⟩) l1).trans (World.cell?_alloc_at _ _ _ _ rfl)), (hb.frozen (p := ⟨w.heap.size, 0, none⟩) l2).trans ((h0.frozen (p := ⟨w.heap.size, 0, none⟩) l1).trans (World.frozen?_alloc_at _ _ _ _ rfl))⟩,
    ⟨(hb.cell (p := ⟨w.heap.size + 1, 0, none⟩) l3).trans (World.cell?_alloc_at _ _ _ _ (by simp)), (hb.frozen (p := ⟨w.heap.size + 1, 0, none⟩) l3).trans (World.frozen?_alloc_at _ _ _ _ (by simp))⟩⟩
set_option maxHeartbeats 1000000 in
theorem two_any (v u : Value) (a b : Nat) (w : World) (hv : R w v a) (hu : R w u b) (ha : nd 65536 a ≤ 1024) (hb : nd 65536 b ≤ 1024) :
    Calls Tryd.prog 4 #[v, u] w fun e w' => ∃ r s, e = .returned (.tuple #[.agg #[r], .agg #[s], .bool true]) ∧ D w' r a ∧ D w' s b ∧ Below w.heap.size w w' := by
  have b2 : ∀ o1 o2, Below w.heap.size w ((w.alloc o1).alloc o2) := fun o1 o2 => ((Below.refl _ _).alloc (Nat.le_refl _) _).alloc (by simp) _
  have HM1 := Lib.hid (fun o1 o2 => made_any v a ((w.alloc o1).alloc o2) (hv.below (b2 o1 o2)) ha)
  have HM2 := Lib.hid (fun W h => made_any u b W h hb)
  have HU := Lib.hid (fun o1 o2 => hu.below (b2 o1 o2))
  have HB2 := Lib.hid b2
  obtain ⟨ao, ac, rfl, -⟩ := hv.shape
  obtain ⟨bo, bc, rfl, -⟩ := hu.shape
  clear hv hu b2
  go_enter Tryd.func4, Tryd.ntmps4
  go_wp2_with fail
  refine (HM1.out _ _).mono ?_
  rintro e w1 ⟨r, rfl, hr, hb1⟩
  obtain ⟨ro, rc, rfl, -⟩ := hr.shape
  obtain ⟨⟨p1, p2⟩, ⟨p3, p4⟩⟩ := pair_cells hb1
  have hz1 := hb1.size
  simp only [World.size_alloc] at hz1
  have hx1 : Below w1.heap.size w1 (w1.alloc (.cells #[.slice ro (nd 4294967296 a) rc] 26)) := (Below.refl _ _).alloc (Nat.le_refl _) _
  have HB1 := Lib.hid (((HB2.out _ _).trans (hb1.mono (HB2.out _ _).size)).alloc ((HB2.out _ _).trans (hb1.mono (HB2.out _ _).size)).size (.cells #[.slice ro (nd 4294967296 a) rc] 26))
  have HU1 := Lib.hid (((HU.out _ _).below hb1).below hx1)
  have HR1 := Lib.hid (hr.below hx1)
  have HX1 := Lib.hid hx1
  have P1 := Lib.hid p1; have P2 := Lib.hid p2; have P3 := Lib.hid p3; have P4 := Lib.hid p4
  clear hr hb1 hx1 p1 p2 p3 p4
  go_wp2_with fail
  refine (HM2.out _ HU1.out).mono ?_
  rintro e w2 ⟨s, rfl, hs, hb2⟩
  obtain ⟨so, sc, rfl, -⟩ := hs.shape
  have hz2 := hb2.size
  simp only [World.size_alloc] at hz2
  have hx2 : ∀ o, Below w2.heap.size w2 (w2.alloc o) := fun o => (Below.refl _ _).alloc (Nat.le_refl _) _
  have hall : ∀ o, Below w1.heap.size w1 (w2.alloc o) := fun o => (HX1.out.trans (hb2.mono (by simp))).trans ((hx2 o).mono (by omega))
  have c1 : ∀ o, (w2.alloc o).cell? ⟨w.heap.size, 0, none⟩ = some (.slice none 0 0) := fun o => ((hall o).cell (p := ⟨w.heap.size, 0, none⟩) (show w.heap.size < w1.heap.size by omega)).trans P1.out
  have c2 : ∀ o, (w2.alloc o).frozen? ⟨w.heap.size, 0, none⟩ = false := fun o => ((hall o).frozen (p := ⟨w.heap.size, 0, none⟩) (show w.heap.size < w1.heap.size by omega)).trans P2.out
  have c3 : ∀ o, (w2.alloc o).cell? ⟨w.heap.size + 1, 0, none⟩ = some (.slice none 0 0) := fun o => ((hall o).cell (p := ⟨w.heap.size + 1, 0, none⟩) (show w.heap.size + 1 < w1.heap.size by omega)).trans P3.out
  have c4 : ∀ o, (w2.alloc o).frozen? ⟨w.heap.size + 1, 0, none⟩ = false := fun o => ((hall o).frozen (p := ⟨w.heap.size + 1, 0, none⟩) (show w.heap.size + 1 < w1.heap.size by omega)).trans P4.out
  have c5 : ∀ o, (w2.alloc o).cell? ⟨w1.heap.size, 0, none⟩ = some (.slice ro (nd 4294967296 a) rc) := fun o =>
    ((hx2 o).cell (p := ⟨w1.heap.size, 0, none⟩) (show w1.heap.size < w2.heap.size by omega)).trans ((hb2.cell (p := ⟨w1.heap.size, 0, none⟩) (by simp)).trans (World.cell?_alloc_at _ _ _ _ rfl))
  have HD1 := Lib.hid (fun o => (HR1.out.below hb2).below (hx2 o))
  have HD2 := Lib.hid (fun o => hs.below (hx2 o))
  have HBF := Lib.hid (fun o => (HB1.out.trans (hb2.mono HB1.out.size)).alloc (HB1.out.trans (hb2.mono HB1.out.size)).size o)
  have C1 := Lib.hid c1; have C3 := Lib.hid c3
  clear hs hb2 hx2 hall
  have hne : (⟨w.heap.size, 0, none⟩ : Addr) ≠ ⟨w.heap.size + 1, 0, none⟩ := by intro e; injection e with e1; omega
  have d3 : ∀ o u, ((w2.alloc o).setCell ⟨w.heap.size, 0, none⟩ u).cell? ⟨w.heap.size + 1, 0, none⟩ = some (.slice none 0 0) := fun o u => (World.cell?_setCell_other _ _ _ _ hne).trans (c3 o)
  have D3 := Lib.hid d3
  have q0 : ∀ o u u', (((w2.alloc o).setCell ⟨w.heap.size, 0, none⟩ u).setCell ⟨w.heap.size + 1, 0, none⟩ u').cell? ⟨w.heap.size, 0, none⟩ = some u := fun o u u' => (World.cell?_setCell_other _ _ _ _ (fun e => hne e.symm)).trans (World.cell?_setCell_same _ _ _ (c1 o))
  have q1 : ∀ o u u', (((w2.alloc o).setCell ⟨w.heap.size, 0, none⟩ u).setCell ⟨w.heap.size + 1, 0, none⟩ u').cell? ⟨w.heap.size + 1, 0, none⟩ = some u' := fun o u u' => World.cell?_setCell_same _ _ _ (d3 o u)
  have Q0 := Lib.hid q0; have Q1 := Lib.hid q1
  clear d3 q0 q1 hne
  go_wp2
  go_region
  have q0 := Q0.out; have q1 := Q1.out
  go_wp2
  refine bodyPost_ret (v := .tuple #[.agg #[.slice ro (nd 4294967296 a) rc], .agg #[.slice so (nd 4294967296 b) sc], .bool true]) (by simp [results, Tryd.results4, go_sem, q0, q1]) rfl
    ⟨_, _, rfl, (((HD1.out _).setCell (C1.out _) (by intro d h; cases h) _).setCell (D3.out _ _) (by intro d h; cases h) _).below (Below.refl _ _).drew, (((HD2.out _).setCell (C1.out _) (by intro d h; cases h) _).setCell (D3.out _ _) (by intro d h; cases h) _).below (Below.refl _ _).drew, ?_⟩
  exact (((HBF.out _).setCell (Nat.le_refl _) _).setCell (Nat.le_succ _) _).drew
end Go.Proofs.YthafnhjnlfpifaaDoor
namespace Go.Proofs.YthafnhjnlfpifaaDoor
open Go Go.RowKit Gu

/-- a number of an earlier world, a step on -/
theorem rchain {W W' : World} {v : Value} {n : Nat} (hb : Below W.heap.size W W') (h : R W v n) : R W' v n := h.below hb
theorem dchain {W W' : World} {v : Value} {n : Nat} (hb : Below W.heap.size W W') (h : D W v n) : D W' v n := h.below hb
/-- boxes, the program's numbers, the document's numbers -/
structure Kp (cs : List (Nat × Value)) (ns rs : List (Value × Nat)) (w W : World) : Prop where
  num : ∀ p ∈ ns, D W p.1 p.2
  dig : ∀ p ∈ rs, R W p.1 p.2
  box : ∀ p ∈ cs, p.1 < W.heap.size ∧ W.cell? ⟨p.1, 0, none⟩ = some p.2
  env : Env W
  bel : Below w.heap.size w W
theorem IsRaw.below {w w' : World} {v : Value} {xs : List Nat} (h : IsRaw w v xs) (hb : Below w.heap.size w w') : IsRaw w' v xs := by
  refine ⟨h.1, ?_⟩
  rcases h.2 with h1 | ⟨b, o, c, hv, hc⟩
  · exact .inl h1
  · refine .inr ⟨b, o, c, hv, fun i hi => ?_⟩
    rw [hb.cell (p := ⟨b, o + i, none⟩) (World.block_lt_of_cell? _ _ (hc i hi))]
    exact hc i hi
section
variable {cs : List (Nat × Value)} {ns rs : List (Value × Nat)} {w W W' : World}
theorem Kp.start (he : Env w) : Kp [] [] [] w w := ⟨fun _ h => by simp at h, fun _ h => by simp at h, fun _ h => by simp at h, he, Below.refl _ _⟩
theorem Kp.next (h : Kp cs ns rs w W) (hb : Below W.heap.size W W') : Kp cs ns rs w W' :=
  ⟨fun p hp => (h.num p hp).below hb, fun p hp => (h.dig p hp).below hb, fun p hp => ⟨Nat.lt_of_lt_of_le (h.box p hp).1 hb.size, (hb.cell (p := ⟨p.1, 0, none⟩) (h.box p hp).1).trans (h.box p hp).2⟩, h.env.below hb, h.bel.trans (hb.mono h.bel.size)⟩
theorem Kp.drewN (h : Kp cs ns rs w W) (q : Nat) : Kp cs ns rs w (W.drewN q) := h.next (below_drewN (Below.refl _ _) q)
theorem Kp.drew (h : Kp cs ns rs w W) : Kp cs ns rs w W.drew := h.next (Below.refl _ _).drew
theorem Kp.addNum (h : Kp cs ns rs w W) {v : Value} {n : Nat} (hv : D W v n) : Kp cs ((v, n) :: ns) rs w W :=
  ⟨fun p hp => by
    rcases List.mem_cons.1 hp with rfl | hp
    · exact hv
    · exact h.num p hp, h.dig, h.box, h.env, h.bel⟩
theorem Kp.addDig (h : Kp cs ns rs w W) {v : Value} {n : Nat} (hv : R W v n) : Kp cs ns ((v, n) :: rs) w W :=
  ⟨h.num, fun p hp => by
    rcases List.mem_cons.1 hp with rfl | hp
    · exact hv
    · exact h.dig p hp, h.box, h.env, h.bel⟩
theorem Kp.alloc (h : Kp cs ns rs w W) (o : Obj) : Kp cs ns rs w (W.alloc o) := h.next ((Below.refl _ _).alloc (Nat.le_refl _) _)
/-- a variable gets its box -/
theorem Kp.boxed (h : Kp cs ns rs w W) (v : Value) (T : TypeId) : Kp ((W.heap.size, v) :: cs) ns rs w (W.alloc (.cells #[v] T)) :=
  ⟨(h.alloc _).num, (h.alloc _).dig, fun p hp => by
    rcases List.mem_cons.1 hp with rfl | hp
    · exact ⟨by simp, World.cell?_alloc_at _ _ _ _ rfl⟩
    · exact (h.alloc _).box p hp, (h.alloc _).env, (h.alloc _).bel⟩
theorem Kp.cell (h : Kp cs ns rs w W) {g : Nat} {v : Value} (hm : (g, v) ∈ cs) : W.cell? ⟨g, 0, none⟩ = some v := (h.box _ hm).2
theorem awake_K (h : Kp cs ns rs w W) : Calls Tryd.prog 19 #[] W fun e w' => e = .returned (.bool true) ∧ Kp cs ns rs w w' :=
  (awake_any W h.env).mono fun _ _ ⟨he, hB⟩ => ⟨he, h.next hB⟩
theorem Parse_dec (n : Nat) (hn : nd 65536 n ≤ 1024) :
    Calls Tryd.prog 47 #[.string ⟨(Lib.decDigits n).toArray⟩] W fun e w' => ∃ r, e = .returned (.tuple #[.agg #[r], .int .i64 0]) ∧ D w' r n ∧ Below W.heap.size W w' := by
  have hlen := dec_len_le (by decide) (lt_ten (t := 342) (by omega : nd 65536 n ≤ 3 * 342))
  have HP := Parse_num ⟨(Lib.decDigits n).toArray⟩ W (by rw [← len_data]; exact Nat.le_trans hlen (by decide)) (isNum_dec n)
  have hsv : sval (Lib.decDigits n) = n := sval_dec n
  have hd : (⟨(Lib.decDigits n).toArray⟩ : ByteArray).data.toList = Lib.decDigits n := rfl
  rw [hd, hsv, show fitE n = 0 from if_pos (fit_ok hn), show fitN n = n from if_pos (fit_ok hn)] at HP
  exact HP
theorem String_K {v : Value} {n : Nat} (h : Kp cs ns rs w W) (hv : (v, n) ∈ ns) (hn : nd 4294967296 n ≤ 100000) :
    Calls Tryd.prog 6 #[.agg #[v]] W fun e w' => e = .returned (.string ⟨(Lib.decDigits n).toArray⟩) ∧ Kp cs ns rs w w' :=
  (String_any v n W (h.num _ hv) hn h.env).mono fun _ _ ⟨he, hB⟩ => ⟨he, h.next hB⟩
end
end Go.Proofs.YthafnhjnlfpifaaDoor
namespace Go.Proofs.YthafnhjnlfpifaaDoor
open Go Go.RowKit Gu

def divE (b : Nat) : Int := if b = 0 then 11 else 0
def modN (a b : Nat) : Nat := if b = 0 then 0 else a % b
set_option maxHeartbeats 1000000 in
theorem NDivMod_any (v u : Value) (a b : Nat) (w : World) (hv : D w v a) (hu : D w u b) (ha : nd 4294967296 a ≤ 400000) (hb : nd 4294967296 b ≤ 400000) :
    Calls Tryd.prog 10 #[.agg #[v], .agg #[u]] w fun e w' => ∃ q r, e = .returned (.tuple #[.agg #[q], .agg #[r], .int .i64 (divE b)]) ∧ D w' q (a / b) ∧ D w' r (modN a b) ∧ Below w.heap.size w w' := by
  by_cases h0 : b = 0
  · subst h0
    have HZ := Lib.hid (fun W (h : D W u 0) => isZero_any u 0 W h)
    rw [show decide ((0 : Nat) = 0) = true from rfl] at HZ
    have b2 : ∀ o1 o2 o3 o4, Below w.heap.size w ((((w.alloc o1).alloc o2).alloc o3).alloc o4) := fun o1 o2 o3 o4 => ((((Below.refl _ _).alloc (Nat.le_refl _) _).alloc (by simp) _).alloc (by simp; omega) _).alloc (by simp; omega) _
    have HU := Lib.hid (fun o1 o2 o3 o4 => hu.below (b2 o1 o2 o3 o4))
    have HB2 := Lib.hid b2
    obtain ⟨ao, ac, rfl, -⟩ := hv.shape
    obtain ⟨bo, bc, rfl, -⟩ := hu.shape
    clear hv hu b2
    go_enter Tryd.func10, Tryd.ntmps10
    go_wp2_with fail
    refine (HZ.out _ (HU.out _ _ _ _)).mono ?_
    rintro e w1 ⟨rfl, rfl⟩
    go_wp2
    refine bodyPost_ret (v := .tuple #[.agg #[.slice none 0 0], .agg #[.slice none 0 0], .int .i64 11]) (by simp [results, Tryd.results10, go_sem]) rfl ⟨.slice none 0 0, .slice none 0 0, rfl, by rw [Nat.div_zero]; exact IsN.zero _ _ _ _ _, by rw [show modN a 0 = 0 from if_pos rfl]; exact IsN.zero _ _ _ _ _, HB2.out _ _ _ _⟩
  · have HZ := Lib.hid (fun W (h : D W u b) => isZero_any u b W h)
    rw [show decide (b = 0) = false from by simp [h0]] at HZ
    have HE : Hid (divE b = 0 ∧ modN a b = a % b) := ⟨if_neg h0, if_neg h0⟩
    have HD := Lib.hid (fun W (h1 : D W v a) (h2 : D W u b) => divide_long (max (nd 4294967296 a) (nd 4294967296 b)) (by omega) v u a b W h1 h2 (by omega) ((nd_le (by decide)).1 (Nat.le_max_left _ _)) ((nd_le (by decide)).1 (Nat.le_max_right _ _)))
    have b2 : ∀ o1 o2 o3 o4, Below w.heap.size w ((((w.alloc o1).alloc o2).alloc o3).alloc o4) := fun o1 o2 o3 o4 => ((((Below.refl _ _).alloc (Nat.le_refl _) _).alloc (by simp) _).alloc (by simp; omega) _).alloc (by simp; omega) _
    have HV := Lib.hid (fun o1 o2 o3 o4 => hv.below (b2 o1 o2 o3 o4))
    have HU := Lib.hid (fun o1 o2 o3 o4 => hu.below (b2 o1 o2 o3 o4))
    have HB2 := Lib.hid b2
    obtain ⟨ao, ac, rfl, -⟩ := hv.shape
    obtain ⟨bo, bc, rfl, -⟩ := hu.shape
    clear hv hu b2
    go_enter Tryd.func10, Tryd.ntmps10
    go_wp2_with fail
    refine (HZ.out _ (HU.out _ _ _ _)).mono ?_
    rintro e w1 ⟨rfl, rfl⟩
    go_wp2_with fail
    refine (HD.out _ (HV.out _ _ _ _) (HU.out _ _ _ _)).mono ?_
    rintro e w2 ⟨qv, rv, rfl, hq, hr, hbel⟩
    obtain ⟨qo, qc, rfl, -⟩ := hq.shape
    obtain ⟨ro, rc, rfl, -⟩ := hr.shape
    have hcell : ∀ k, (k = w.heap.size + 1 + 1 ∨ k = w.heap.size + 1 + 1 + 1) → w2.cell? ⟨k, 0, none⟩ = some (.slice none 0 0) ∧ w2.frozen? ⟨k, 0, none⟩ = false := by
      intro k hk
      have hl : k < ((((w.alloc (.cells #[.slice ao (nd 4294967296 a) ac] 26)).alloc (.cells #[.slice bo (nd 4294967296 b) bc] 26)).alloc (.cells #[.slice none 0 0] 26)).alloc (.cells #[.slice none 0 0] 26)).heap.size := by simp; omega
      refine ⟨(hbel.cell (p := ⟨k, 0, none⟩) hl).trans ?_, (hbel.frozen (p := ⟨k, 0, none⟩) hl).trans ?_⟩
      · rcases hk with rfl | rfl
        · exact (World.cell?_alloc_past _ _ _ (by simp)).trans (World.cell?_alloc_at _ _ _ _ (by simp))
        · exact World.cell?_alloc_at _ _ _ _ (by simp)
      · rcases hk with rfl | rfl
        · refine (((Below.refl _ _).alloc (Nat.le_refl _) _).frozen (p := ⟨w.heap.size + 1 + 1, 0, none⟩) (by simp)).trans (World.frozen?_alloc_at _ _ _ _ (by simp))
        · exact World.frozen?_alloc_at _ _ _ _ (by simp)
    obtain ⟨c1, f1⟩ := hcell _ (.inl rfl)
    obtain ⟨c2, f2⟩ := hcell _ (.inr rfl)
    have hne : (⟨w.heap.size + 1 + 1, 0, none⟩ : Addr) ≠ ⟨w.heap.size + 1 + 1 + 1, 0, none⟩ := by intro e; injection e with e1; omega
    have q0 : ∀ u u', ((w2.setCell ⟨w.heap.size + 1 + 1, 0, none⟩ u).setCell ⟨w.heap.size + 1 + 1 + 1, 0, none⟩ u').cell? ⟨w.heap.size + 1 + 1, 0, none⟩ = some u := fun u u' => (World.cell?_setCell_other _ _ _ _ (fun e => hne e.symm)).trans (World.cell?_setCell_same _ _ _ c1)
    have d2 : ∀ u, (w2.setCell ⟨w.heap.size + 1 + 1, 0, none⟩ u).cell? ⟨w.heap.size + 1 + 1 + 1, 0, none⟩ = some (.slice none 0 0) := fun u => (World.cell?_setCell_other _ _ _ _ hne).trans c2
    have q1 : ∀ u u', ((w2.setCell ⟨w.heap.size + 1 + 1, 0, none⟩ u).setCell ⟨w.heap.size + 1 + 1 + 1, 0, none⟩ u').cell? ⟨w.heap.size + 1 + 1 + 1, 0, none⟩ = some u' := fun u u' => World.cell?_setCell_same _ _ _ (d2 u)
    have Q0 := Lib.hid q0; have Q1 := Lib.hid q1
    have HQ : Hid (∀ u u', D ((w2.setCell ⟨w.heap.size + 1 + 1, 0, none⟩ u).setCell ⟨w.heap.size + 1 + 1 + 1, 0, none⟩ u') (.slice qo (nd 4294967296 (a / b)) qc) (a / b)) := fun u u' => (hq.setCell c1 (by intro d h; cases h) u).setCell (d2 u) (by intro d h; cases h) u'
    have HR : Hid (∀ u u', D ((w2.setCell ⟨w.heap.size + 1 + 1, 0, none⟩ u).setCell ⟨w.heap.size + 1 + 1 + 1, 0, none⟩ u') (.slice ro (nd 4294967296 (a % b)) rc) (a % b)) := fun u u' => (hr.setCell c1 (by intro d h; cases h) u).setCell (d2 u) (by intro d h; cases h) u'
    have HB := Lib.hid (fun u u' => ((((HB2.out _ _ _ _).trans (hbel.mono (HB2.out _ _ _ _).size)).setCell (p := ⟨w.heap.size + 1 + 1, 0, none⟩) (by show w.heap.size ≤ w.heap.size + 1 + 1; omega) u).setCell (p := ⟨w.heap.size + 1 + 1 + 1, 0, none⟩) (by show w.heap.size ≤ w.heap.size + 1 + 1 + 1; omega) u'))
    clear hq hr hbel hcell q0 q1
    go_wp2
    have q0 := Q0.out; have q1 := Q1.out
    refine bodyPost_ret (v := .tuple #[.agg #[.slice qo (nd 4294967296 (a / b)) qc], .agg #[.slice ro (nd 4294967296 (a % b)) rc], .int .i64 0]) (by simp [results, Tryd.results10, go_sem, q0, q1]) rfl ⟨_, _, by rw [HE.out.1], HQ.out _ _, by rw [HE.out.2]; exact HR.out _ _, HB.out _ _⟩
set_option maxHeartbeats 1000000 in
theorem NGcd_any (v u : Value) (a b : Nat) (w : World) (hv : D w v a) (hu : D w u b) (ha : nd 4294967296 a ≤ 400000) (hb : nd 4294967296 b ≤ 400000) :
    Calls Tryd.prog 14 #[.agg #[v], .agg #[u]] w fun e w' => ∃ r, e = .returned (.agg #[r]) ∧ D w' r (Nat.gcd a b) ∧ Below w.heap.size w w' := by
  have hg : nd 4294967296 (Nat.gcd a b) ≤ 400000 := by
    rcases Nat.eq_zero_or_pos a with h | h
    · subst h; rw [Nat.gcd_zero_left]; exact hb
    · exact Nat.le_trans (nd_mono (by decide) (Nat.gcd_le_left _ h)) ha
  have b3 : ∀ o1 o2 o3, Below w.heap.size w (((w.alloc o1).alloc o2).alloc o3) := fun o1 o2 o3 => (((Below.refl _ _).alloc (Nat.le_refl _) _).alloc (by simp) _).alloc (by simp; omega) _
  have HG := Lib.hid (fun o1 o2 o3 => gcd_any (divide_long (max (nd 4294967296 a) (nd 4294967296 b)) (by omega)) v u a b (((w.alloc o1).alloc o2).alloc o3) (hv.below (b3 o1 o2 o3)) (hu.below (b3 o1 o2 o3)) ((nd_le (by decide)).1 (Nat.le_max_left _ _)) ((nd_le (by decide)).1 (Nat.le_max_right _ _)))
  have HC := Lib.hid (fun v W (h : D W v (Nat.gcd a b)) => clone_any v _ W h (by omega))
  have HB3 := Lib.hid b3
  obtain ⟨ao, ac, rfl, -⟩ := hv.shape
  obtain ⟨bo, bc, rfl, -⟩ := hu.shape
  clear hv hu b3
  generalize Nat.gcd a b = g at *
  go_enter Tryd.func14, Tryd.ntmps14
  go_wp2_with fail
  refine (HG.out _ _ _).mono ?_
  rintro e w1 ⟨gv, rfl, hgv, hbel⟩
  obtain ⟨go, gc, rfl, -⟩ := hgv.shape
  obtain ⟨hc, hf⟩ := bcell hbel
  have HG1 := Lib.hid hgv
  have HB1 := Lib.hid hbel
  have hz := hbel.size
  simp only [World.size_alloc] at hz
  clear hbel hgv
  go_wp2_with fail
  refine (HC.out _ _ HG1.out).mono ?_
  rintro e w2 ⟨r, rfl, hr, hbel2⟩
  obtain ⟨ro, rc, rfl, -⟩ := hr.shape
  obtain ⟨hc2, hf2⟩ := bcell hbel2
  have hcell : w2.cell? ⟨w.heap.size + 1 + 1, 0, none⟩ = some (.slice none 0 0) := by
    rw [hc2 _ _ (by omega), hc _ _ (by simp)]
    exact World.cell?_alloc_at _ _ _ _ (by simp)
  have hfr : w2.frozen? ⟨w.heap.size + 1 + 1, 0, none⟩ = false := by
    rw [hf2 _ _ (by omega), hf _ _ (by simp)]
    exact World.frozen?_alloc_at _ _ _ _ (by simp)
  have HR := Lib.hid hr
  have HCE := Lib.hid hcell
  have HBE := Lib.hid (((HB3.out _ _ _).trans (HB1.out.mono (by simp; omega))).trans (hbel2.mono (by omega)))
  clear hr hbel2 hc hf hc2 hf2
  go_wp2
  refine bodyPost_ret (v := .agg #[.slice ro (nd 4294967296 g) rc]) (by simp [results, Tryd.results14, go_sem, hcell]) rfl ⟨_, rfl, HR.out.setCell HCE.out (by intro d h; cases h) _, HBE.out.setCell (by show w.heap.size ≤ w.heap.size + 1 + 1; omega) _⟩
end Go.Proofs.YthafnhjnlfpifaaDoor
namespace Go.Proofs.YthafnhjnlfpifaaDoor
open Go Go.RowKit Gu

theorem am_gm {r t m : Nat} (h : r + t ≤ 2 * m) : r * t ≤ m * m := by
  rcases Nat.le_total r m with h1 | h1
  · obtain ⟨d, rfl⟩ := Nat.exists_eq_add_of_le h1
    have e1 : r * t ≤ r * (r + 2 * d) := Nat.mul_le_mul_left _ (by omega)
    have e2 : r * (r + 2 * d) = r * r + 2 * (r * d) := by rw [Nat.mul_add, Nat.mul_left_comm]
    have e3 : (r + d) * (r + d) = r * r + r * d + (r * d + d * d) := by rw [Nat.add_mul, Nat.mul_add, Nat.mul_add, Nat.mul_comm d r]
    omega
  · obtain ⟨d, rfl⟩ := Nat.exists_eq_add_of_le h1
    obtain ⟨x, rfl⟩ : ∃ x, m = t + x := ⟨m - t, by omega⟩
    have e1 : (t + x + d) * t = t * t + t * x + t * d := by rw [Nat.add_mul, Nat.add_mul, Nat.mul_comm x t, Nat.mul_comm d t]
    have e2 : (t + x) * (t + x) = t * t + t * x + (t * x + x * x) := by rw [Nat.add_mul, Nat.mul_add, Nat.mul_add, Nat.mul_comm x t]
    have e3 : t * d ≤ t * x := Nat.mul_le_mul_left _ (by omega)
    omega
theorem newton {a r : Nat} (hr : 0 < r) (ha : 0 < a) : 0 < (r + a / r) / 2 ∧ a < ((r + a / r) / 2 + 1) * ((r + a / r) / 2 + 1) ∧ (r ≤ (r + a / r) / 2 → r * r ≤ a) := by
  have h1 : a < r * (a / r + 1) := Nat.lt_mul_div_succ a hr
  have h2 : r * (a / r) ≤ a := Nat.mul_div_le a r
  have h3 : r = 1 → a / r = a := fun h => by rw [h, Nat.div_one]
  generalize a / r = q at *
  refine ⟨?_, ?_, fun h => ?_⟩
  · rcases Nat.lt_or_ge 1 r with h | h
    · omega
    · have := h3 (by omega); omega
  · exact Nat.lt_of_lt_of_le h1 (am_gm (by omega))
  · exact Nat.le_trans (Nat.mul_le_mul_left _ (by omega)) h2
theorem sqrt_start {a : Nat} (_ha : 0 < a) : a < (1 * 2 ^ ((nd 2 a + 1) / 2) + 1) * (1 * 2 ^ ((nd 2 a + 1) / 2) + 1) := by
  have h := nd_lt (B := 2) (by decide) a
  rw [Nat.one_mul]
  have h1 : 2 ^ nd 2 a ≤ 2 ^ ((nd 2 a + 1) / 2) * 2 ^ ((nd 2 a + 1) / 2) := by rw [← Nat.pow_add]; exact Nat.pow_le_pow_right (by decide) (by omega)
  have h2 : 2 ^ ((nd 2 a + 1) / 2) * 2 ^ ((nd 2 a + 1) / 2) ≤ (2 ^ ((nd 2 a + 1) / 2) + 1) * (2 ^ ((nd 2 a + 1) / 2) + 1) := Nat.mul_le_mul (by omega) (by omega)
  omega
theorem sqrt_room {a : Nat} (ha : 0 < a) : 1 * 2 ^ ((nd 2 a + 1) / 2) < 4294967296 ^ (nd 4294967296 a + 1) := by
  have h1 := nd_pow_le (B := 2) (by decide) ha
  have h0 := nd_pos (B := 2) (by decide) ha
  have h2 := nd_lt (B := 4294967296) (by decide) a
  have h3 : 2 ^ ((nd 2 a + 1) / 2) ≤ 2 ^ (nd 2 a - 1 + 1) := Nat.pow_le_pow_right (by decide) (by omega)
  rw [Nat.pow_succ] at h3
  rw [Nat.pow_succ, Nat.one_mul]
  omega
/-- what a region keeps whose calls make memory: a number, and all that lay there when it began -/
structure St1 (W0 : World) (v : Value) (a : Nat) (W : World) : Prop where
  num : D W v a
  bel : Below W0.heap.size W0 W
theorem St1.next {W0 W W' : World} {v : Value} {a : Nat} (h : St1 W0 v a W) (hb : Below W.heap.size W W') : St1 W0 v a W' :=
  ⟨h.num.below hb, h.bel.trans (hb.mono h.bel.size)⟩
theorem St1.cell {W0 W : World} {v : Value} {a k : Nat} {x : Value} (h : St1 W0 v a W) (hk : k < W0.heap.size) (hc : W0.cell? ⟨k, 0, none⟩ = some x) : W.cell? ⟨k, 0, none⟩ = some x :=
  (h.bel.cell (p := ⟨k, 0, none⟩) hk).trans hc
theorem St1.frozen {W0 W : World} {v : Value} {a k : Nat} (h : St1 W0 v a W) (hk : k < W0.heap.size) (hc : W0.frozen? ⟨k, 0, none⟩ = false) : W.frozen? ⟨k, 0, none⟩ = false :=
  (h.bel.frozen (p := ⟨k, 0, none⟩) hk).trans hc
set_option maxHeartbeats 2000000 in
set_option maxRecDepth 100000 in
theorem Sqrt_any (v : Value) (a : Nat) (w : World) (hv : D w v a) (ha : nd 4294967296 a ≤ 200000) :
    Calls Tryd.prog 13 #[.agg #[v]] w fun e w' => ∃ r s, e = .returned (.agg #[r]) ∧ D w' r s ∧ s * s ≤ a ∧ a < (s + 1) * (s + 1) ∧ Below w.heap.size w w' := by
  have b2 : ∀ o1 o2, Below w.heap.size w ((w.alloc o1).alloc o2) := fun o1 o2 => ((Below.refl _ _).alloc (Nat.le_refl _) _).alloc (by simp) _
  have HB2 := Lib.hid b2
  have HV := Lib.hid (fun o1 o2 => hv.below (b2 o1 o2))
  have HZ := Lib.hid (fun o1 o2 => isZero_any v a ((w.alloc o1).alloc o2) (hv.below (b2 o1 o2)))
  by_cases h0 : a = 0
  · subst h0
    rw [show decide ((0 : Nat) = 0) = true from rfl] at HZ
    obtain ⟨ao, ac, rfl, -⟩ := hv.shape
    clear hv b2
    go_enter Tryd.func13, Tryd.ntmps13
    go_wp2_with fail
    refine (HZ.out _ _).mono ?_
    rintro e w1 ⟨rfl, rfl⟩
    go_wp2
    refine bodyPost_ret (v := .agg #[.slice none 0 0]) (by simp [results, Tryd.results13, go_sem]) rfl ⟨.slice none 0 0, 0, rfl, IsN.zero _ _ _ _ _, by decide, by decide, HB2.out _ _⟩
  · rw [show decide (a = 0) = false from by simp [h0]] at HZ
    have ha0 : 0 < a := Nat.pos_of_ne_zero h0
    obtain ⟨M, hM⟩ : ∃ M, M = 4294967296 ^ (nd 4294967296 a + 1) := ⟨_, rfl⟩
    have HDV := Lib.hid (divide_long (nd 4294967296 a + 1) (by omega))
    rw [← hM] at HDV
    have HST := Lib.hid (sqrt_start ha0)
    have hroom := sqrt_room ha0
    rw [← hM] at hroom
    have HRM := Lib.hid hroom
    have HR0 : Hid (0 < 1 * 2 ^ ((nd 2 a + 1) / 2)) := by
      show 0 < _
      rw [Nat.one_mul]; exact Nat.pow_pos (by decide)
    have haM : a < M := by rw [hM, Nat.pow_succ]; have := nd_lt (B := 4294967296) (by decide) a; omega
    have HNM : Hid (∀ x, x < M → nd 4294967296 x ≤ 200001) := fun x hx => by
      rw [hM] at hx
      have := (nd_le (B := 4294967296) (by decide)).2 hx
      omega
    have HAM := Lib.hid haM
    have HBL := Lib.hid (fun W (h : D W v a) => bitLen_any v a W h (by omega))
    have hb2 := nd_two_le ha
    have HSL := Lib.hid (fun dv W (h : D W dv 1) => shiftLeft_any dv 1 ((nd 2 a + 1) / 2) W h (by rw [nd_small (by decide : 1 < 4294967296) |> Nat.le_antisymm <| nd_pos (by decide) (by decide)]; decide) (by omega))
    obtain ⟨ao, ac, rfl, -⟩ := hv.shape
    clear hv b2 h0 hM hroom haM
    go_enter Tryd.func13, Tryd.ntmps13
    go_wp2_with fail
    refine (HZ.out _ _).mono ?_
    rintro e w1 ⟨rfl, rfl⟩
    obtain ⟨W0, hW0⟩ : ∃ W0 : World, W0 = (w.alloc (.cells #[.slice ao (nd 4294967296 a) ac] 26)).alloc (.cells #[.slice none 0 0] 26) := ⟨_, rfl⟩
    have hz0 : W0.heap.size = w.heap.size + 2 := by rw [hW0]; simp
    have c0 : W0.cell? ⟨w.heap.size, 0, none⟩ = some (.slice ao (nd 4294967296 a) ac) := by rw [hW0]; exact (World.cell?_alloc_past _ _ _ (by simp)).trans (World.cell?_alloc_at _ _ _ _ rfl)
    have c1 : W0.cell? ⟨w.heap.size + 1, 0, none⟩ = some (.slice none 0 0) := by rw [hW0]; exact World.cell?_alloc_at _ _ _ _ (by simp)
    have f1 : W0.frozen? ⟨w.heap.size + 1, 0, none⟩ = false := by rw [hW0]; exact World.frozen?_alloc_at _ _ _ _ (by simp)
    have hst0 : St1 W0 (.slice ao (nd 4294967296 a) ac) a W0 := by rw [hW0]; exact ⟨HV.out _ _, Below.refl _ _⟩
    have hbw : Below w.heap.size w W0 := by rw [hW0]; exact HB2.out _ _
    have HCA : Hid (∀ W, St1 W0 (.slice ao (nd 4294967296 a) ac) a W → W.cell? ⟨w.heap.size, 0, none⟩ = some (.slice ao (nd 4294967296 a) ac)) := fun W h => h.cell (by omega) c0
    have HC1 : Hid (∀ W, St1 W0 (.slice ao (nd 4294967296 a) ac) a W → W.cell? ⟨w.heap.size + 1, 0, none⟩ = some (.slice none 0 0)) := fun W h => h.cell (by omega) c1
    have HF1 : Hid (∀ W, St1 W0 (.slice ao (nd 4294967296 a) ac) a W → W.frozen? ⟨w.heap.size + 1, 0, none⟩ = false) := fun W h => h.frozen (by omega) f1
    have HBW := Lib.hid hbw
    have HSZ : Hid (W0.heap.size = w.heap.size + 2) := hz0
    have HD1 : Hid (∀ W, St1 W0 (.slice ao (nd 4294967296 a) ac) a W → Calls Tryd.prog 37 #[.int .u64 1] W fun e w' => ∃ o l c, e = .returned (.slice o l c) ∧ D w' (.slice o l c) 1 ∧ St1 W0 (.slice ao (nd 4294967296 a) ac) a w') := fun W h =>
      (digitsOf_any 1 W (by decide)).mono fun e w' ⟨r, he, hr, hB⟩ => by
        obtain ⟨ro, rc, rfl, -⟩ := hr.shape
        exact ⟨ro, _, rc, he, hr, h.next hB⟩
    have HB1 : Hid (∀ W, St1 W0 (.slice ao (nd 4294967296 a) ac) a W → Calls Tryd.prog 34 #[.slice ao (nd 4294967296 a) ac] W fun e w' => e = .returned (.int .i64 (nd 2 a)) ∧ St1 W0 (.slice ao (nd 4294967296 a) ac) a w') := fun W h =>
      (HBL.out W h.num).mono fun e w' ⟨he, hw⟩ => ⟨he, hw ▸ h⟩
    rw [← hW0]
    have hs2 := hst0.next ((Below.refl _ W0).drew)
    have hca := HCA.out _ hs2
    have hcz := HCA.out _ hst0
    clear hW0 hz0 c0 c1 f1 hbw
    generalize nd 2 a = bl at *
    have HSL2 : Hid (∀ dv W, St1 W0 (.slice ao (nd 4294967296 a) ac) a W → D W dv 1 → Calls Tryd.prog 35 #[dv, .int .i64 (IntKind.i64.wrap ((IntKind.i64.wrap ((bl : Int) + 1)).tdiv 2))] W fun e w' => ∃ o l c, e = .returned (.slice o l c) ∧ D w' (.slice o l c) (1 * 2 ^ ((bl + 1) / 2)) ∧ St1 W0 (.slice ao (nd 4294967296 a) ac) a w') := fun dv W h hd => by
      have h1 := HSL.out dv W hd
      rw [show (((bl + 1) / 2 : Nat) : Int) = IntKind.i64.wrap ((IntKind.i64.wrap ((bl : Int) + 1)).tdiv 2) from by rw [IntWalk.i64_in ((bl : Int) + 1) (by omega), Int.tdiv_eq_ediv_of_nonneg (by omega), IntWalk.i64_in _ (by omega)]; omega] at h1
      exact h1.mono fun e w' ⟨r, he, hr, hB⟩ => by
        obtain ⟨ro, rc, rfl, -⟩ := hr.shape
        exact ⟨ro, _, rc, he, hr, h.next hB⟩
    clear HSL
    generalize 1 * 2 ^ ((bl + 1) / 2) = r0 at *
    go_wp2_with fail
    go_region_held3 (fun W : World => W.cell? ⟨w.heap.size, 0, none⟩ = some (.slice ao (nd 4294967296 a) ac) ∧ St1 W0 (.slice ao (nd 4294967296 a) ac) a W) (first | (refine And.intro ?_ ?_ <;> assumption)) (first
      | (go_at_call 37; with_reducible refine (HD1.out _ ?h).mono ?_; (case h => assumption); rintro e w' ⟨o1, l1, k1, rfl, hr', hs'⟩; have hc' := HCA.out _ hs')
      | (go_at_call 34; with_reducible refine (HBL.out _ ?h).mono ?_; (case h => exact St1.num (by assumption)); rintro e w' ⟨rfl, rfl⟩)
      | (go_at_call 35; with_reducible refine (HSL2.out _ _ ?h ?r).mono ?_; (case h => assumption); (case r => first | assumption | exact dchain (by assumption) (by assumption)); rintro e w' ⟨o2, l2, k2, rfl, hr', hs'⟩; have hc' := HCA.out _ hs'))
    all_goals
      have hroot : D w' (.slice o2 l2 k2) r0 := by assumption
      have hst : St1 W0 (.slice ao (nd 4294967296 a) ac) a w' := by assumption
      have HRT := Lib.hid hroot; have HSS := Lib.hid hst
      clear hroot hst
      go_wp2
      go_loopg [3] r0 (fun n x wr => 0 < n ∧ n < M ∧ Hid (a < (n + 1) * (n + 1)) ∧ D wr x n ∧ St1 W0 (.slice ao (nd 4294967296 a) ac) a wr)
      case atStart => exact ⟨HR0.out, HRM.out, HST.out, HRT.out, HSS.out⟩
      case round =>
        obtain ⟨hn, hnM, HA, hx, hst⟩ := hrel
        obtain ⟨xo, xc, rfl, -⟩ := hx.shape
        have HX := Lib.hid hx
        have hca := HCA.out _ hst
        have HS := Lib.hid hst
        have HQ := Lib.hid (quotient_any HDV.out _ _ a gk wr hst.num hx hn HAM.out hnM)
        have HNW := Lib.hid (newton hn ha0)
        have hng := HNM.out _ hnM
        have hnq : nd 4294967296 (a / gk) ≤ 200000 := Nat.le_trans (nd_mono (by decide) (Nat.div_le_self _ _)) ha
        have HNN := Lib.hid (HNM.out)
        clear hx hst
        generalize a / gk = q at *
        have hsum := nd_add hng (Nat.le_trans hnq (by decide))
        go_wp2_with fail
        refine HQ.out.mono ?_
        rintro e w2 ⟨qv, rfl, hq, hb⟩
        have HS2 := Lib.hid (HS.out.next hb)
        have HX2 := Lib.hid (HX.out.below hb)
        have HSUM := Lib.hid (sum_any _ qv gk q w2 HX2.out hq (by omega) (by omega))
        clear hq hb hca
        go_wp2_with fail
        refine HSUM.out.mono ?_
        rintro e w3 ⟨sv, rfl, hs3, hb⟩
        have HS3 := Lib.hid (HS2.out.next hb)
        have HX3 := Lib.hid (HX2.out.below hb)
        have HSH := Lib.hid (shiftRight_any sv (gk + q) 1 w3 hs3 (by omega) (by decide))
        rw [Nat.pow_one] at HSH
        clear hs3 hb
        go_wp2_with fail
        refine HSH.out.mono ?_
        rintro e w4 ⟨nv, rfl, hn4, hb⟩
        have HS4 := Lib.hid (HS3.out.next hb)
        have HX4 := Lib.hid (HX3.out.below hb)
        have HN4 := Lib.hid hn4
        have hnh : nd 4294967296 ((gk + q) / 2) ≤ 1048576 := Nat.le_trans (nd_mono (by decide) (Nat.div_le_self _ _)) (by omega)
        have HCM := Lib.hid (compare_any nv _ ((gk + q) / 2) gk w4 hn4 HX4.out hnh (by omega))
        clear hn4 hb hnh hsum
        generalize (gk + q) / 2 = nx at *
        by_cases hle : gk ≤ nx
        · have hcm : (0 : Int) ≤ cmpN ((nx : Nat) : Int) ((gk : Nat) : Int) := by
            rcases Nat.lt_or_eq_of_le hle with h | h
            · rw [cmpN_gt (by omega)]; decide
            · rw [cmpN_eq (by omega)]; decide
          have HSQ : Hid (gk * gk ≤ a) := HNW.out.2.2 hle
          clear hle
          generalize cmpN ((nx : Nat) : Int) ((gk : Nat) : Int) = cc at *
          go_wp2_with fail
          refine HCM.out.mono ?_
          rintro e w5 ⟨rfl, k, rfl⟩
          have hs5 := HS4.out.next (below_drewN (Below.refl _ w4) k)
          have hcell := HC1.out _ hs5
          have hfr := HF1.out _ hs5
          have HX5 := Lib.hid (HX4.out.below (below_drewN (Below.refl _ w4) k))
          have HCE := Lib.hid hcell
          have HBE := Lib.hid (HBW.out.trans (hs5.bel.mono HBW.out.size))
          clear hs5
          go_wp2
          refine bodyPost_ret (v := .agg #[.slice xo (nd 4294967296 gk) xc]) (by simp [results, Tryd.results13, go_sem, hcell]) rfl ⟨_, gk, rfl, HX5.out.setCell HCE.out (by intro d h; cases h) _, HSQ.out, HA.out, HBE.out.setCell (by show w.heap.size ≤ w.heap.size + 1; omega) _⟩
        · have hcm : cmpN ((nx : Nat) : Int) ((gk : Nat) : Int) < (0 : Int) := by rw [cmpN_lt (by omega)]; decide
          have HLT : Hid (nx < gk) := by show _ < _; omega
          clear hle
          generalize cmpN ((nx : Nat) : Int) ((gk : Nat) : Int) = cc at *
          go_wp2_with fail
          refine HCM.out.mono ?_
          rintro e w5 ⟨rfl, k, rfl⟩
          have HS5 := Lib.hid (HS4.out.next (below_drewN (Below.refl _ w4) k))
          have HN5 := Lib.hid (HN4.out.below (below_drewN (Below.refl _ w4) k))
          go_wp2
          go_roundg nx
          case measure => exact HLT.out
          case rel => exact ⟨HNW.out.1, by have := HLT.out; omega, HNW.out.2.1, HN5.out, HS5.out⟩
end Go.Proofs.YthafnhjnlfpifaaDoor
namespace Go.Proofs.YthafnhjnlfpifaaDoor
open Go Go.RowKit Gu

/-- the denominator that b stands for -/
def dn (b : Nat) : Nat := if b = 0 then 1 else b
theorem dn_pos (b : Nat) : 0 < dn b := by unfold dn; split <;> omega
theorem dn_of {b : Nat} (h : 0 < b) : dn b = b := if_neg (by omega)
theorem dn_nd {b m : Nat} (h : nd 4294967296 b ≤ m) (hm : 1 ≤ m) : nd 4294967296 (dn b) ≤ m := by
  unfold dn
  split
  · exact Nat.le_trans (nd_small (by decide)) hm
  · exact h
set_option maxHeartbeats 1000000 in
theorem terms_zero (v u : Value) (a : Nat) (w : World) (hv : D w v a) (hu : D w u 0) :
    Calls Tryd.prog 42 #[.agg #[v, u]] w fun e w' => ∃ r, e = .returned (.tuple #[v, r]) ∧ D w' r 1 ∧ Below w.heap.size w w' := by
  have b1 : ∀ o, Below w.heap.size w (w.alloc o) := fun o => (Below.refl _ _).alloc (Nat.le_refl _) _
  obtain ⟨W0, hW0⟩ : ∃ W0 : World, W0 = w.alloc (.cells #[v, u] 43) := ⟨_, rfl⟩
  have hz0 : W0.heap.size = w.heap.size + 1 := by rw [hW0]; simp
  have hbw : Below w.heap.size w W0 := by rw [hW0]; exact b1 _
  have hst0 : St1 W0 v a W0 := ⟨hv.below hbw, Below.refl _ _⟩
  have c0 : W0.cell? ⟨w.heap.size, 0, none⟩ = some v := by rw [hW0]; exact World.cell?_alloc_at _ _ _ _ rfl
  have HCA : Hid (∀ W, St1 W0 v a W → W.cell? ⟨w.heap.size, 0, none⟩ = some v) := fun W h => h.cell (by omega) c0
  have HZ := Lib.hid (isZero_any u 0 W0 (hu.below hbw))
  rw [show decide ((0 : Nat) = 0) = true from rfl] at HZ
  have HD1 : Hid (∀ W, St1 W0 v a W → Calls Tryd.prog 37 #[.int .u64 1] W fun e w' => ∃ r, e = .returned r ∧ D w' r 1 ∧ St1 W0 v a w') := fun W h =>
    (digitsOf_any 1 W (by decide)).mono fun e w' ⟨r, he, hr, hB⟩ => ⟨r, he, hr, h.next hB⟩
  have HBW := Lib.hid hbw
  have HW0 := Lib.hid hW0
  obtain ⟨ao, ac, rfl, -⟩ := hv.shape
  obtain ⟨bo, bc, rfl, -⟩ := hu.shape
  have hs2 := hst0.next ((Below.refl _ W0).drew)
  have hc2 := HCA.out _ hs2
  have hc0 := HCA.out _ hst0
  clear hv hu b1 hz0 hbw c0 hW0
  go_enter Tryd.func42, Tryd.ntmps42
  go_wp2_with fail
  rw [← HW0.out]
  refine HZ.out.mono ?_
  rintro e w1 ⟨rfl, rfl⟩
  go_wp2_with fail
  go_region_held3 (fun W : World => W.cell? ⟨w.heap.size, 0, none⟩ = some (.slice ao (nd 4294967296 a) ac) ∧ St1 W0 (.slice ao (nd 4294967296 a) ac) a W) (first | (refine And.intro ?_ ?_ <;> assumption)) (first
    | (go_at_call 37; with_reducible refine (HD1.out _ ?h).mono ?_; (case h => assumption); rintro e w' ⟨o1, rfl, hr', hs'⟩; have hc' := HCA.out _ hs'))
  all_goals
    have hD : D w' o1 1 := by assumption
    have hT : St1 W0 (.slice ao (nd 4294967296 a) ac) a w' := by assumption
    have HDD := Lib.hid hD
    have HBE := Lib.hid (HBW.out.trans (hT.bel.mono HBW.out.size))
    clear hD hT
    go_wp2
    go_ret2
    exact ⟨_, rfl, HDD.out, HBE.out⟩
theorem terms_any (v u : Value) (a b : Nat) (w : World) (hv : D w v a) (hu : D w u b) :
    Calls Tryd.prog 42 #[.agg #[v, u]] w fun e w' => ∃ r, e = .returned (.tuple #[v, r]) ∧ D w' r (dn b) ∧ Below w.heap.size w w' := by
  rcases Nat.eq_zero_or_pos b with h | h
  · subst h
    rw [show dn 0 = 1 from rfl]
    exact terms_zero v u a w hv hu
  · rw [dn_of h]
    exact (terms_pos v u a b w hv hu h).mono fun e w' ⟨he, hB⟩ => ⟨u, he, hu.below hB, hB⟩
/-- the text of a fraction -/
def fracText (a b : Nat) : List UInt8 := if b = 1 then Lib.decDigits a else Lib.decDigits a ++ 47 :: Lib.decDigits b
set_option maxHeartbeats 1000000 in
theorem FracString_one (v u : Value) (a b : Nat) (w : World) (hv : D w v a) (hu : D w u b) (hb : dn b = 1) (ha : nd 4294967296 a ≤ 100000) (he : Env w) :
    Calls Tryd.prog 48 #[.agg #[v, u]] w fun e w' => e = .returned (.string ⟨(Lib.decDigits a).toArray⟩) ∧ Below w.heap.size w w' := by
  have b1 : ∀ o, Below w.heap.size w (w.alloc o) := fun o => (Below.refl _ _).alloc (Nat.le_refl _) _
  have HT := Lib.hid (fun o => terms_any v u a b (w.alloc o) (hv.below (b1 o)) (hu.below (b1 o)))
  rw [hb] at HT
  have HO := Lib.hid (fun r w' (h : D w' r 1) => isOne_any r 1 w' h)
  rw [show decide ((1 : Nat) = 1) = true from rfl] at HO
  have HSA := Lib.hid (fun o w' (h : Below (w.alloc o).heap.size (w.alloc o) w') => String_any v a w' ((hv.below (b1 o)).below h) ha ((he.below (b1 o)).below h))
  have HB1 := Lib.hid b1
  obtain ⟨Sa, hSa⟩ : ∃ Sa : ByteArray, Sa = ⟨(Lib.decDigits a).toArray⟩ := ⟨_, rfl⟩
  rw [← hSa] at HSA ⊢
  obtain ⟨ao, ac, rfl, -⟩ := hv.shape
  obtain ⟨bo, bc, rfl, -⟩ := hu.shape
  clear hv hu b1 he hSa hb
  go_enter Tryd.func48, Tryd.ntmps48
  go_wp2_with fail
  refine (HT.out _).mono ?_
  rintro e w1 ⟨r, rfl, hr, hb1⟩
  have HB2 := Lib.hid hb1; have HR := Lib.hid hr; clear hb1 hr
  go_wp2_with fail
  refine (HO.out _ _ HR.out).mono ?_
  rintro e w2 ⟨rfl, rfl⟩
  go_wp2_with fail
  refine (HSA.out _ _ HB2.out).mono ?_
  rintro e w2 ⟨rfl, hb2⟩
  have HB3 := Lib.hid ((HB1.out _).trans ((HB2.out.trans (hb2.mono HB2.out.size)).mono (by simp))); clear hb2
  go_wp2
  go_ret
  exact ⟨rfl, HB3.out⟩
theorem FracString_any (v u : Value) (a b : Nat) (w : World) (hv : D w v a) (hu : D w u b) (ha : nd 4294967296 a ≤ 100000) (hb2 : nd 4294967296 b ≤ 100000) (he : Env w) :
    Calls Tryd.prog 48 #[.agg #[v, u]] w fun e w' => e = .returned (.string ⟨(fracText a (dn b)).toArray⟩) ∧ Below w.heap.size w w' := by
  unfold fracText
  by_cases h : dn b = 1
  · rw [if_pos h]
    exact FracString_one v u a b w hv hu h ha he
  · rw [if_neg h]
    have h1 : 1 < b := by
      unfold dn at h
      split at h <;> omega
    rw [dn_of (by omega)]
    exact FracString_two v u a b w hv hu h1 ha hb2 he
set_option maxHeartbeats 1000000 in
theorem FNum_any (v u : Value) (a b : Nat) (w : World) (hv : D w v a) (hu : D w u b) (ha : nd 4294967296 a ≤ 1048576) :
    Calls Tryd.prog 16 #[.agg #[v, u]] w fun e w' => ∃ r, e = .returned (.agg #[r]) ∧ D w' r a ∧ Below w.heap.size w w' := by
  have b2 : ∀ o1 o2, Below w.heap.size w ((w.alloc o1).alloc o2) := fun o1 o2 => ((Below.refl _ _).alloc (Nat.le_refl _) _).alloc (by simp) _
  have HT := Lib.hid (fun o1 o2 => terms_any v u a b ((w.alloc o1).alloc o2) (hv.below (b2 o1 o2)) (hu.below (b2 o1 o2)))
  have HC := Lib.hid (fun o1 o2 w' (h : Below ((w.alloc o1).alloc o2).heap.size ((w.alloc o1).alloc o2) w') => clone_any v a w' ((hv.below (b2 o1 o2)).below h) ha)
  have HB := Lib.hid b2
  obtain ⟨ao, ac, rfl, -⟩ := hv.shape
  obtain ⟨bo, bc, rfl, -⟩ := hu.shape
  clear hv hu b2
  go_enter Tryd.func16, Tryd.ntmps16
  go_wp2_with fail
  refine (HT.out _ _).mono ?_
  rintro e w1 ⟨r, rfl, -, hb1⟩
  have HB1 := Lib.hid hb1
  go_wp2_with fail
  refine (HC.out _ _ _ HB1.out).mono ?_
  rintro e w2 ⟨x, rfl, hx, hb2⟩
  obtain ⟨xo, xc, rfl, -⟩ := hx.shape
  have hb3 := HB1.out.trans (hb2.mono HB1.out.size)
  have hcell : w2.cell? ⟨w.heap.size + 1, 0, none⟩ = some (.slice none 0 0) := (hb3.cell (p := ⟨w.heap.size + 1, 0, none⟩) (by simp)).trans (World.cell?_alloc_at _ _ _ _ (by simp))
  have hfr : w2.frozen? ⟨w.heap.size + 1, 0, none⟩ = false := (hb3.frozen (p := ⟨w.heap.size + 1, 0, none⟩) (by simp)).trans (World.frozen?_alloc_at _ _ _ _ (by simp))
  have HX := Lib.hid hx; have HCE := Lib.hid hcell
  have HBE := Lib.hid ((HB.out _ _).trans (hb3.mono (HB.out _ _).size))
  clear hx hb1 hb2 hb3
  go_wp2
  refine bodyPost_ret (v := .agg #[.slice xo (nd 4294967296 a) xc]) (by simp [results, Tryd.results16, go_sem, hcell]) rfl ⟨_, rfl, HX.out.setCell HCE.out (by intro d h; cases h) _, HBE.out.setCell (by show w.heap.size ≤ w.heap.size + 1; omega) _⟩
end Go.Proofs.YthafnhjnlfpifaaDoor
namespace Go.Proofs.YthafnhjnlfpifaaDoor
open Go Go.RowKit Gu

def ffE (P Q : Nat) : Int := if nd 2 P ≤ 16384 ∧ nd 2 Q ≤ 16384 then 0 else 3
def ffN (P Q x : Nat) : Nat := if nd 2 P ≤ 16384 ∧ nd 2 Q ≤ 16384 then x else 0
/-- in lowest terms -/
def lowP (a b : Nat) : Nat := a / Nat.gcd a b
def lowQ (a b : Nat) : Nat := b / Nat.gcd a b
set_option maxHeartbeats 1000000 in
theorem crossed_any (v u x y : Value) (a b c d : Nat) (w : World) (hv : D w v a) (hu : D w u b) (hx : D w x c) (hy : D w y d) (ha : nd 4294967296 a ≤ 100000) (hb : nd 4294967296 b ≤ 100000) (hc : nd 4294967296 c ≤ 100000) (hd : nd 4294967296 d ≤ 100000) :
    Calls Tryd.prog 43 #[.agg #[v, u], .agg #[x, y]] w fun e w' => ∃ r1 r2 r3, e = .returned (.tuple #[r1, r2, r3]) ∧ D w' r1 (a * dn d) ∧ D w' r2 (c * dn b) ∧ D w' r3 (dn b * dn d) ∧ Below w.heap.size w w' := by
  have b2 : ∀ o1 o2, Below w.heap.size w ((w.alloc o1).alloc o2) := fun o1 o2 => ((Below.refl _ _).alloc (Nat.le_refl _) _).alloc (by simp) _
  have hdb := dn_nd hb (by decide)
  have hdd := dn_nd hd (by decide)
  have HT1 := Lib.hid (fun o1 o2 => terms_any v u a b ((w.alloc o1).alloc o2) (hv.below (b2 o1 o2)) (hu.below (b2 o1 o2)))
  have HT2 := Lib.hid (fun o1 o2 w' (h : Below ((w.alloc o1).alloc o2).heap.size ((w.alloc o1).alloc o2) w') => terms_any x y c d w' ((hx.below (b2 o1 o2)).below h) ((hy.below (b2 o1 o2)).below h))
  have HA := Lib.hid (fun o1 o2 => hv.below (b2 o1 o2))
  have HC := Lib.hid (fun o1 o2 => hx.below (b2 o1 o2))
  have HB := Lib.hid b2
  obtain ⟨ao, ac, rfl, -⟩ := hv.shape
  obtain ⟨bo, bc, rfl, -⟩ := hu.shape
  obtain ⟨co, cc, rfl, -⟩ := hx.shape
  obtain ⟨eo, ec, rfl, -⟩ := hy.shape
  clear hv hu hx hy b2
  generalize dn b = B at *
  generalize dn d = E at *
  go_enter Tryd.func43, Tryd.ntmps43
  go_wp2_with fail
  refine (HT1.out _ _).mono ?_
  rintro e w1 ⟨r, rfl, hr, hb1⟩
  obtain ⟨ro, rc, rfl, -⟩ := hr.shape
  have HB1 := Lib.hid hb1; have HR := Lib.hid hr
  have e0 : w1.cell? ⟨w.heap.size + 1, 0, none⟩ = some (.slice co (nd 4294967296 c) cc) := (hb1.cell (p := ⟨w.heap.size + 1, 0, none⟩) (by simp)).trans (World.cell?_alloc_at _ _ _ _ (by simp))
  have e1 : w1.cell? ⟨w.heap.size + 1, 1, none⟩ = some (.slice eo (nd 4294967296 d) ec) := (hb1.cell (p := ⟨w.heap.size + 1, 1, none⟩) (by simp)).trans (World.cell?_alloc_at _ _ _ _ (by simp))
  clear hr hb1
  go_wp2_with fail
  refine (HT2.out _ _ _ HB1.out).mono ?_
  rintro e w2 ⟨s, rfl, hs, hb2⟩
  obtain ⟨so, sc, rfl, -⟩ := hs.shape
  have HB2 := Lib.hid (HB1.out.trans (hb2.mono HB1.out.size)); have HS := Lib.hid hs; have HR2 := Lib.hid (HR.out.below hb2)
  clear hs hb2 HR e0 e1
  have HA2 := Lib.hid ((HA.out _ _).below HB2.out)
  have HC2 := Lib.hid ((HC.out _ _).below HB2.out)
  have HP1 := Lib.hid (product_any _ _ a E w2 HA2.out HS.out (by omega) (by omega))
  go_wp2_with fail
  refine HP1.out.mono ?_
  rintro e w3 ⟨p1, rfl, hp1, hb3⟩
  have HB3 := Lib.hid (HB2.out.trans (hb3.mono HB2.out.size)); have HQ1 := Lib.hid hp1; have HR3 := Lib.hid (HR2.out.below hb3); have HS3 := Lib.hid (HS.out.below hb3); have HC3 := Lib.hid (HC2.out.below hb3)
  clear hp1 hb3
  have HP2 := Lib.hid (product_any _ _ c B w3 HC3.out HR3.out (by omega) (by omega))
  go_wp2_with fail
  refine HP2.out.mono ?_
  rintro e w4 ⟨p2, rfl, hp2, hb4⟩
  have HB4 := Lib.hid (HB3.out.trans (hb4.mono HB3.out.size)); have HQ2 := Lib.hid hp2; have HQ1' := Lib.hid (HQ1.out.below hb4); have HR4 := Lib.hid (HR3.out.below hb4); have HS4 := Lib.hid (HS3.out.below hb4)
  clear hp2 hb4
  have HP3 := Lib.hid (product_any _ _ B E w4 HR4.out HS4.out (by omega) (by omega))
  go_wp2_with fail
  refine HP3.out.mono ?_
  rintro e w5 ⟨p3, rfl, hp3, hb5⟩
  have HB5 := Lib.hid ((HB.out _ _).trans ((HB4.out.trans (hb5.mono HB4.out.size)).mono (HB.out _ _).size)); have HQ3 := Lib.hid hp3; have HX1 := Lib.hid (HQ1'.out.below hb5); have HX2 := Lib.hid (HQ2.out.below hb5)
  clear hp3 hb5
  go_wp2
  refine bodyPost_ret (v := .tuple #[p1, p2, p3]) (by simp [results, Tryd.results43, go_sem]) rfl ⟨_, _, _, rfl, HX1.out, HX2.out, HQ3.out, HB5.out⟩
/-- what the end of a function with a result of two cells reads, where a box was made before -/
theorem fit_end {w w1 : World} {B : Nat} (d0 : w1.cell? ⟨B, 0, none⟩ = some (.slice none 0 0)) (d1 : w1.cell? ⟨B, 1, none⟩ = some (.slice none 0 0)) (hb : Below w.heap.size w w1) (hB : w.heap.size ≤ B) (hlt : B < w1.heap.size) (x y : Value) (o : Obj) :
    (((w1.setCell ⟨B, 0, none⟩ x).setCell ⟨B, 1, none⟩ y).alloc o).cell? ⟨B, 0, none⟩ = some x ∧ (((w1.setCell ⟨B, 0, none⟩ x).setCell ⟨B, 1, none⟩ y).alloc o).cell? ⟨B, 1, none⟩ = some y ∧ Below w.heap.size w (((w1.setCell ⟨B, 0, none⟩ x).setCell ⟨B, 1, none⟩ y).alloc o) := by
  obtain ⟨t0, t1⟩ := read_two d0 d1 x y
  have hl : B < ((w1.setCell ⟨B, 0, none⟩ x).setCell ⟨B, 1, none⟩ y).heap.size := by rw [World.size_setCell, World.size_setCell]; exact hlt
  exact ⟨(World.cell?_alloc_past _ _ _ hl).trans t0, (World.cell?_alloc_past _ _ _ hl).trans t1, ((hb.setCell hB _).setCell hB _).alloc (Nat.le_of_lt (Nat.lt_of_le_of_lt hB hl)) _⟩
set_option maxHeartbeats 2000000 in
theorem fittingFrac_any (v u : Value) (a b : Nat) (w : World) (hv : D w v a) (hu : D w u b) (hb : 0 < b) (ha : nd 4294967296 a ≤ 300000) (hbn : nd 4294967296 b ≤ 300000) :
    Calls Tryd.prog 44 #[v, u] w fun e w' => ∃ r s, e = .returned (.tuple #[.agg #[r, s], .int .i64 (ffE (lowP a b) (lowQ a b))]) ∧ D w' r (ffN (lowP a b) (lowQ a b) (lowP a b)) ∧ D w' s (ffN (lowP a b) (lowQ a b) (lowQ a b)) ∧ Below w.heap.size w w' := by
  have b1 : ∀ o, Below w.heap.size w (w.alloc o) := fun o => (Below.refl _ _).alloc (Nat.le_refl _) _
  obtain ⟨N, hN⟩ : ∃ N, N = 300000 := ⟨_, rfl⟩
  have HDV := Lib.hid (divide_long N (by omega))
  have HL := Lib.hid (fun o => lowest_any HDV.out v u a b (w.alloc o) (hv.below (b1 o)) (hu.below (b1 o)) hb ((nd_le (by decide)).1 (by omega)) ((nd_le (by decide)).1 (by omega)))
  have hP : nd 4294967296 (lowP a b) ≤ 1048576 := Nat.le_trans (nd_mono (by decide) (Nat.div_le_self _ _)) (by omega)
  have hQ : nd 4294967296 (lowQ a b) ≤ 1048576 := Nat.le_trans (nd_mono (by decide) (Nat.div_le_self _ _)) (by omega)
  rw [show a / Nat.gcd a b = lowP a b from rfl, show b / Nat.gcd a b = lowQ a b from rfl] at HL
  have HB := Lib.hid b1
  obtain ⟨ao, ac, rfl, -⟩ := hv.shape
  obtain ⟨bo, bc, rfl, -⟩ := hu.shape
  clear hv hu b1 hN HDV hb ha hbn
  generalize lowP a b = P at *
  generalize lowQ a b = Q at *
  have hcase : (nd 2 P ≤ 16384 ∧ nd 2 Q ≤ 16384 ∧ ffE P Q = 0 ∧ (∀ x, ffN P Q x = x)) ∨ (16384 < nd 2 P ∧ ffE P Q = 3 ∧ (∀ x, ffN P Q x = 0)) ∨ (nd 2 P ≤ 16384 ∧ 16384 < nd 2 Q ∧ ffE P Q = 3 ∧ (∀ x, ffN P Q x = 0)) := by
    by_cases h1 : nd 2 P ≤ 16384
    · by_cases h2 : nd 2 Q ≤ 16384
      · exact .inl ⟨h1, h2, if_pos ⟨h1, h2⟩, fun x => if_pos ⟨h1, h2⟩⟩
      · exact .inr (.inr ⟨h1, by omega, if_neg (fun h => h2 h.2), fun x => if_neg (fun h => h2 h.2)⟩)
    · exact .inr (.inl ⟨by omega, if_neg (fun h => h1 h.1), fun x => if_neg (fun h => h1 h.1)⟩)
  have hres : Hid ((∃ x y, x = ffN P Q P ∧ y = ffN P Q Q)) := ⟨_, _, rfl, rfl⟩
  go_enter Tryd.func44, Tryd.ntmps44
  go_wp2_with fail
  refine (HL.out _).mono ?_
  rintro e w1 ⟨r, s, rfl, hr, hs, hb1⟩
  obtain ⟨ro, rc, rfl, -⟩ := hr.shape
  obtain ⟨so, sc, rfl, -⟩ := hs.shape
  have hz := hb1.size
  simp only [World.size_alloc] at hz
  have hlt : w.heap.size < w1.heap.size := by omega
  have HLT := Lib.hid hlt
  have d0 : w1.cell? ⟨w.heap.size, 0, none⟩ = some (.slice none 0 0) := (hb1.cell (p := ⟨w.heap.size, 0, none⟩) (by simp)).trans (World.cell?_alloc_at _ _ _ _ rfl)
  have d1 : w1.cell? ⟨w.heap.size, 1, none⟩ = some (.slice none 0 0) := (hb1.cell (p := ⟨w.heap.size, 1, none⟩) (by simp)).trans (World.cell?_alloc_at _ _ _ _ rfl)
  have g0 : w1.frozen? ⟨w.heap.size, 0, none⟩ = false := (hb1.frozen (p := ⟨w.heap.size, 0, none⟩) (by simp)).trans (World.frozen?_alloc_at _ _ _ _ rfl)
  have g1 : w1.frozen? ⟨w.heap.size, 1, none⟩ = false := (hb1.frozen (p := ⟨w.heap.size, 1, none⟩) (by simp)).trans (World.frozen?_alloc_at _ _ _ _ rfl)
  have HR := Lib.hid hr; have HS := Lib.hid hs
  have HBW := Lib.hid ((HB.out (.cells #[.slice none 0 0, .slice none 0 0] 43)).trans (hb1.mono (by simp)))
  have HD0 := Lib.hid d0; have HD1 := Lib.hid d1
  have ba : ∀ o, Below w1.heap.size w1 (w1.alloc o) := fun o => (Below.refl _ _).alloc (Nat.le_refl _) _
  have HBP := Lib.hid (fun o => bitLen_any _ P (w1.alloc o) (hr.below (ba o)) hP)
  have HBQ := Lib.hid (fun o => bitLen_any _ Q (w1.alloc o) (hs.below (ba o)) hQ)
  have HC := Lib.hid hcase
  clear hr hs hb1 ba hcase hP hQ
  rcases HC.out with ⟨q1, q2, q3, q4⟩ | ⟨q1, q3, q4⟩ | ⟨q1, q2, q3, q4⟩
  · have Q3 := Lib.hid q3; have Q4 := Lib.hid q4
    clear q3 q4
    generalize nd 2 P = bp at *
    generalize nd 2 Q = bq at *
    go_wp2_with fail
    refine (HBP.out _).mono ?_
    rintro e w2 ⟨rfl, rfl⟩
    go_wp2_with fail
    refine (HBQ.out _).mono ?_
    rintro e w2 ⟨rfl, rfl⟩
    go_wp2
    obtain ⟨t0, t1⟩ := fit_end (w := w) (B := w.heap.size) HD0.out HD1.out HBW.out (Nat.le_refl _) HLT.out (.slice ro (nd 4294967296 P) rc) (.slice so (nd 4294967296 Q) sc) (.cells #[.slice ro (nd 4294967296 P) rc, .slice so (nd 4294967296 Q) sc] 43)
    refine bodyPost_ret (v := .tuple #[.agg #[.slice ro (nd 4294967296 P) rc, .slice so (nd 4294967296 Q) sc], .int .i64 0]) (by simp [results, Tryd.results44, go_sem, t0, t1.1]) rfl
      ⟨_, _, by rw [Q3.out], by rw [Q4.out]; exact ((IsN_setTwo HR.out HD0.out HD1.out (by intro d h; cases h) (by intro d h; cases h) _ _).below ((Below.refl _ _).alloc (Nat.le_refl _) _)), by rw [Q4.out]; exact ((IsN_setTwo HS.out HD0.out HD1.out (by intro d h; cases h) (by intro d h; cases h) _ _).below ((Below.refl _ _).alloc (Nat.le_refl _) _)), t1.2⟩
  · have Q3 := Lib.hid q3; have Q4 := Lib.hid q4
    clear q3 q4
    generalize nd 2 P = bp at *
    go_wp2_with fail
    refine (HBP.out _).mono ?_
    rintro e w2 ⟨rfl, rfl⟩
    go_wp2
    obtain ⟨t0, t1⟩ := fit_end (w := w) (B := w.heap.size) HD0.out HD1.out HBW.out (Nat.le_refl _) HLT.out (.slice none 0 0) (.slice none 0 0) (.cells #[.slice ro (nd 4294967296 P) rc, .slice so (nd 4294967296 Q) sc] 43)
    refine bodyPost_ret (v := .tuple #[.agg #[.slice none 0 0, .slice none 0 0], .int .i64 3]) (by simp [results, Tryd.results44, go_sem, t0, t1.1]) rfl
      ⟨_, _, by rw [Q3.out], by rw [Q4.out]; exact IsN.zero _ _ _ _ _, by rw [Q4.out]; exact IsN.zero _ _ _ _ _, t1.2⟩
  · have Q3 := Lib.hid q3; have Q4 := Lib.hid q4
    clear q3 q4
    generalize nd 2 P = bp at *
    generalize nd 2 Q = bq at *
    go_wp2_with fail
    refine (HBP.out _).mono ?_
    rintro e w2 ⟨rfl, rfl⟩
    go_wp2_with fail
    refine (HBQ.out _).mono ?_
    rintro e w2 ⟨rfl, rfl⟩
    go_wp2
    obtain ⟨t0, t1⟩ := fit_end (w := w) (B := w.heap.size) HD0.out HD1.out HBW.out (Nat.le_refl _) HLT.out (.slice none 0 0) (.slice none 0 0) (.cells #[.slice ro (nd 4294967296 P) rc, .slice so (nd 4294967296 Q) sc] 43)
    refine bodyPost_ret (v := .tuple #[.agg #[.slice none 0 0, .slice none 0 0], .int .i64 3]) (by simp [results, Tryd.results44, go_sem, t0, t1.1]) rfl
      ⟨_, _, by rw [Q3.out], by rw [Q4.out]; exact IsN.zero _ _ _ _ _, by rw [Q4.out]; exact IsN.zero _ _ _ _ _, t1.2⟩
/-- a function's result of two cells in the block B, filled by what a call gave -/
theorem two_store {w W' : World} {B P Q : Nat} {ro so : Option Addr} {rc sc : Nat} (hr : D W' (.slice ro (nd 4294967296 P) rc) P) (hs : D W' (.slice so (nd 4294967296 Q) sc) Q)
    (d0 : W'.cell? ⟨B, 0, none⟩ = some (.slice none 0 0)) (d1 : W'.cell? ⟨B, 1, none⟩ = some (.slice none 0 0)) (hb : Below w.heap.size w W') (hB : w.heap.size ≤ B) :
    let W2 := (W'.setCell ⟨B, 0, none⟩ (.slice ro (nd 4294967296 P) rc)).setCell ⟨B, 1, none⟩ (.slice so (nd 4294967296 Q) sc)
    D W2 (.slice ro (nd 4294967296 P) rc) P ∧ D W2 (.slice so (nd 4294967296 Q) sc) Q ∧ W2.cell? ⟨B, 0, none⟩ = some (.slice ro (nd 4294967296 P) rc) ∧ W2.cell? ⟨B, 1, none⟩ = some (.slice so (nd 4294967296 Q) sc) ∧ Below w.heap.size w W2 := by
  obtain ⟨t0, t1⟩ := read_two d0 d1 (.slice ro (nd 4294967296 P) rc) (.slice so (nd 4294967296 Q) sc)
  exact ⟨IsN_setTwo hr d0 d1 (by intro d h; cases h) (by intro d h; cases h) _ _, IsN_setTwo hs d0 d1 (by intro d h; cases h) (by intro d h; cases h) _ _, t0, t1, (hb.setCell hB _).setCell hB _⟩
end Go.Proofs.YthafnhjnlfpifaaDoor
