/- The contract of the document's own function on numbers that writes the numeral: Text. -/
import Derived.Test.YtcmancfdlfhgbaaGreatDoorRc
import Derived.Laws.BytesArg
namespace Go.Proofs.YtcmancfdlfhgbaaGreatDoor
open Go Go.RowKit Gu

theorem Tryz.infoU8 : (Tryz.prog.info? 5).map (fun i => (i.zero, i.size, i.bytes)) = some (some (.int .u8 0), 1, 1) := by kernel_rfl
/-- an own row whose elements are one cell wide, by the index -/
theorem row_of_own {w : World} {base : Nat} {T : TypeId} {v : Value} {n : Nat} {xs : List Value} (h : w.ownsRow base T 1 v n xs) (hn : 0 < n) :
    ∃ g cap f, v = .slice (some ⟨g, 0, none⟩) n cap ∧ base ≤ g ∧ n ≤ cap ∧ w.rowIs g T cap f ∧ ∀ i, i < n → xs[i]? = some (f i) := by
  rcases h.2 with ⟨_, h2⟩ | ⟨g, cap, cur, hv, hb, hh, hle, hm, hs, ht⟩
  · omega
  · refine ⟨g, cap, fun i => (cur[i]?).getD (.bool false), hv, hb, hle, ⟨cur, hh, by omega, fun i hi => ?_⟩, fun i hi => ?_⟩
    · simp [Array.getElem?_eq_getElem (show i < cur.size by omega)]
    · rw [← ht, List.getElem?_take, if_pos (by omega), Array.getElem?_toList]; simp [Array.getElem?_eq_getElem (show i < cur.size by omega)]
/-- the first k decimal digits as bytes, the least first -/
def chs (n k : Nat) : List Value := (List.range k).map fun j => Value.int .u8 ((48 + dg 10 n j : Nat) : Int)
theorem chs_succ (n k : Nat) : chs n (k + 1) = chs n k ++ [Value.int .u8 ((48 + dg 10 n k : Nat) : Int)] := by
  unfold chs; rw [List.range_succ, List.map_append]; rfl
/-- a row of which i places at either end have changed sides -/
def rv {α : Type} (k i : Nat) (f : Nat → α) (p : Nat) : α := if p < k ∧ (p < i ∨ k ≤ p + i) then f (k - 1 - p) else f p
theorem rv_zero {α : Type} (k : Nat) (f : Nat → α) (p : Nat) : rv k 0 f p = f p := by unfold rv; rw [if_neg (by omega)]
theorem rv_in {α : Type} {k i p : Nat} (f : Nat → α) (h1 : i ≤ p) (h2 : p + i < k) : rv k i f p = f p := by unfold rv; rw [if_neg (by omega)]
theorem rv_all {α : Type} {k i p : Nat} (f : Nat → α) (h : k ≤ 2 * i + 1) (h1 : 2 * i ≤ k) (hp : p < k) : rv k i f p = f (k - 1 - p) := by
  unfold rv
  split
  · rfl
  · rw [show k - 1 - p = p from by omega]
theorem rv_next {α : Type} {k i j : Nat} (f : Nat → α) (hj : j + i + 1 = k) (hij : i < j) (p : Nat) :
    (if p = j then f i else if p = i then f j else rv k i f p) = rv k (i + 1) f p := by
  unfold rv
  by_cases h1 : p = j
  · rw [if_pos h1, if_pos (by omega)]; congr 1; omega
  · rw [if_neg h1]
    by_cases h2 : p = i
    · rw [if_pos h2, if_pos (by omega)]; congr 1; omega
    · rw [if_neg h2]
      by_cases h3 : p < k ∧ (p < i ∨ k ≤ p + i)
      · rw [if_pos h3, if_pos (by omega)]
      · rw [if_neg h3, if_neg (by omega)]
theorem dec_rev {n k : Nat} (h : 0 < n) (hk : nd 10 n = k) : (List.range k).map (fun p => UInt8.ofNat (48 + dg 10 n (k - 1 - p))) = Lib.decDigits n := by
  rw [dec_eq_digits h, hk]
  apply List.ext_getElem (by simp [pad])
  intro i h1 h2
  simp only [List.length_map, List.length_range] at h1
  simp only [List.getElem_map, List.getElem_range, List.getElem_reverse, pad_getElem, List.length_map, pad_length]
/-- what the first loop of Text keeps: k digits are out -/
def TxtRel (n : Nat) (w : World) (k : Nat) (av bv : Value) (wr : World) : Prop :=
  k ≤ nd 10 n ∧ R wr av (n / 10 ^ k) ∧ wr.ownsRow w.heap.size 5 1 bv k (chs n k) ∧ Below w.heap.size w wr
theorem nd_ten {n m : Nat} (h : nd 65536 n ≤ m) : nd 10 n ≤ 5 * m := by
  have h1 := (nd_le (by decide : 2 ≤ 65536)).1 h
  apply (nd_le (by decide : 2 ≤ 10)).2
  refine Nat.lt_of_lt_of_le h1 ?_
  rw [Nat.pow_mul]
  exact Nat.pow_le_pow_left (by decide) _
set_option maxHeartbeats 1000000 in
set_option maxRecDepth 100000 in
theorem Text_pos (v : Value) (n : Nat) (w : World) (hv : R w v n) (h0 : 0 < n) (hn : nd 65536 n ≤ 1000000) :
    Calls Tryz.prog 73 #[v] w fun e w' => e = .returned (.string ⟨(Lib.decDigits n).toArray⟩) ∧ Below w.heap.size w w' := by
  obtain ⟨i0, hi, hz0, hz1, hz2⟩ := info_parts Tryz.infoU8
  have HV := Lib.hid hv
  obtain ⟨ao, ac, rfl, -⟩ := hv.shape
  have hp0 : 0 < nd 65536 n := nd_pos (by decide) h0
  clear hv
  obtain ⟨L, hL⟩ : ∃ L, nd 65536 n = L + 1 := ⟨nd 65536 n - 1, by omega⟩
  rw [hL] at HV ⊢
  clear hp0 hL
  go_enter Tryz.func73, Tryz.ntmps73
  go_wp2
  go_loopg [0, 3, 4] (nd 10 n) (fun m av bv rv wr => ∃ k, ∃ r : Nat, Hid (m + k = nd 10 n) ∧ rv = .int .i64 r ∧ TxtRel n w k av bv wr)
  case atStart => exact ⟨0, 0, rfl, rfl, Nat.zero_le _, by rw [Nat.pow_zero, Nat.div_one]; exact HV.out, World.ownsRow_nil _ _ _ _, Below.refl _ _⟩
  case round =>
    obtain ⟨k, r, HK, rfl, hk, hr, hown, hbel⟩ := hrel
    have hd : nd 65536 (n / 10 ^ k) ≤ 1000000 := Nat.le_trans (nd_mono (by decide) (Nat.div_le_self _ _)) hn
    have hkb : k ≤ 5000000 := by have := nd_ten hn; omega
    have HR := Lib.hid hr
    obtain ⟨ro, rc, rfl, -⟩ := hr.shape
    clear hr
    by_cases hz : n / 10 ^ k = 0
    · have hkm : nd 10 n = k := by
        rcases Nat.lt_or_ge k (nd 10 n) with h | h
        · have h1 := nd_pow_le (by decide : 2 ≤ 10) h0
          have h2 : 10 ^ k ≤ 10 ^ (nd 10 n - 1) := Nat.pow_le_pow_right (by decide) (by omega)
          have h3 := Nat.div_pos (Nat.le_trans h2 h1) (Nat.pow_pos (by decide))
          omega
        · omega
      have hk0 : 0 < k := by rw [← hkm]; exact nd_pos (by decide) h0
      rw [hz, nd_zero]
      have HDR : Hid ((List.range k).map (fun p => UInt8.ofNat (48 + dg 10 n (k - 1 - p))) = Lib.decDigits n) := dec_rev h0 hkm
      obtain ⟨g, cap, f, rfl, hg, hkc, hrow, hf⟩ := row_of_own hown hk0
      have hf' : ∀ i, i < k → f i = Value.int .u8 ((48 + dg 10 n i : Nat) : Int) := by
        intro i hi
        have := hf i hi
        rw [chs, List.getElem?_map, List.getElem?_range hi] at this
        exact (Option.some.inj this).symm
      have HF := Lib.hid hf'
      have HROW := Lib.hid hrow
      have HBl := Lib.hid hbel
      clear hz hkm hown hbel hf hf' hrow HR hd hk
      go_wp2
      obtain ⟨wo, rfl⟩ : ∃ wo : World, wo = wr := ⟨_, rfl⟩
      go_loopw [5, 6] (fun a b wx => ∃ i : Nat, 2 * i ≤ k ∧ a = .int .i64 i ∧ b = .int .i64 ((k : Int) - 1 - i) ∧ wx.rowIs g 5 cap (rv k i f) ∧ Below w.heap.size w wx) (fun a _ _ => k - (intOf a).toNat)
      case atStart => exact ⟨0, Nat.zero_le _, rfl, by go_num, HROW.out.congr (fun p _ => (rv_zero k f p).symm), HBl.out⟩
      case round =>
        obtain ⟨i, hik, rfl, rfl, hrow, hbx⟩ := hrel
        have HB2 := Lib.hid hbx
        have HR2 := Lib.hid hrow
        clear hrow hbx
        by_cases hlt : 2 * i + 1 < k
        · obtain ⟨j, hj⟩ : ∃ j, j + i + 1 = k := ⟨k - 1 - i, by omega⟩
          rw [show (k : Int) - 1 - i = j from by omega]
          have hij : (i : Int) < j := by omega
          have hjk : (j : Int) < k := by omega
          have hne : i ≠ j := by omega
          have HJ := Lib.hid hj
          have h1 : wr.cell? ⟨g, i, none⟩ = some (.int .u8 ((48 + dg 10 n i : Nat) : Int)) := by
            rw [HR2.out.cell (i := i) (by omega), rv_in f (Nat.le_refl _) (by omega), HF.out i (by omega)]
          have h2 : wr.cell? ⟨g, j, none⟩ = some (.int .u8 ((48 + dg 10 n j : Nat) : Int)) := by
            rw [HR2.out.cell (i := j) (by omega), rv_in f (by omega) (by omega), HF.out j (by omega)]
          have h3 := HR2.out.frozen i
          have h4 := HR2.out.frozen j
          have HNX : Hid (((wr.setCell ⟨g, i, none⟩ (.int .u8 ((48 + dg 10 n j : Nat) : Int))).setCell ⟨g, j, none⟩ (.int .u8 ((48 + dg 10 n i : Nat) : Int))).rowIs g 5 cap (rv k (i + 1) f)) := by
            refine World.rowIs.congr ((HR2.out.set i _).set j _) fun p _ => ?_
            rw [← HF.out i (by omega), ← HF.out j (by omega)]
            exact rv_next f HJ.out (by omega) p
          clear hj
          generalize ((48 + dg 10 n i : Nat) : Int) = ci at *
          generalize ((48 + dg 10 n j : Nat) : Int) = cj at *
          go_wp2
          go_roundw
          case rel => exact ⟨i + 1, by have := HJ.out; omega, by go_num, by have := HJ.out; go_num, HNX.out, (HB2.out.setCell hg _).setCell hg _⟩
          case measure => simp [intOf]; omega
        · have hnl : ¬ ((i : Int) < (k : Int) - 1 - i) := by omega
          obtain ⟨S, hS⟩ : ∃ S : ByteArray, S = ⟨(Lib.decDigits n).toArray⟩ := ⟨_, rfl⟩
          have kc : ∀ dst, Tryz.prog.underlying dst = some .string → (convert 137 dst (.slice (some ⟨g, 0, none⟩) k cap)).run Tryz.prog wr = .ok (.string S) wr := by
            have h := run_convert_bytes_arg (P := Tryz.prog) wr 137 5 Tryz.underlying137 Tryz.underlying5 g 0 k cap ((List.range k).map fun p => ((48 + dg 10 n (k - 1 - p) : Nat) : Int)) (by simp) (fun p hp => by
              rw [Nat.zero_add, HR2.out.cell (i := p) (by omega), rv_all f (by omega) hik hp, HF.out _ (by omega)]
              simp [List.getD, hp])
            have e : strOfNums ((List.range k).map fun p => ((48 + dg 10 n (k - 1 - p) : Nat) : Int)) = S := by
              rw [hS, ← HDR.out]
              unfold strOfNums
              rw [List.map_map]
              rfl
            rw [e] at h
            exact h
          have kc1 := kc 9 Tryz.underlying9
          have HS := Lib.hid hS
          clear kc hS
          go_wp2
          go_ret
          exact ⟨by rw [← HS.out]; rfl, HB2.out⟩
    · have hz2 : 0 < n / 10 ^ k := Nat.pos_of_ne_zero hz
      have hzp : 0 < nd 65536 (n / 10 ^ k) := nd_pos (by decide) hz2
      have hkm : k < nd 10 n := by
        rcases Nat.lt_or_ge k (nd 10 n) with h | h
        · exact h
        · exact absurd (Nat.div_eq_of_lt (Nat.lt_of_lt_of_le (nd_lt (by decide) n) (Nat.pow_le_pow_right (by decide) h))) hz
      have HD := Lib.hid (Small_any _ (n / 10 ^ k) 10 wr HR.out (by omega) (by decide) (by decide))
      have hg : dg 10 n k < 10 := dg_lt (by decide) _ _
      rw [show (n / 10 ^ k) % 10 = dg 10 n k from rfl, Nat.div_div_eq_div_mul, ← Nat.pow_succ] at HD
      have HO := Lib.hid hown; have HBl := Lib.hid hbel
      have HRB := Lib.hid hown.lt
      have HGS := Lib.hid (chs_succ n k)
      clear hz hz2 hown hbel hd HR
      generalize dg 10 n k = g at *
      generalize nd 65536 (n / 10 ^ k) = l at *
      go_wp2_with fail
      refine HD.out.mono ?_
      rintro e w2 ⟨q, rfl, hr2, hb2, hrf⟩
      have HRF := Lib.hid hrf; clear hrf
      have HR2 := Lib.hid hr2; have HB2 := Lib.hid hb2
      have hown3 := ownsRow_below HO.out hb2
      have hsz : w.heap.size ≤ w2.heap.size := Nat.le_trans HBl.out.size HB2.out.size
      clear hr2 hb2
      go_wp2_with (at_builtin; refine wpList_append_own _ rfl _ _ 137 rfl w.heap.size 5 i0 (.int .u8 0) 1 1 Tryz.underlying137 hi hz0 hz1 hz2 rfl (by decide) _ _ _ rfl (hown3.alloc _) ⟨w2.heap.size, 0, none⟩ 1 1 [.int .u8 ((48 + g : Nat) : Int)] rfl rfl ?c1 ?c2 ?c3 ?c4 ?c5 ?_)
      case c1 => exact cell_one_new _ _ _
      case c2 => intro u hu; simp at hu; subst hu; rfl
      case c3 => unfold maxLen; omega
      case c4 => omega
      case c5 => simp; omega
      intro v' w4 hown4 hgrow hnil
      have HFIN : Hid (TxtRel n w (k + 1) q v' w4) := by
        refine ⟨by omega, ?_, by rw [HGS.out]; exact hown4, ?_⟩
        · have h1 := (HR2.out.below ((Below.refl w2.heap.size w2).alloc (Nat.le_refl _) (.cells #[.int .u8 ((48 + g : Nat) : Int)] 5)))
          rcases h1 with h1 | ⟨p1, b, o, cap, hv1, hc1⟩
          · exact .inl h1
          · refine .inr ⟨p1, b, o, cap, hv1, fun i hi => hgrow.cell (hc1 i hi) ?_⟩
            intro e
            have h3 := HRB.out _ e.symm
            obtain ⟨c4, h4⟩ := HRF.out
            rw [hv1] at h4
            simp only [Value.slice.injEq, Option.some.injEq, Addr.mk.injEq, and_true] at h4
            have h5 := h4.1.1
            have h6 : b = wr.heap.size := h5
            have h7 : b < wr.heap.size := h3.2
            omega
        · refine Below.grown ((HBl.out.trans (HB2.out.mono HBl.out.size)) |>.alloc (by omega) _) hgrow (by simp; omega) ?_
          intro j hj
          exact (HRB.out _ hj).1
      clear hown4 hgrow hnil hown3
      go_wp2
      go_roundg (nd 10 n - (k + 1))
      case measure => have := HK.out; omega
      case rel => exact ⟨k + 1, g, by show _ = _; omega, rfl, HFIN.out⟩
theorem Text_any (v : Value) (n : Nat) (w : World) (hv : R w v n) (hn : nd 65536 n ≤ 1000000) :
    Calls Tryz.prog 73 #[v] w fun e w' => e = .returned (.string ⟨(Lib.decDigits n).toArray⟩) ∧ Below w.heap.size w w' := by
  rcases Nat.eq_zero_or_pos n with h0 | h0
  · subst h0
    obtain ⟨ao, ac, rfl, -⟩ := hv.shape
    rw [nd_zero]
    have HD : Hid (Lib.decDigits 0 = [48]) := decDigits_small (by decide)
    clear hv
    go_enter Tryz.func73, Tryz.ntmps73
    go_wp2
    go_ret
    exact ⟨by rw [HD.out]; rfl, Below.refl _ _⟩
  · exact Text_pos v n w hv h0 hn
end Go.Proofs.YtcmancfdlfhgbaaGreatDoor
