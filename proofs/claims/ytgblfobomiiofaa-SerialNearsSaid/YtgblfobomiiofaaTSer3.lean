/- Contracts and lemmas (several texts merged into one). -/
import Derived.Test.YtgblfobomiiofaaTSer2
import Derived.Laws.CopyOwn
import Derived.Deep.RegionLaw
import Derived.Laws.MakeOwn
import Derived.BigRegion
import Derived.Deep.RegionHeld
import Derived.Laws.OwnMore
namespace Go.Proofs.Ytgblfobomiiofaa
open Go Go.RowKit Gw

/-- n cells that are -1, of m -/
def repL (m n : Nat) : List Value := List.replicate n (.int .i64 (-1)) ++ List.replicate (m - n) (.int .i64 0)
theorem repL_len {m n : Nat} (h : n ≤ m) : (repL m n).length = m := by unfold repL; simp; omega
theorem repL_splice {m n k : Nat} (h : n + k ≤ m) : splice (repL m n) n (List.replicate k (.int .i64 (-1))) = repL m (n + k) := by
  unfold splice repL
  rw [List.take_left' (by simp), List.drop_append, List.length_replicate, List.length_replicate, List.drop_eq_nil_of_le (by simp), List.nil_append, List.drop_replicate, ← List.append_assoc, List.replicate_append_replicate]
  congr 2
  omega
theorem repL_at {m n j : Nat} (h : j < n) : (repL m n)[j]? = some (.int .i64 (-1)) := by
  unfold repL
  rw [List.getElem?_append_left (by simpa using h), List.getElem?_replicate, if_pos h]
theorem made_intS (n : Nat) (h : n ≤ 1000000) : ∀ w, (Instr.makeSlice 67 (.int .i64 (n : Int)) (.int .i64 (n : Int))).run Try.prog w = .ok (.slice (some ⟨w.heap.size, 0, none⟩) n n) (w.alloc (.cells (madeCells #[.int .i64 0] n) 3)) := fun w => by
  have := run_make_row' (P := Try.prog) 67 3 (.int .i64 0) 8 Try.underlying67 Try.infoIntS rfl .i64 .i64 n (by omega) (by omega)
  exact this w
theorem made_rep (m : Nat) : madeCells #[.int .i64 0] m = (repL m 0).toArray := by
  apply Array.ext'
  unfold madeCells repL
  simp
  apply List.ext_getElem
  · simp
  · intro i h1 h2
    simp [Nat.mod_one]
theorem cell_heap {W : World} {g j : Nat} {l : List Value} {t : TypeId} {v : Value} (h : W.heap[g]? = some (.cells l.toArray t (0, 0))) (hj : l[j]? = some v) : W.cell? ⟨g, j, none⟩ = some v := by
  rw [cell_of_row W g j l.toArray t (0, 0) h]
  simpa using hj
theorem slice_lo {g m n : Nat} (h2 : n < m) (W : World) : (Instr.slice 67 (.slice (some ⟨g, 0, none⟩) m m) (some (.int .i64 (n : Int))) none none).run Try.prog W = .ok (.slice (some ⟨g, n, none⟩) (m - n) (m - n)) W := by
  rw [run_slice_l _ _ _ _ _ (by rw [show Try.prog.elem 67 = 3 by kernel_rfl]; exact Try.underlying67) _ _ (by omega) (by omega)]
  rw [show Try.prog.elem 67 = 3 by kernel_rfl, Try.sizeOf3]
  simp only [Result.andThen, sliced, Int.toNat_natCast]
  rw [if_neg (by omega)]
  simp
  rw [show (⟨g, 0, none⟩ : Addr).add n = ⟨g, 0 + n, none⟩ from Addr.add_lit .., Nat.zero_add]
theorem slice_hi {g m n : Nat} (h0 : 0 < m) (h2 : n ≤ m) (W : World) : (Instr.slice 67 (.slice (some ⟨g, 0, none⟩) m m) none (some (.int .i64 (n : Int))) none).run Try.prog W = .ok (.slice (some ⟨g, 0, none⟩) n m) W := by
  rw [run_slice_h _ _ _ _ _ (by rw [show Try.prog.elem 67 = 3 by kernel_rfl]; exact Try.underlying67) _ _ (by omega) (by omega)]
  rw [show Try.prog.elem 67 = 3 by kernel_rfl, Try.sizeOf3]
  simp only [Result.andThen, sliced, Int.toNat_natCast]
  rw [if_neg (by omega)]
  simp
  exact Addr.add_lit ..
set_option maxRecDepth 100000 in
set_option maxHeartbeats 1000000 in
theorem Repeat_any {B o c m : Nat} (h1 : 1 ≤ m) (h2 : m ≤ 1000) {w : World} (hc : w.cell? ⟨B, o, none⟩ = some (.int .i64 (-1))) :
    Calls Try.prog 69 #[.slice (some ⟨B, o, none⟩) 1 c, .int .i64 m] w fun e w' => e = .returned (.slice (some ⟨w.heap.size, 0, none⟩) m m) ∧ Hid (w'.heap[w.heap.size]? = some (.cells (repL m m).toArray 3 (0, 0))) ∧ Hid (Below w.heap.size w w') := by
  have hB := World.block_lt_of_cell? _ _ hc
  have hsz1 : (Try.prog.info? 3).map (·.size) = some 1 := by kernel_rfl
  have HMU : Hid (∀ W, Calls Try.prog 87 #[.int .u64 1, .int .u64 m] W fun e w' => e = .returned (.tuple #[.int .u64 0, .int .u64 m]) ∧ w' = W) := fun W => by
    have := Try.bits_Mul 1 m (by decide) (by omega) W
    rw [Nat.one_mul, Nat.div_eq_of_lt (by omega), Nat.mod_eq_of_lt (by omega)] at this
    exact this
  have hwm : IntKind.u64.wrap (m : Int) = (m : Int) := IntWalk.u64_in _ (by omega)
  have hwm2 : IntKind.i64.wrap (m : Int) = (m : Int) := IntWalk.i64_in _ (by omega)
  have hmk := made_intS m (by omega)
  have hn : ¬ (m : Int) < 0 := by omega
  have hn2 : ¬ (m : Int) > 9223372036854775807 := by omega
  obtain ⟨w1, HW1⟩ : ∃ w1, w1 = w.alloc (.cells (madeCells #[.int .i64 0] m) 3) := ⟨_, rfl⟩
  have HG : Hid (w1.heap[w.heap.size]? = some (.cells (repL m 0).toArray 3 (0, 0))) := by rw [HW1, made_rep]; exact World.alloc_heap_new _ _
  have HB1 : Hid (Below w.heap.size w w1) := by rw [HW1]; exact below_al _ _
  have HC : Hid (w1.cell? ⟨B, o, none⟩ = some (.int .i64 (-1))) := (HB1.out.cell (p := ⟨B, o, none⟩) hB).trans hc
  have HW := Lib.hid HW1
  clear hc HW1
  go_enter Try.func69, Try.ntmps69
  go_wp2_with fail
  refine (HMU.out _).mono ?_
  rintro e w' ⟨rfl, rfl⟩
  go_upto_region 7 with fail
  rw [← HW.out]
  obtain ⟨X1, hX1⟩ : ∃ X1 : List Value, X1 = List.replicate 1 (.int .i64 (-1)) := ⟨_, rfl⟩
  have HX1 := Lib.hid hX1
  clear hX1
  go_wp2_with ((with_reducible show wpList _ _ _ _ _ _); go_must (refine wpList_copy_splice rfl (.tmp 31) (.tmp 32) 67 67 rfl 3 Try.underlying67 hsz1 (some ⟨w'.heap.size, 0, none⟩) (some ⟨B, o, none⟩) m m 1 c (by rfl) (by rfl) w'.heap.size 0 (repL m 0) 3 HG.out X1 ?c0 ?c1 ?c2 ?c3 w'.heap.size w' HB1.out (Nat.le_refl _) ?_))
  case c0 =>
    have : X1.length = 1 := by rw [HX1.out]; rfl
    rw [this]
    exact (Nat.min_eq_left h1).symm
  case c1 =>
    intro _ j v hj
    rw [HX1.out] at hj
    cases j with
    | zero =>
      simp at hj
      subst hj
      exact HC.out
    | succ j => simp at hj
  case c2 => rw [repL_len (by omega), HX1.out]; simp; omega
  case c3 => intro v hv; rw [HX1.out, List.mem_replicate] at hv; rw [hv.2]; rfl
  intro w3 hg3 hb3
  rw [HX1.out, repL_splice (by omega)] at hg3
  have HG3 := hg3; have HB3 := Lib.hid hb3
  have hX1l : X1.length = 1 := by rw [HX1.out]; rfl
  rw [hX1l]
  clear hg3 hb3 HG HB1 HC HW HX1 hX1l
  go_wp2_with fail
  go_loopw [8] (fun s8 wr => ∃ n : Nat, 1 ≤ n ∧ n ≤ m ∧ s8 = .int .i64 n ∧ Hid (wr.heap[w'.heap.size]? = some (.cells (repL m n).toArray 3 (0, 0))) ∧ Hid (Below w'.heap.size w' wr)) (fun s8 _ => m - (intOf s8).toNat)
  case atStart => exact ⟨1, Nat.le_refl _, h1, rfl, HG3, HB3⟩
  case round =>
    obtain ⟨n, hn1, hnm, rfl, HG, HB⟩ := hrel
    by_cases q : n < m
    · have q1 : (n : Int) < m := by omega
      obtain ⟨k, hk⟩ : ∃ k, k = Nat.min n (m - n) := ⟨_, rfl⟩
      have hk1 : k = min n (m - n) := hk
      have hkp : 1 ≤ k := by omega
      have hkn : k ≤ n := by omega
      have hkm : n + k ≤ m := by omega
      obtain ⟨X2, hX2⟩ : ∃ X2 : List Value, X2 = List.replicate k (.int .i64 (-1)) := ⟨_, rfl⟩
      have HX2 := Lib.hid hX2; have HK := Lib.hid hk
      obtain ⟨d, hd⟩ : ∃ d, d = m - n := ⟨_, rfl⟩
      have hd1 : 0 < d := by omega
      rw [← hd] at HK
      obtain ⟨n2, hn2'⟩ : ∃ n2, n2 = n + k := ⟨_, rfl⟩
      have hw : IntKind.i64.wrap ((n : Int) + (k : Int)) = (n2 : Int) := by rw [IntWalk.i64_in _ (by omega)]; omega
      have HN2 := Lib.hid hn2'
      have hn2m : n2 ≤ m := by omega
      have hn2n : n < n2 := by omega
      clear hn2'
      have hnm2 : (n : Int) ≤ (m : Int) := by omega
      have hdm : m - n = d := hd.symm
      have HG2 : Hid (wr.drew.heap[w'.heap.size]? = some (.cells (repL m n).toArray 3 (0, 0))) := HG.out
      have HB2 : Hid (Below w'.heap.size w' wr.drew) := HB.out.drew
      have hs1 : ∀ W, (Instr.slice 67 (.slice (some ⟨w'.heap.size, 0, none⟩) m m) (some (.int .i64 (n : Int))) none none).run Try.prog W = .ok (.slice (some ⟨w'.heap.size, n, none⟩) d d) W := fun W => by rw [hd]; exact slice_lo q W
      have hs2 : ∀ W, (Instr.slice 67 (.slice (some ⟨w'.heap.size, 0, none⟩) m m) none (some (.int .i64 (n : Int))) none).run Try.prog W = .ok (.slice (some ⟨w'.heap.size, 0, none⟩) n m) W := fun W => slice_hi (by omega) hnm W
      have HHD := Lib.hid hd; have HHM := Lib.hid hdm
      clear hX2 hk hk1 hd hdm hnm2
      have HXL : Hid (X2.length = k) := by show _ = _; rw [HX2.out, List.length_replicate]
      have HC0 : Hid (X2.length = Nat.min n d) := HXL.out.trans HK.out
      have HC1 : Hid (∀ j v, X2[j]? = some v → wr.drew.cell? ((⟨w'.heap.size, 0, none⟩ : Addr).add j) = some v) := fun j v hj => by
        rw [show (⟨w'.heap.size, 0, none⟩ : Addr).add j = ⟨w'.heap.size, 0 + j, none⟩ from Addr.add_lit .., Nat.zero_add]
        rw [HX2.out, List.getElem?_replicate] at hj
        by_cases c : j < k
        · rw [if_pos c] at hj
          cases hj
          exact cell_heap HG2.out (repL_at (by omega))
        · rw [if_neg c] at hj; cases hj
      have HC2 : Hid (n + X2.length ≤ (repL m n).length) := by show _ ≤ _; rw [repL_len hnm, HXL.out]; exact hkm
      have HC3 : Hid (∀ v ∈ X2, v.oneCell' = true) := fun v hv => by rw [HX2.out, List.mem_replicate] at hv; rw [hv.2]; rfl
      go_wp2_with fail
      go_region_law (refine step_copy_splice rfl (.tmp 41) (.tmp 44) 67 67 rfl 3 Try.underlying67 hsz1 (some ⟨w'.heap.size, n, none⟩) (some ⟨w'.heap.size, 0, none⟩) d d n m (by simp [Act.eval, Act.put]) (by simp [Act.eval, Act.put]) w'.heap.size n (repL m n) 3 HG2.out X2 HC0.out (fun _ => ⟨rfl, _, rfl, HC1.out⟩) HC2.out HC3.out w'.heap.size w' HB2.out (Nat.le_refl _) ?_; intro w4 hg4 hb4; rw [HXL.out])
      all_goals
        have hg5 : Hid (w4.heap[w'.heap.size]? = some (.cells (repL m n2).toArray 3 (0, 0))) := by
          have := hg4
          rw [HX2.out, repL_splice hkm, ← HN2.out] at this
          exact this
        go_simp
        refine ⟨⟨_, _, _, _, _, _, _, _, _, _, _, _, _, _, ⟨n2, by omega, hn2m, rfl, hg5, hb4⟩, rfl⟩, ?_⟩
        simp [intOf]; omega
    · obtain rfl : n = m := by omega
      have q1 : ¬ (n : Int) < n := by omega
      go_wp2_with fail
      go_ret
      exact ⟨rfl, HG, HB⟩
theorem rep_is {W : World} {g m : Nat} (h : W.heap[g]? = some (.cells (repL m m).toArray 3 (0, 0))) : IsIs W (.slice (some ⟨g, 0, none⟩) m m) (List.replicate m (-1)) := by
  refine ⟨some ⟨g, 0, none⟩, m, by simp, fun _ => ⟨g, 0, rfl, (Array.getElem?_eq_some_iff.1 h).1, fun j hj => ?_⟩⟩
  have hj2 : j < m := by simpa using hj
  rw [Nat.zero_add]
  rw [cell_heap h (repL_at hj2)]
  simp
set_option maxHeartbeats 1000000 in
/-- the mask that all serials match -/
theorem anything_any {R n : Nat} {al : ByteArray} {ck : Bool} {w : World} (h : Ser R al n ck w) (h1 : 1 ≤ n) (h2 : n ≤ 16) :
    Calls Try.prog 50 #[.pointer (some ⟨R, 0, none⟩)] w fun e w' => ∃ v, e = .returned v ∧ (∃ a c, v = .slice a (szN n ck) c) ∧ Hid (IsIs w' v (List.replicate (szN n ck) (-1))) ∧ Hid (Below w.heap.size w w') := by
  obtain ⟨w1, HW1⟩ : ∃ w1, w1 = w.alloc (.cells #[.int .i64 (-1)] 3) := ⟨_, rfl⟩
  have hb1 : Below w.heap.size w w1 := by rw [HW1]; exact below_al _ _
  have c0 : w1.cell? ⟨w.heap.size, 0, none⟩ = some (.int .i64 (-1)) := by rw [HW1]; exact World.cell?_alloc_at _ _ _ _ rfl
  have hs1 : 1 ≤ szN n ck := by unfold szN; split <;> omega
  have hs2 : szN n ck ≤ 17 := by unfold szN; split <;> omega
  have HS := Lib.hid (size_any (h.below hb1) h2)
  have HR := Lib.hid (Repeat_any (c := 1) hs1 (by omega) c0)
  have HB := Lib.hid hb1; have HW := Lib.hid HW1
  generalize szN n ck = m at *
  clear hb1 c0 HW1 h
  go_enter Try.func50, Try.ntmps50
  go_wp2_with fail
  rw [← HW.out]
  refine HS.out.mono ?_
  rintro e w' ⟨rfl, rfl⟩
  go_wp2_with fail
  refine HR.out.mono ?_
  rintro e w2 ⟨rfl, hg, hb⟩
  have HG := Lib.hid hg.out; have HB2 := Lib.hid (below_tr HB.out hb.out)
  clear hg hb
  go_wp2_with fail
  go_ret
  exact ⟨_, rfl, ⟨_, _, rfl⟩, rep_is HG.out, HB2⟩
end Go.Proofs.Ytgblfobomiiofaa
namespace Go.Proofs.Ytgblfobomiiofaa
open Go Go.RowKit Gw

/-- the values of a text over an alphabet -/
def wordN (al s : ByteArray) : List Nat := (bys s).map fun b => (bys al).idxOf b
theorem wordN_len (al s : ByteArray) : (wordN al s).length = s.size := by simp [wordN]
theorem valsI_word {al s : ByteArray} (h : OfA s al) : valsI al s = asI (wordN al s) := by
  unfold valsI wordN asI
  rw [List.map_map]
  refine List.map_congr_left fun b hb => ?_
  exact indexByte_idx (h b hb)
theorem wordN_lt {al s : ByteArray} (h : OfA s al) : ∀ v ∈ wordN al s, v < al.size := by
  intro v hv
  obtain ⟨b, hb, rfl⟩ := List.mem_map.1 hv
  have := List.idxOf_lt_length_of_mem (h b hb)
  simpa using this
theorem OfA.ascii {al s : ByteArray} (h : OfA s al) (ha : Ascii al) : Ascii s := fun i hi => by
  obtain ⟨j, hj, e⟩ := mem_bys.1 (h _ (bys_at hi))
  have := ha j hj
  rw [e] at this
  exact this
/-- what readWord answers -/
def WordP (al s : ByteArray) (sz : Nat) (W : World) (e : Ending) (w' : World) : Prop :=
  ((s.size = sz ∧ OfA s al) ∧ ∃ a c, e = .returned (.tuple #[.slice a sz c, .bool true]) ∧ w'.ownsRow W.heap.size 3 1 (.slice a sz c) sz (encI (asI (wordN al s))) ∧ Below W.heap.size W w') ∨
  (¬ (s.size = sz ∧ OfA s al) ∧ e = .returned (.tuple #[.slice none 0 0, .bool false]) ∧ Below W.heap.size W w')
set_option maxHeartbeats 1000000 in
theorem readWord_any {R n sz : Nat} {al s : ByteArray} {ck : Bool} {w : World} (h : Ser R al n ck w) (ha : Ascii al) (hsz : sz ≤ 20) :
    Calls Try.prog 51 #[.pointer (some ⟨R, 0, none⟩), .string s, .int .i64 sz] w (WordP al s sz w) := by
  have c0 := h.c0
  by_cases q : s.size = sz
  · have q1 : ((s.size : Int) != (sz : Int)) = false := by simp; omega
    have HC := Lib.hid (consistsOf_any (s := s) ha w)
    have HS := Lib.hid h; have HA := Lib.hid ha; have HQ := Lib.hid q
    have HV := Lib.hid (fun W (h : Ser R al n ck W) (h2 : Ascii s) => values_any h h2 (by omega))
    clear h ha q
    go_enter Try.func51, Try.ntmps51
    go_wp2_with fail
    refine HC.out.mono ?_
    rintro _ w1 ⟨r, rfl, hr, hb⟩
    have HR := Lib.hid hr; have HB := Lib.hid hb
    clear hr hb
    cases r with
    | false =>
      have HN : Hid (¬ (s.size = sz ∧ OfA s al)) := fun h => by have := HR.out.2 h.2; cases this
      go_wp2_with fail
      refine bodyPost_ret (v := .tuple #[.slice none 0 0, .bool false]) (by simp [results, Try.results51, go_sem]) rfl ?_
      exact .inr ⟨HN.out, rfl, HB.out⟩
    | true =>
      have HO : Hid (OfA s al) := HR.out.1 rfl
      have HV1 := Lib.hid (HV.out w1 (HS.out.below HB.out) (HO.out.ascii HA.out))
      go_wp2_with fail
      refine HV1.out.mono ?_
      rintro _ w2 ⟨v, rfl, hr, hb⟩
      obtain ⟨a, c, rfl⟩ := row_sl hr.out
      have HB2 := Lib.hid (below_tr HB.out hb.out)
      have HR2 : Hid (w2.ownsRow w.heap.size 3 1 (.slice a sz c) sz (encI (asI (wordN al s)))) := by
        have := row_mono hr.out HB.out.size
        rw [valsI_word HO.out, HQ.out] at this
        exact this
      rw [HQ.out]
      clear hr hb
      go_wp2_with fail
      refine bodyPost_ret (v := .tuple #[.slice a sz c, .bool true]) (by simp [results, Try.results51, go_sem]) rfl ?_
      exact .inl ⟨⟨HQ.out, HO.out⟩, a, c, rfl, HR2.out, HB2.out⟩
  · have q1 : ((s.size : Int) != (sz : Int)) = true := by simp; omega
    have HN : Hid (¬ (s.size = sz ∧ OfA s al)) := fun h => q h.1
    clear h q
    go_enter Try.func51, Try.ntmps51
    go_wp2_with fail
    refine bodyPost_ret (v := .tuple #[.slice none 0 0, .bool false]) (by simp [results, Try.results51, go_sem]) rfl ?_
    exact .inr ⟨HN.out, rfl, Below.refl _ _⟩
/-- a mask over an alphabet -/
def MaskOf (s al : ByteArray) : Prop := ∀ b ∈ bys s, b ∈ bys al ∨ b = 63
/-- the signs of a mask -/
def maskN (al s : ByteArray) : List (Option Nat) := (bys s).map fun b => if b = 63 then none else some ((bys al).idxOf b)
theorem maskN_len (al s : ByteArray) : (maskN al s).length = s.size := by simp [maskN]
/-- a sign of a mask as the program has it -/
def sgn : Option Nat → Int
  | none => -1
  | some v => (v : Int)
def asM (l : List (Option Nat)) : List Int := l.map sgn
theorem asM_len (l : List (Option Nat)) : (asM l).length = l.length := by simp [asM]
theorem valsI_mask {al s : ByteArray} (ha : GoodA al) (h : MaskOf s al) : valsI al s = asM (maskN al s) := by
  unfold valsI maskN asM
  rw [List.map_map]
  refine List.map_congr_left fun b hb => ?_
  show Lib.indexByte (bys al) b = sgn (if b = 63 then none else some ((bys al).idxOf b))
  by_cases q : b = 63
  · subst q
    rw [if_pos rfl]
    exact indexByte_none fun x hx e => by
      obtain ⟨i, hi, e2⟩ := mem_bys.1 hx
      have := (ha.2.2 i hi).1
      rw [e2, e] at this
      exact absurd this (by decide)
  · rw [if_neg q]
    rcases h b hb with c | c
    · exact indexByte_idx c
    · exact absurd c q
theorem maskN_lt {al s : ByteArray} (h : MaskOf s al) : ∀ v, some v ∈ maskN al s → v < al.size := by
  intro v hv
  obtain ⟨b, hb, e⟩ := List.mem_map.1 hv
  by_cases q : b = 63
  · rw [if_pos q] at e; cases e
  · rw [if_neg q] at e
    injection e with e
    subst e
    rcases h b hb with c | c
    · have := List.idxOf_lt_length_of_mem c
      simpa using this
    · exact absurd c q
theorem bys_append (a b : ByteArray) : bys (a ++ b) = bys a ++ bys b := by simp [bys]
theorem ofA_mask (s al : ByteArray) : OfA s (al ++ ⟨#[63]⟩) ↔ MaskOf s al := by
  unfold OfA MaskOf
  rw [bys_append]
  constructor
  · intro h b hb
    have := h b hb
    rw [List.mem_append] at this
    rcases this with c | c
    · exact .inl c
    · exact .inr (by simpa using c)
  · intro h b hb
    rw [List.mem_append]
    rcases h b hb with c | c
    · exact .inl c
    · exact .inr (by simp [c])
theorem ascii_mask {al : ByteArray} (h : Ascii al) : Ascii (al ++ ⟨#[63]⟩) := fun i hi => by
  have hm := bys_at hi
  rw [bys_append, List.mem_append] at hm
  rcases hm with c | c
  · obtain ⟨j, hj, e⟩ := mem_bys.1 c
    rw [← e]; exact h j hj
  · simp at c
    rw [c]; decide
/-- what readMask answers -/
def MaskP (al s : ByteArray) (sz : Nat) (W : World) (e : Ending) (w' : World) : Prop :=
  ((s.size = sz ∧ MaskOf s al) ∧ ∃ a c, e = .returned (.tuple #[.slice a sz c, .bool true]) ∧ w'.ownsRow W.heap.size 3 1 (.slice a sz c) sz (encI (asM (maskN al s))) ∧ Below W.heap.size W w') ∨
  (¬ (s.size = sz ∧ MaskOf s al) ∧ e = .returned (.tuple #[.slice none 0 0, .bool false]) ∧ Below W.heap.size W w')
set_option maxHeartbeats 1000000 in
theorem readMask_any {R n : Nat} {al s : ByteArray} {ck : Bool} {w : World} (h : Ser R al n ck w) (ha : GoodA al) (hn : n ≤ 16) :
    Calls Try.prog 72 #[.pointer (some ⟨R, 0, none⟩), .string s] w (MaskP al s (szN n ck) w) := by
  have c0 := h.c0
  have HSZ := Lib.hid (size_any h hn)
  have hsz : szN n ck ≤ 17 := by unfold szN; split <;> omega
  generalize szN n ck = sz at *
  by_cases q : s.size = sz
  · have q1 : ((s.size : Int) != (sz : Int)) = false := by simp; omega
    have HC := Lib.hid (fun W => consistsOf_any (s := s) (ascii_mask ha.ascii) W)
    have hadd : ∀ W : World, (Op.stringOp .add al ⟨#[63]⟩).run Try.prog W = .ok (.string (al ++ ⟨#[63]⟩)) W := fun W => run_string_add_sum W _ _ (by have := ha.2.1; show al.size + 1 ≤ _; omega)
    have HS := Lib.hid h; have HA := Lib.hid ha; have HQ := Lib.hid q
    have HV := Lib.hid (fun W (h : Ser R al n ck W) (h2 : Ascii s) => values_any h h2 (by omega))
    clear h ha q
    go_enter Try.func72, Try.ntmps72
    go_wp2_with fail
    refine HSZ.out.mono ?_
    rintro _ w0 ⟨rfl, rfl⟩
    go_wp2_with fail
    refine (HC.out _).mono ?_
    rintro _ w1 ⟨r, rfl, hr, hb⟩
    have HR : Hid (IffB r (MaskOf s al)) := ⟨fun e => (ofA_mask s al).1 (hr.1 e), fun e => hr.2 ((ofA_mask s al).2 e)⟩
    have HB := Lib.hid hb
    clear hr hb
    cases r with
    | false =>
      have HN : Hid (¬ (s.size = sz ∧ MaskOf s al)) := fun h => by have := HR.out.2 h.2; cases this
      go_wp2_with fail
      refine bodyPost_ret (v := .tuple #[.slice none 0 0, .bool false]) (by simp [results, Try.results72, go_sem]) rfl ?_
      exact .inr ⟨HN.out, rfl, HB.out⟩
    | true =>
      have HO : Hid (MaskOf s al) := HR.out.1 rfl
      have HV1 := Lib.hid (HV.out w1 (HS.out.below HB.out) (((ofA_mask s al).2 HO.out).ascii (ascii_mask HA.out.ascii)))
      go_wp2_with fail
      refine HV1.out.mono ?_
      rintro _ w2 ⟨v, rfl, hr, hb⟩
      obtain ⟨a, c, rfl⟩ := row_sl hr.out
      have HB2 := Lib.hid (below_tr HB.out hb.out)
      have HR2 : Hid (w2.ownsRow w.heap.size 3 1 (.slice a sz c) sz (encI (asM (maskN al s)))) := by
        have := row_mono hr.out HB.out.size
        rw [valsI_mask HA.out HO.out, HQ.out] at this
        exact this
      rw [HQ.out]
      clear hr hb
      go_wp2_with fail
      refine bodyPost_ret (v := .tuple #[.slice a sz c, .bool true]) (by simp [results, Try.results72, go_sem]) rfl ?_
      exact .inl ⟨⟨HQ.out, HO.out⟩, a, c, rfl, HR2.out, HB2.out⟩
  · have q1 : ((s.size : Int) != (sz : Int)) = true := by simp; omega
    have HN : Hid (¬ (s.size = sz ∧ MaskOf s al)) := fun h => q h.1
    clear h q
    go_enter Try.func72, Try.ntmps72
    go_wp2_with fail
    refine HSZ.out.mono ?_
    rintro _ w0 ⟨rfl, rfl⟩
    go_wp2_with fail
    refine bodyPost_ret (v := .tuple #[.slice none 0 0, .bool false]) (by simp [results, Try.results72, go_sem]) rfl ?_
    exact .inr ⟨HN.out, rfl, Below.refl _ _⟩
set_option maxRecDepth 100000 in
set_option maxHeartbeats 1000000 in
theorem checkOf_any {R n : Nat} {al : ByteArray} {ck : Bool} {w : World} {v : Value} {u : List Nat} (h : Ser R al n ck w) (h1 : 2 ≤ al.size) (h2 : al.size ≤ 36) (hv : IsIs w v (asI u)) (hu : ∀ x ∈ u, x < al.size) (hl : u.length ≤ 1000) :
    Calls Try.prog 67 #[.pointer (some ⟨R, 0, none⟩), v] w fun e w' => e = .returned (.int .i64 (lcN al.size (chk (ncN al.size) al.size u))) ∧ w = w' := by
  have HS := Lib.hid h
  have HI := Lib.hid hv; have HU := Lib.hid hu
  have HN := Lib.hid (fun (p x : Nat) (hp : p ≤ al.size) (hx : x < al.size) => nextCheck_any h h1 h2 (p := p) (v := x) (by omega) (by omega))
  have HL := Lib.hid (fun (p : Nat) (hp : p ≤ al.size) => lastCheck_any h h1 h2 hp)
  have c0 := h.c0
  obtain ⟨ao, c, rfl, -⟩ := hv
  obtain ⟨A, hA⟩ : ∃ A, A = al.size := ⟨_, rfl⟩
  have hls : ∀ (t ty : TypeId), Try.prog.underlying t = some .string → ∀ W, (Builtin.len_ #[t] ty #[.string al]).run Try.prog W = .ok (.int .i64 (A : Int)) W := fun t ty ht W => by rw [run_len_string _ _ _ _ ht, hA]; rfl
  obtain ⟨m, hm⟩ : ∃ m, m = u.length := ⟨_, rfl⟩
  rw [asI_len, ← hm]
  rw [asI_len, ← hm] at HI
  rw [← hm] at hl
  rw [← hA] at HN HL HU h1 h2 ⊢
  have HM := Lib.hid hm; have HA := Lib.hid hA
  clear hm hA h hu
  go_enter Try.func67, Try.ntmps67
  go_wp2_with fail
  go_loopw [5, 7, 15] (fun s5 _ s15 wr => ∃ i p : Nat, i ≤ m ∧ p ≤ A ∧ s15 = .int .i64 i ∧ s5 = .int .i64 p ∧ Hid (chk (ncN A) p (u.drop i) = chk (ncN A) A u) ∧ w = wr) (fun _ _ s15 _ => m - (intOf s15).toNat)
  case atStart => exact ⟨0, A, Nat.zero_le _, Nat.le_refl _, rfl, rfl, rfl, rfl⟩
  case round =>
    obtain ⟨i, p, hi, hp, rfl, rfl, HP, rfl⟩ := hrel
    by_cases q : i < m
    · have q1 : (i : Int) < m := by omega
      have hw : IntKind.i64.wrap ((i : Int) + 1) = ((i + 1 : Nat) : Int) := by rw [IntWalk.i64_in _ (by omega)]; omega
      have hiu : i < u.length := by rw [← HM.out]; exact q
      obtain ⟨B, o, e1, d0⟩ := HI.out.at' (j := i) (by rw [asI_len]; exact hiu)
      rw [asI_at hiu] at d0
      obtain ⟨x, hx⟩ : ∃ x, x = u[i] := ⟨_, rfl⟩
      rw [← hx] at d0
      have hxA : x < A := by rw [hx]; exact HU.out _ (List.getElem_mem _)
      have HC := Lib.hid (HN.out p x hp hxA)
      have HP2 : Hid (chk (ncN A) (ncN A p x) (u.drop (i + 1)) = chk (ncN A) A u) := by
        have := HP.out
        rw [List.drop_eq_getElem_cons hiu, ← hx] at this
        exact this
      have hle : ncN A p x ≤ A := ncN_le
      generalize ncN A p x = p2 at *
      subst e1
      clear hx
      go_wp2_with fail
      refine HC.out.mono ?_
      rintro _ w0 ⟨rfl, rfl⟩
      go_wp2_with fail
      go_roundw
      case rel => exact ⟨i + 1, p2, q, hle, by go_num, rfl, HP2, by trivial⟩
      case measure => simp [intOf]; omega
    · obtain rfl : i = m := by omega
      have q1 : ¬ (i : Int) < i := by omega
      have hpe : p = chk (ncN A) A u := by
        have := HP.out
        rw [HM.out, List.drop_length] at this
        exact this
      have HC := Lib.hid (HL.out p hp)
      have HPE := Lib.hid hpe
      clear hpe
      go_wp2_with fail
      refine HC.out.mono ?_
      rintro _ w0 ⟨rfl, rfl⟩
      go_wp2_with fail
      go_ret
      exact ⟨by rw [← HPE.out]; rfl, rfl⟩
end Go.Proofs.Ytgblfobomiiofaa
namespace Go.Proofs.Ytgblfobomiiofaa
open Go Go.RowKit Gw

theorem Try.infoBoolS : (Try.prog.info? 4).map (fun i => (i.zero, i.size, i.bytes)) = some (some (.bool false), 1, 1) := by kernel_rfl
def encB (l : List Bool) : List Value := l.map .bool
theorem ownsRow_below {w w' : World} {base : Nat} {e : TypeId} {size : Nat} {v : Value} {n : Nat} {xs : List Value} (h : w.ownsRow base e size v n xs) (hb : Below w.heap.size w w') : w'.ownsRow base e size v n xs := by
  refine ⟨h.1, ?_⟩
  rcases h.2 with h2 | ⟨g, cap, cur, hv, hg, hh, r⟩
  · exact .inl h2
  · exact .inr ⟨g, cap, cur, hv, hg, (hb.block g (Array.getElem?_eq_some_iff.1 hh).1).trans hh, r⟩
/-- a tree in memory: its moves are f, its ends es -/
structure TrS (W0 : World) (T mb : Nat) (v : Value) (f : Nat → Nat → Option Nat) (es : List Bool) (w : World) : Prop where
  c0 : w.cell? ⟨T, 0, none⟩ = some (.map (some mb))
  c1 : w.cell? ⟨T, 1, none⟩ = some v
  f1 : w.frozen? ⟨T, 1, none⟩ = false
  mp : MapF KA mb (fun a => f a.1 a.2) w
  row : w.ownsRow W0.heap.size 4 1 v es.length (encB es)
  blw : Below W0.heap.size W0 w
  n1 : T ≠ mb
  n2 : some T ≠ v.ownBlock
  n3 : some mb ≠ v.ownBlock
  bT : W0.heap.size ≤ T
  bm : W0.heap.size ≤ mb
section
variable {W0 : World} {T mb : Nat} {v : Value} {f : Nat → Nat → Option Nat} {es : List Bool} {w : World}
theorem TrS.lt (h : TrS W0 T mb v f es w) : T < w.heap.size := World.block_lt_of_cell? _ _ h.c0
theorem TrS.below (h : TrS W0 T mb v f es w) {w' : World} (hb : Below w.heap.size w w') : TrS W0 T mb v f es w' :=
  ⟨(hb.cell (p := ⟨T, 0, none⟩) h.lt).trans h.c0, (hb.cell (p := ⟨T, 1, none⟩) h.lt).trans h.c1, (hb.frozen (p := ⟨T, 1, none⟩) h.lt).trans h.f1, h.mp.below hb,
    ownsRow_below h.row hb, h.blw.trans (hb.mono h.blw.size), h.n1, h.n2, h.n3, h.bT, h.bm⟩
theorem TrS.congr (h : TrS W0 T mb v f es w) {g : Nat → Nat → Option Nat} (e : ∀ i u, i < 200 → u < 40 → f i u = g i u) : TrS W0 T mb v g es w :=
  ⟨h.c0, h.c1, h.f1, h.mp.congr fun a ha => e a.1 a.2 ha.1 ha.2, h.row, h.blw, h.n1, h.n2, h.n3, h.bT, h.bm⟩
end
theorem grownBy_setCell (w : World) (g j : Nat) (v : Value) : w.grownBy (w.setCell ⟨g, j, none⟩ v) (some g) :=
  ⟨rfl, rfl, rfl, by simp [World.setCell], fun k _ hk => Below.heap_setCell _ _ _ _ (fun e => hk (by simp [e]))⟩
theorem TrS.grow {W0 : World} {T mb : Nat} {v v' : Value} {f : Nat → Nat → Option Nat} {es es' : List Bool} {w w8 : World} (h : TrS W0 T mb v f es w) {o : Obj} (hg : (w.alloc o).grownBy w8 v.ownBlock)
    (hat : v'.ownBlock = v.ownBlock ∨ v'.ownBlock = some (w.alloc o).heap.size) (hown : w8.ownsRow W0.heap.size 4 1 v' es'.length (encB es')) :
    w8.cell? ⟨T, 1, none⟩ = some v ∧ w8.frozen? ⟨T, 1, none⟩ = false ∧ TrS W0 T mb v' f es' (w8.setCell ⟨T, 1, none⟩ v') := by
  have h2 := h.below (below_al w o)
  have hsz : (w.alloc o).heap.size = w.heap.size + 1 := World.size_alloc _ _
  have c0 := hg.cell h2.c0 h2.n2
  have c1 := hg.cell h2.c1 h2.n2
  have f1 : w8.frozen? ⟨T, 1, none⟩ = false := (World.frozen?_of_block (hg.block _ h2.lt h2.n2)).trans h2.f1
  have hT := h.lt
  have hM := h.mp.lt
  have n2' : some T ≠ v'.ownBlock := by
    rcases hat with e | e
    · rw [e]; exact h.n2
    · rw [e]; intro e2; injection e2 with e2; omega
  have n3' : some mb ≠ v'.ownBlock := by
    rcases hat with e | e
    · rw [e]; exact h.n3
    · rw [e]; intro e2; injection e2 with e2; omega
  have hbl := h2.blw.grown hg (Nat.le_trans h2.blw.size (Nat.le_refl _)) (fun j hj => (h.row.lt j hj).1)
  refine ⟨c1, f1, ⟨(World.cell?_setCell_other _ _ _ _ (by intro e; injection e with _ e; injection e)).trans c0, World.cell?_setCell_same _ _ _ c1, by rw [World.frozen?_setCell]; exact f1, ?_, ?_, hbl.setCell h.bT _, h.n1, n2', n3', h.bT, h.bm⟩⟩
  · exact (h2.mp.kept hg h2.n3).kept (grownBy_setCell _ _ _ _) (fun e => h.n1 (Option.some.inj e).symm)
  · exact hown.kept (grownBy_setCell _ _ _ _) (.inr (fun e => n2' e.symm))
theorem TrS.setE {W0 : World} {T mb g n c : Nat} {f : Nat → Nat → Option Nat} {es : List Bool} {w : World} (h : TrS W0 T mb (.slice (some ⟨g, 0, none⟩) n c) f es w) (hn : n = es.length) (j : Nat) (x : Bool) :
    TrS W0 T mb (.slice (some ⟨g, 0, none⟩) n c) f (es.set j x) (w.setCell ⟨g, j, none⟩ (.bool x)) := by
  have hg := grownBy_setCell w g j (.bool x)
  have hTg : T ≠ g := fun e => h.n2 (by rw [e]; rfl)
  have hmg : mb ≠ g := fun e => h.n3 (by rw [e]; rfl)
  refine ⟨(World.cell?_setCell_far _ _ _ _ (fun e => hTg e.symm)).trans h.c0, (World.cell?_setCell_far _ _ _ _ (fun e => hTg e.symm)).trans h.c1, by rw [World.frozen?_setCell]; exact h.f1, h.mp.kept hg (fun e => hmg (Option.some.inj e)), ?_, h.blw.setCell (h.row.lt g rfl).1 _, h.n1, h.n2, h.n3, h.bT, h.bm⟩
  have hr := h.row
  subst hn
  have := (hr.stored j (.bool x)).1
  rw [List.length_set]
  unfold encB at this ⊢
  rw [List.map_set]
  exact this
theorem TrS.cE {W0 : World} {T mb g n c : Nat} {f : Nat → Nat → Option Nat} {es : List Bool} {w : World} (h : TrS W0 T mb (.slice (some ⟨g, 0, none⟩) n c) f es w) {j : Nat} (hj : j < es.length) : w.cell? ⟨g, j, none⟩ = some (.bool es[j]) ∧ w.frozen? ⟨g, j, none⟩ = false := by
  have hcs := h.row.cells (g := g) rfl j (.bool es[j]) (by simp [encB, hj])
  rw [show (⟨g, 0, none⟩ : Addr).add j = ⟨g, 0 + j, none⟩ from Addr.add_lit .., Nat.zero_add] at hcs
  refine ⟨hcs, ?_⟩
  rcases h.row.2 with ⟨e, -⟩ | ⟨g', cap, cur, e, _, hh, _⟩
  · cases e
  · injection e with e1 _ _
    injection e1 with e1
    injection e1 with e1
    subst e1
    simp [World.frozen?, hh]
theorem row_so {W : World} {base : Nat} {e : TypeId} {size : Nat} {v : Value} {k : Nat} {xs : List Value} (hk : 0 < k) (h : W.ownsRow base e size v k xs) : ∃ g cap, v = .slice (some ⟨g, 0, none⟩) k cap ∧ base ≤ g ∧ g < W.heap.size := by
  have hl := h.lt
  rcases h.2 with ⟨-, h0⟩ | ⟨g, cap, cur, rfl, hb, _⟩
  · omega
  · exact ⟨g, cap, rfl, hb, (hl g rfl).2⟩
theorem addB_len_le : ∀ {r pre : List Nat} {L : List (List Nat)}, L.length ≤ (addB L pre r).length
  | [], _, L => by unfold addB; exact Nat.le_refl _
  | v :: r, pre, L => by
    unfold addB
    refine Nat.le_trans ?_ addB_len_le
    unfold addP
    split
    · exact Nat.le_refl _
    · simp
end Go.Proofs.Ytgblfobomiiofaa
namespace Go.Proofs.Ytgblfobomiiofaa
open Go Go.RowKit Gw

def encA2 (L bans : List (List Nat)) : List Bool := L.map fun x => decide (x ∈ bans)
theorem encA2_len (L bans : List (List Nat)) : (encA2 L bans).length = L.length := by simp [encA2]
/-- what the loop of add keeps: the word read so far is a node, the rest is to come -/
structure AddS (W0 : World) (T mb : Nat) (bans F : List (List Nat)) (b : List Nat) (i s : Nat) (w : World) (Lc : List (List Nat)) (v : Value) : Prop where
  tr : Tree Lc
  vals : ∀ x ∈ bans, x ∈ Lc
  pm : b.take i ∈ Lc
  st : s = Lc.idxOf (b.take i)
  go : addB Lc (b.take i) (b.drop i) = F
  mem : TrS W0 T mb v (edge Lc) (encA2 Lc bans) w
section
variable {W0 w : World} {T mb : Nat} {bans F Lc : List (List Nat)} {b : List Nat} {i s : Nat} {v : Value}
theorem AddS.at' (h : AddS W0 T mb bans F b i s w Lc v) : Lc[s]? = some (b.take i) := by rw [h.st]; exact idx_at h.pm
theorem AddS.len (h : AddS W0 T mb bans F b i s w Lc v) : Lc.length ≤ F.length := by rw [← h.go]; exact addB_len_le
theorem AddS.drop (h : AddS W0 T mb bans F b i s w Lc v) (hi : i < b.length) : addB (addP Lc (b.take i ++ [b[i]])) (b.take i ++ [b[i]]) (b.drop (i + 1)) = F := by
  have := h.go
  rw [List.drop_eq_getElem_cons hi] at this
  exact this
theorem AddS.yes (h : AddS W0 T mb bans F b i s w Lc v) (hi : i < b.length) {j : Nat} (e : edge Lc s b[i] = some j) {w' : World} (hm : TrS W0 T mb v (edge Lc) (encA2 Lc bans) w') :
    AddS W0 T mb bans F b (i + 1) j w' Lc v ∧ j < Lc.length := by
  obtain ⟨y, h1, h2⟩ := (edge_iff h.tr.dup).1 e
  rw [h.at'] at h1
  injection h1 with h1
  subst h1
  have hmem : b.take i ++ [b[i]] ∈ Lc := List.mem_of_getElem? h2
  have ht : b.take (i + 1) = b.take i ++ [b[i]] := List.take_succ_eq_append_getElem hi
  refine ⟨⟨h.tr, h.vals, by rw [ht]; exact hmem, by rw [ht]; exact (idx_of h.tr.dup h2).symm, ?_, hm⟩, (List.getElem?_eq_some_iff.1 h2).1⟩
  have := h.drop hi
  unfold addP at this
  rw [if_pos hmem] at this
  rw [ht]
  exact this
theorem AddS.no (h : AddS W0 T mb bans F b i s w Lc v) (hi : i < b.length) (e : edge Lc s b[i] = none) {w' : World} {v' : Value}
    (hm : TrS W0 T mb v' (fun i' u => if i' = s ∧ u = b[i] then some Lc.length else edge Lc i' u) (encA2 Lc bans ++ [false]) w') :
    AddS W0 T mb bans F b (i + 1) Lc.length w' (Lc ++ [b.take i ++ [b[i]]]) v' := by
  have hn : b.take i ++ [b[i]] ∉ Lc := fun hmem => by
    unfold edge at e
    rw [h.at'] at e
    simp only at e
    rw [if_pos hmem] at e
    cases e
  have ht : b.take (i + 1) = b.take i ++ [b[i]] := List.take_succ_eq_append_getElem hi
  have hT := h.tr.push h.pm hn
  refine ⟨hT, fun x hx => List.mem_append_left _ (h.vals x hx), by rw [ht]; simp, ?_, ?_, ?_⟩
  · rw [ht]
    refine (idx_of hT.dup ?_).symm
    rw [List.getElem?_append_right (Nat.le_refl _)]; simp
  · have := h.drop hi
    unfold addP at this
    rw [if_neg hn] at this
    rw [ht]
    exact this
  · have e1 : encA2 (Lc ++ [b.take i ++ [b[i]]]) bans = encA2 Lc bans ++ [false] := by
      unfold encA2
      rw [List.map_append]
      congr 1
      simp only [List.map_cons, List.map_nil]
      rw [decide_eq_false (fun hb => hn (h.vals _ hb))]
    rw [e1]
    exact hm.congr fun i' u _ _ => (edge_push h.tr h.at' hn i' u).symm
theorem AddS.fin (h : AddS W0 T mb bans F b b.length s w Lc v) : Lc = F ∧ s < F.length ∧ (encA2 Lc bans).set s true = encA2 F (bans ++ [b]) := by
  have hg := h.go
  rw [List.take_length, List.drop_length] at hg
  have hLF : Lc = F := hg
  have hat := h.at'
  rw [List.take_length] at hat
  have hs := (List.getElem?_eq_some_iff.1 hat).1
  refine ⟨hLF, by rw [← hLF]; exact hs, ?_⟩
  subst hLF
  apply List.ext_getElem?
  intro k
  by_cases hk : k < Lc.length
  · rw [List.getElem?_set]
    unfold encA2
    rw [List.getElem?_map, List.getElem?_map, List.getElem?_eq_getElem hk, List.length_map]
    by_cases c : s = k
    · subst c
      have e2 : Lc[s] = b := by rw [List.getElem?_eq_getElem hk] at hat; exact Option.some.inj hat
      rw [if_pos rfl, if_pos hk, e2]
      simp
    · rw [if_neg c]
      have hne : Lc[k] ≠ b := fun e => c (by
        have h1 := idx_of h.tr.dup hat
        have h2 := idx_of h.tr.dup (List.getElem?_eq_getElem hk)
        rw [e] at h2
        omega)
      simp [hne]
  · rw [List.getElem?_eq_none (by simp [encA2]; omega), List.getElem?_eq_none (by simp [encA2]; omega)]
end
set_option maxRecDepth 100000 in
set_option maxHeartbeats 2000000 in
theorem add_any {W0 w : World} {T mb : Nat} {v bv : Value} {bans L F : List (List Nat)} {b : List Nat} (hN : Tree L) (hb : ∀ x ∈ bans, x ∈ L) (hF : F = addB L [] b) (hl : F.length ≤ 190) (hu : ∀ x ∈ b, x < 36) (hlb : b.length ≤ 8)
    (hv : IsIs W0 bv (asI b)) (hm : TrS W0 T mb v (edge L) (encA2 L bans) w) :
    Calls Try.prog 79 #[.pointer (some ⟨T, 0, none⟩), bv] w fun e w' => e = .returned (.tuple #[]) ∧ ∃ v', Hid (TrS W0 T mb v' (edge F) (encA2 F (bans ++ [b])) w') := by
  obtain ⟨i0, hi0, hz0, hz1, hz2⟩ := info_parts Try.infoBoolS
  have HV := Lib.hid hv; have HU := Lib.hid hu
  obtain ⟨ao, c, rfl, -⟩ := hv
  obtain ⟨m, hmm⟩ : ∃ m, m = b.length := ⟨_, rfl⟩
  rw [asI_len, ← hmm]
  rw [asI_len, ← hmm] at HV
  rw [← hmm] at hlb
  have HM := Lib.hid hmm
  have H0 : Hid (AddS W0 T mb bans F b 0 0 w L v) := ⟨hN, hb, by rw [List.take_zero]; exact hN.nil, by rw [List.take_zero]; exact (idx_nil hN).symm, by rw [List.take_zero, List.drop_zero, hF], hm⟩
  have hvs : ∃ a0 n0 c0, v = .slice a0 n0 c0 := by obtain ⟨a, c, h⟩ := row_sl hm.row; exact ⟨a, _, c, h⟩
  clear hmm hu hN hb hF hm
  go_enter Try.func79, Try.ntmps79
  go_wp2_with fail
  go_loopw [4, 6, 7, 8, 9, 12] (fun s4 _ _ _ _ s12 wr => ∃ i s : Nat, i ≤ m ∧ s < 200 ∧ s12 = .int .i64 i ∧ s4 = .int .i64 s ∧ Hid (∃ Lc v, AddS W0 T mb bans F b i s wr Lc v)) (fun _ _ _ _ _ s12 _ => m - (intOf s12).toNat)
  case atStart => exact ⟨0, 0, Nat.zero_le _, by omega, rfl, rfl, L, v, H0.out⟩
  case round =>
    obtain ⟨i, s, hi, hs, rfl, rfl, HA⟩ := hrel
    by_cases q : i < m
    · have q1 : (i : Int) < m := by omega
      have hw : IntKind.i64.wrap ((i : Int) + 1) = ((i + 1 : Nat) : Int) := by rw [IntWalk.i64_in _ (by omega)]; omega
      obtain ⟨Lc, vc, hA⟩ := HA.out
      have HA2 := Lib.hid hA
      have hiu : i < b.length := by rw [← HM.out]; exact q
      obtain ⟨B, o, e1, d0⟩ := HV.out.at' (j := i) (by rw [asI_len]; exact hiu)
      rw [asI_at hiu] at d0
      obtain ⟨x, hx⟩ : ∃ x, x = b[i] := ⟨_, rfl⟩
      rw [← hx] at d0
      have hx36 : x < 36 := by rw [hx]; exact HU.out _ (List.getElem_mem _)
      have hB : B < W0.heap.size := World.block_lt_of_cell? _ _ d0
      have d1 : wr.cell? ⟨B, o + i, none⟩ = some (.int .i64 (x : Int)) := (hA.mem.blw.cell (p := ⟨B, o + i, none⟩) hB).trans d0
      have HX := Lib.hid hx
      subst e1
      clear hx HA hA d0
      go_upto_region 5 with fail
      obtain ⟨w1, hw1⟩ : ∃ w1, w1 = wr.alloc (.cells #[.int .i64 (s : Int), .int .i64 (x : Int)] 118) := ⟨_, rfl⟩
      rw [← hw1]
      have hb1 : Below wr.heap.size wr w1 := by rw [hw1]; exact below_al _ _
      have k0 : w1.cell? ⟨wr.heap.size, 0, none⟩ = some (.int .i64 (s : Int)) := by rw [hw1]; exact World.cell?_alloc_at _ _ _ _ rfl
      have k1 : w1.cell? ⟨wr.heap.size, 1, none⟩ = some (.int .i64 (x : Int)) := by rw [hw1]; exact World.cell?_alloc_at _ _ _ _ rfl
      have hx1 : wr.heap.size < w1.heap.size := World.block_lt_of_cell? _ _ k0
      have HT1 := Lib.hid (HA2.out.mem.below hb1)
      have hT : T < wr.heap.size := HA2.out.mem.lt
      have hmb : mb < wr.heap.size := HA2.out.mem.mp.lt
      obtain ⟨X, hX⟩ : ∃ X, X = wr.heap.size := ⟨_, rfl⟩
      rw [← hX] at k0 k1 hx1 hT hmb ⊢
      have HB1 := Lib.hid hb1
      clear hw1 hb1 hX d1
      obtain ⟨fe, hfe⟩ : ∃ fe, fe = edge Lc s x := ⟨_, rfl⟩
      have hlk : ∀ q, (Instr.lookup 76 (.map (some mb)) (.agg #[.int .i64 (s : Int), .int .i64 (x : Int)]) true).run Try.prog (w1.drewN q) = .ok (.tuple #[.int .i64 ((fe.getD 0 : Nat) : Int), .bool fe.isSome]) (w1.drewN q) := fun q => by
        rw [hfe]
        exact (HT1.out.mp.below (below_dr w1 q)).get2 (a := (s, x)) Try.underlying76 ⟨hs, by omega⟩
      have HFE := Lib.hid hfe
      clear hfe
      have c0 := HT1.out.c0
      cases fe with
      | some j =>
        have hlk2 : ∀ q, (Instr.lookup 76 (.map (some mb)) (.agg #[.int .i64 (s : Int), .int .i64 (x : Int)]) true).run Try.prog (w1.drewN q) = .ok (.tuple #[.int .i64 (j : Int), .bool true]) (w1.drewN q) := hlk
        clear hlk
        go_wp2_with fail
        go_quiet (fail)
        rename_i nq
        have HT2 : Hid (TrS W0 T mb vc (edge Lc) (encA2 Lc bans) (World.drewN w1 nq)) := HT1.out.below (below_dr w1 nq)
        clear k0 k1 hlk2 c0
        generalize World.drewN w1 nq = w2 at HT2 ⊢
        have HN : Hid (AddS W0 T mb bans F b (i + 1) j w2 Lc vc ∧ j < Lc.length) := HA2.out.yes hiu (by rw [← HX.out]; exact HFE.out.symm) HT2.out
        have hj : j < 200 := by have h1 := HN.out.2; have h2 := HA2.out.len; omega
        go_wp2_with fail
        go_roundw
        case rel => exact ⟨i + 1, j, q, hj, by go_num, rfl, Lc, vc, HN.out.1⟩
        case measure => simp [intOf]; omega
      | none =>
        have hlk2 : ∀ q, (Instr.lookup 76 (.map (some mb)) (.agg #[.int .i64 (s : Int), .int .i64 (x : Int)]) true).run Try.prog (w1.drewN q) = .ok (.tuple #[.int .i64 0, .bool false]) (w1.drewN q) := hlk
        clear hlk
        go_wp2_with fail
        go_quiet (fail)
        rename_i nq
        have HT2 : Hid (TrS W0 T mb vc (edge Lc) (encA2 Lc bans) (World.drewN w1 nq)) := HT1.out.below (below_dr w1 nq)
        have k0' : (World.drewN w1 nq).cell? ⟨X, 0, none⟩ = some (.int .i64 (s : Int)) := k0
        have k1' : (World.drewN w1 nq).cell? ⟨X, 1, none⟩ = some (.int .i64 (x : Int)) := k1
        have hx1' : X < (World.drewN w1 nq).heap.size := hx1
        clear k0 k1 hlk2 c0 hx1
        generalize World.drewN w1 nq = w2 at *
        obtain ⟨N, hN⟩ : ∃ N, N = Lc.length := ⟨_, rfl⟩
        have hN200 : N < 200 := by have h2 := HA2.out.len; omega
        obtain ⟨ea, ec, hvc⟩ := row_sl HT2.out.row
        rw [encA2_len, ← hN] at hvc
        subst hvc
        have c0 := HT2.out.c0
        have c1 := HT2.out.c1
        have c0' : w2.drew.cell? ⟨T, 0, none⟩ = some (.map (some mb)) := c0
        have k0'' : w2.drew.cell? ⟨X, 0, none⟩ = some (.int .i64 (s : Int)) := k0'
        have k1'' : w2.drew.cell? ⟨X, 1, none⟩ = some (.int .i64 (x : Int)) := k1'
        have HN := Lib.hid hN
        obtain ⟨w3, hup, HM3, HG3⟩ := (HT2.out.mp.below (below_dr w2 1)).put (a := (s, x)) (t := 76) Try.underlying76 ⟨hs, by omega⟩ (j := N) (by omega)
        have HUP : (Instr.mapUpdate 76 (.map (some mb)) (.agg #[.int .i64 (s : Int), .int .i64 (x : Int)]) (.int .i64 (N : Int))).run Try.prog w2.drew = .ok () w3 := hup
        have HM3' := Lib.hid HM3; have HG3' := Lib.hid HG3
        clear hup HM3 HG3 hN
        go_upto_region 8 with fail
        have HT3 : Hid (TrS W0 T mb (.slice ea N ec) (fun i' u => if i' = s ∧ u = x then some N else edge Lc i' u) (encA2 Lc bans) w3) := by
          have h2 := HT2.out
          have hg : w2.grownBy w3 (some mb) := ⟨HG3'.out.os, HG3'.out.tape, HG3'.out.output, HG3'.out.size, HG3'.out.block⟩
          refine ⟨hg.cell h2.c0 (fun e => h2.n1 (Option.some.inj e)), hg.cell h2.c1 (fun e => h2.n1 (Option.some.inj e)), (World.frozen?_of_block (hg.block _ h2.lt (fun e => h2.n1 (Option.some.inj e)))).trans h2.f1, ?_, h2.row.kept hg (.inr fun e => h2.n3 e.symm), h2.blw.grown hg h2.blw.size (fun j hj => by injection hj with hj; rw [← hj]; exact h2.bm), h2.n1, h2.n2, h2.n3, h2.bT, h2.bm⟩
          refine HM3'.out.congr fun a _ => ?_
          show (if a = (s, x) then some N else edge Lc a.1 a.2) = if a.1 = s ∧ a.2 = x then some N else edge Lc a.1 a.2
          by_cases c : a.1 = s ∧ a.2 = x
          · rw [if_pos c, if_pos (Prod.ext c.1 c.2)]
          · rw [if_neg c, if_neg (fun e => c ⟨by rw [e], by rw [e]⟩)]
        go_cut [] from 35 to 40 (fun wz => wz = w3)
        case first =>
          go_region
          all_goals go_wp2_with fail
          all_goals go_meet
          all_goals rfl
        case rest =>
          obtain rfl := hcut
          have hrow : wc.ownsRow W0.heap.size 4 1 (.slice ea N ec) N (encB (encA2 Lc bans)) := by
            have := HT3.out.row
            rwa [encA2_len, ← HN.out] at this
          have HGR : Hid (∀ v' w8, (wc.alloc (.cells #[.bool false] 4)).grownBy w8 (Value.slice ea N ec).ownBlock → (v'.ownBlock = (Value.slice ea N ec).ownBlock ∨ v'.ownBlock = some (wc.alloc (.cells #[.bool false] 4)).heap.size) → w8.ownsRow W0.heap.size 4 1 v' (N + 1) (encB (encA2 Lc bans) ++ [.bool false]) → w8.cell? ⟨T, 1, none⟩ = some (.slice ea N ec) ∧ w8.frozen? ⟨T, 1, none⟩ = false ∧ AddS W0 T mb bans F b (i + 1) N (w8.setCell ⟨T, 1, none⟩ v') (Lc ++ [b.take i ++ [b[i]]]) v') := fun v' w8 hg hat hown => by
            have h3 := HT3.out.grow (es' := encA2 Lc bans ++ [false]) hg hat (by rw [List.length_append, encA2_len, ← HN.out, List.length_singleton, show encB (encA2 Lc bans ++ [false]) = encB (encA2 Lc bans) ++ [.bool false] by simp [encB]]; exact hown)
            refine ⟨h3.1, h3.2.1, ?_⟩
            have := HA2.out.no hiu (by rw [← HX.out]; exact HFE.out.symm) (w' := w8.setCell ⟨T, 1, none⟩ v') (v' := v') (by rw [← HN.out, ← HX.out]; exact h3.2.2)
            rw [← HN.out] at this
            exact this
          have c1c := HT3.out.c1
          have hbz : W0.heap.size ≤ wc.heap.size := HT3.out.blw.size
          have HROW := Lib.hid hrow
          clear hrow HUP HM3' HG3' HT2 k0' k1' k0'' k1'' c0 c1 c0' HT3 HT1
          go_upto_region 10 with (at_builtin; refine wpList_append_own_at _ rfl _ _ 112 rfl W0.heap.size 4 i0 (.bool false) 1 1 Try.underlying112 hi0 hz0 hz1 hz2 rfl (by decide) (.slice ea N ec) N (encB (encA2 Lc bans)) rfl (HROW.out.alloc _) ⟨wc.heap.size, 0, none⟩ 1 1 [.bool false] rfl rfl (cell_one_new _ _ _) (by simp [Value.oneCell']) (by unfold maxLen; omega) (by omega) (by simp; omega) ?_; intro v' w8 hown hgrow _ hat; have hgr := HGR.out v' w8 hgrow hat hown; have g1 := hgr.1; have g2 := hgr.2.1; obtain ⟨so2, sc2, rfl⟩ := row_sl hown)
          have HN2 := Lib.hid hgr.2.2
          clear hgr g1 g2 hown hgrow hat HGR
          generalize World.setCell _ _ _ = w9 at HN2 ⊢
          go_wp2_with fail
          go_roundw
          case rel => exact ⟨i + 1, N, q, hN200, by go_num, rfl, _, _, HN2.out⟩
          case measure => simp [intOf]; omega
    · obtain rfl : i = m := by omega
      have q1 : ¬ (i : Int) < i := by omega
      obtain ⟨Lc, vc, hA⟩ := HA.out
      have hF := hA
      rw [HM.out] at hF
      obtain ⟨e1, e2, e3⟩ := hF.fin
      have hpos : 0 < (encA2 Lc bans).length := by rw [encA2_len, e1]; omega
      obtain ⟨g, cap, rfl, -, -⟩ := row_so hpos hA.mem.row
      have c1 := hA.mem.c1
      have hsl : s < (encA2 Lc bans).length := by rw [encA2_len, e1]; exact e2
      obtain ⟨k0, k1⟩ := hA.mem.cE hsl
      have HF : Hid (TrS W0 T mb (.slice (some ⟨g, 0, none⟩) (encA2 Lc bans).length cap) (edge F) (encA2 F (bans ++ [b])) (wr.setCell ⟨g, s, none⟩ (.bool true))) := by
        have := hA.mem.setE rfl s true
        rw [e3] at this
        rw [e1] at this ⊢
        exact this
      have hsl2 : (s : Int) < ((encA2 Lc bans).length : Int) := by omega
      obtain ⟨bb, k2⟩ : ∃ bb : Bool, wr.cell? ⟨g, s, none⟩ = some (.bool bb) := ⟨_, k0⟩
      clear k0 hA hF e1 e2 e3 HA
      generalize (encA2 Lc bans).length = nn at *
      go_wp2_with fail
      go_end0
      exact ⟨rfl, _, HF⟩
end Go.Proofs.Ytgblfobomiiofaa
