/- The contract of Parse, for every string that is not too long; the law NatParses: the walk. -/
import Derived.Test.YtgidmlffjelpnaaDoorSl
import Derived.Test.YtgidmlffjelpnaaDoorKp
namespace Go.Proofs.YtgidmlffjelpnaaDoor
open Go Go.RowKit Gu

def parE (l : List UInt8) : Int := if isNum l = true then fitE (sval l) else 4
def parN (l : List UInt8) : Nat := if isNum l = true then fitN (sval l) else 0
theorem sval_top {l : List UInt8} (h : isNum l = true) (h1 : 1 < l.length) : 10 ^ (l.length - 1) ≤ sval l := by
  cases l with
  | nil => simp at h1
  | cons c l =>
    unfold isNum at h
    simp only [Bool.and_eq_true, List.all_cons] at h
    obtain ⟨⟨-, h2⟩, h3, -⟩ := h
    have h4 : c ≠ 48 := by
      intro e
      subst e
      have h6 : decide (1 < (48 :: l : List UInt8).length) = true := decide_eq_true h1
      rw [h6] at h2
      exact absurd h2 (by simp)
    obtain ⟨d1, d2⟩ := (digit_iff c).1 h3
    have h5 : c.toNat ≠ 48 := fun e => h4 (UInt8.toNat_inj.1 (by rw [e]; rfl))
    have e1 : sval (c :: l) = sval [c] * 10 ^ l.length + sval l := sval_append [c] l
    have e2 : sval [c] = c.toNat - 48 := by simp [sval]
    rw [e1, e2, List.length_cons, Nat.add_sub_cancel]
    have e3 : 1 * 10 ^ l.length ≤ (c.toNat - 48) * 10 ^ l.length := Nat.mul_le_mul_right _ (by omega)
    omega
theorem sval_big {l : List UInt8} (h : isNum l = true) (h1 : 5000 < l.length) : 16384 < nd 2 (sval l) := by
  have h2 := sval_top h (by omega)
  rcases Nat.lt_or_ge 16384 (nd 2 (sval l)) with h3 | h3
  · exact h3
  · exfalso
    obtain ⟨k, hk⟩ : ∃ k, k = 178 := ⟨_, rfl⟩
    have h4 : sval l < 2 ^ (93 * k) := (nd_le (by decide)).1 (by omega)
    have h5 : 2 ^ (93 * k) ≤ 10 ^ (28 * k) := by rw [Nat.pow_mul, Nat.pow_mul]; exact Nat.pow_le_pow_left (by decide) _
    have h6 : 10 ^ (28 * k) ≤ 10 ^ (l.length - 1) := Nat.pow_le_pow_right (by decide) (by omega)
    omega
set_option maxHeartbeats 400000 in
theorem readNumeral_long (s : ByteArray) (w : World) (hs : s.size ≤ 1048576) (hl : 5463 < s.size) :
    Calls Tryd.prog 45 #[.string s] w fun e w' => e = .returned (.tuple #[.agg #[.slice none 0 0], .int .i64 3]) ∧ Below w.heap.size w w' := by
  have hl' : (5463 : Int) < s.size := by omega
  go_enter Tryd.func45, Tryd.ntmps45
  go_wp2
  refine bodyPost_ret (v := .tuple #[.agg #[.slice none 0 0], .int .i64 3]) (by simp [results, Tryd.results45, go_sem]) rfl ⟨rfl, (Below.refl _ _).alloc (Nat.le_refl _) _⟩
set_option maxHeartbeats 400000 in
theorem Parse_no (s : ByteArray) (w : World) (hs : s.size ≤ 1048576) (hd : isNum s.data.toList = false) :
    Calls Tryd.prog 12 #[.string s] w fun e w' => e = .returned (.tuple #[.agg #[.slice none 0 0], .int .i64 4]) ∧ Below w.heap.size w w' := by
  have HI := Lib.hid (fun w => isNumeral_any s w hs)
  rw [hd] at HI
  clear hd
  go_enter Tryd.func12, Tryd.ntmps12
  go_wp2_with fail
  refine (HI.out _).mono ?_
  rintro e w' ⟨rfl, rfl⟩
  go_wp2
  refine bodyPost_ret (v := .tuple #[.agg #[.slice none 0 0], .int .i64 4]) (by simp [results, Tryd.results12, go_sem]) rfl ⟨rfl, (Below.refl _ _).alloc (Nat.le_refl _) _⟩
set_option maxHeartbeats 400000 in
theorem Parse_long (s : ByteArray) (w : World) (hs : s.size ≤ 1048576) (hl : 5463 < s.size) (hd : isNum s.data.toList = true) :
    Calls Tryd.prog 12 #[.string s] w fun e w' => e = .returned (.tuple #[.agg #[.slice none 0 0], .int .i64 3]) ∧ Below w.heap.size w w' := by
  have HI := Lib.hid (fun w => isNumeral_any s w hs)
  rw [hd] at HI
  have HR := Lib.hid (fun w => readNumeral_long s w hs hl)
  clear hd
  go_enter Tryd.func12, Tryd.ntmps12
  go_wp2_with fail
  refine (HI.out _).mono ?_
  rintro e w' ⟨rfl, rfl⟩
  go_wp2_with fail
  refine (HR.out _).mono ?_
  rintro e w5 ⟨rfl, hb5⟩
  have d0 : w5.cell? ⟨w.heap.size, 0, none⟩ = some (.slice none 0 0) := (hb5.cell (p := ⟨w.heap.size, 0, none⟩) (by simp)).trans (World.cell?_alloc_at _ _ _ _ rfl)
  have g0 : w5.frozen? ⟨w.heap.size, 0, none⟩ = false := (hb5.frozen (p := ⟨w.heap.size, 0, none⟩) (by simp)).trans (World.frozen?_alloc_at _ _ _ _ rfl)
  have HBF := Lib.hid (((Below.refl w.heap.size w).alloc (Nat.le_refl _) (.cells #[.slice none 0 0] 26)).trans (hb5.mono (by simp)))
  clear hb5
  go_wp2
  refine bodyPost_ret (v := .tuple #[.agg #[.slice none 0 0], .int .i64 3]) (by simp [results, Tryd.results12, go_sem, d0]) rfl ⟨rfl, HBF.out.setCell (Nat.le_refl _) _⟩
theorem Parse_all (s : ByteArray) (w : World) (hs : s.size ≤ 1048576) :
    Calls Tryd.prog 12 #[.string s] w fun e w' => ∃ r, e = .returned (.tuple #[.agg #[r], .int .i64 (parE s.data.toList)]) ∧ D w' r (parN s.data.toList) ∧ Below w.heap.size w w' := by
  unfold parE parN
  by_cases hn : isNum s.data.toList = true
  · rw [if_pos hn, if_pos hn]
    by_cases hl : s.size ≤ 5463
    · exact Parse_num s w hl hn
    · have hb := sval_big hn (by rw [len_data]; omega)
      rw [show fitE (sval s.data.toList) = 3 from if_neg (by omega), show fitN (sval s.data.toList) = 0 from if_neg (by omega)]
      exact (Parse_long s w hs (by omega) hn).mono fun e w' ⟨he, hB⟩ => ⟨_, he, IsN.zero _ _ _ _ _, hB⟩
  · rw [if_neg hn, if_neg hn]
    exact (Parse_no s w hs (by simpa using hn)).mono fun e w' ⟨he, hB⟩ => ⟨_, he, IsN.zero _ _ _ _ _, hB⟩
theorem RParse_all (s : ByteArray) (w : World) (hs : s.size ≤ 1048576) :
    Calls Tryd.prog 13 #[.string s] w fun e w' => ∃ r, e = .returned (.tuple #[r, .int .i64 (parE s.data.toList)]) ∧ R w' r (parN s.data.toList) ∧ Below w.heap.size w w' := by
  unfold parE parN
  by_cases hn : isNum s.data.toList = true
  · rw [if_pos hn, if_pos hn]
    by_cases hl : s.size ≤ 5000
    · exact RParse_yes s w hl hn
    · have hb := sval_big hn (by rw [len_data]; omega)
      rw [show fitE (sval s.data.toList) = 3 from if_neg (by omega), show fitN (sval s.data.toList) = 0 from if_neg (by omega)]
      exact (RParse_long s w hs (by omega) hn).mono fun e w' ⟨he, hw⟩ => ⟨_, he, IsN.zero _ _ _ _ _, by rw [← hw]; exact Below.refl _ _⟩
  · rw [if_neg hn, if_neg hn]
    exact (RParse_no s w hs (by simpa using hn)).mono fun e w' ⟨he, hw⟩ => ⟨_, he, IsN.zero _ _ _ _ _, by rw [← hw]; exact Below.refl _ _⟩
theorem par_cases (l : List UInt8) : (parE l = 0 ∧ nd 2 (parN l) ≤ 16384) ∨ (parE l ≠ 0 ∧ parN l = 0) := by
  unfold parE parN fitE fitN
  split
  · split
    · exact .inl ⟨rfl, by assumption⟩
    · exact .inr ⟨by decide, rfl⟩
  · exact .inr ⟨by decide, rfl⟩
set_option maxHeartbeats 2000000 in
theorem natParses_walk (s : ByteArray) (w : World) (he : Env w) :
    Calls Tryd.prog 3 #[.string s] w fun e w' => e = .returned (.bool true) ∧ Below w.heap.size w w' := by
  have HS0 := Lib.hid (Kp.start he)
  by_cases hl : 6000 < s.size
  · have hl' : (6000 : Int) < s.size := by omega
    have HAW := Lib.hid (awake_any w he)
    clear he
    go_enter Tryd.func3, Tryd.ntmps3
    go_wp2_with fail
    refine HAW.out.mono ?_
    rintro e w1 ⟨rfl, hb⟩
    have HB := Lib.hid hb
    clear hb
    go_wp2
    go_ret
    exact ⟨by simp, HB.out⟩
  · have hl' : ¬ ((6000 : Int) < s.size) := by omega
    have HP := Lib.hid (Parse_all s w (by omega))
    have HR := Lib.hid (fun W => RParse_all s W (by omega))
    have HPC := Lib.hid (par_cases s.data.toList)
    generalize parE s.data.toList = pe at *
    generalize parN s.data.toList = pn at *
    clear he
    go_enter Tryd.func3, Tryd.ntmps3
    go_wp2_with fail
    refine HP.out.mono ?_
    rintro e w1 ⟨xv, rfl, hx, hb⟩
    obtain ⟨xo, xc, rfl, -⟩ := hx.shape
    have HS1 := Lib.hid (((HS0.out.next hb).addNum hx).boxed (.slice xo (nd 4294967296 pn) xc) 26)
    clear hb hx HS0
    go_wp2_with fail
    refine (HR.out _).mono ?_
    rintro e w2 ⟨av, rfl, ha, hb⟩
    obtain ⟨ao, ac, rfl, -⟩ := ha.shape
    have HS2 := Lib.hid ((HS1.out.next hb).addDig ha)
    have HT : Hid (Calls Tryd.prog 14 #[.agg #[.slice xo (nd 4294967296 pn) xc], .int .i64 pe, .slice ao (nd 65536 pn) ac, .int .i64 pe] w2 fun e w' => e = .returned (.bool true) ∧ Below w2.heap.size w2 w') := by
      rcases HPC.out with ⟨h1, h2⟩ | ⟨h1, h2⟩
      · rw [h1]
        obtain ⟨K, hK, h2⟩ : ∃ K, K ≤ 16384 ∧ nd 2 pn ≤ K := ⟨_, Nat.le_refl _, h2⟩
        have h3 := (nd_le (by decide : 2 ≤ 2)).1 h2
        exact told_is _ _ pn w2 (HS2.out.num _ (.head _)) (HS2.out.dig _ (.head _))
          (Nat.le_trans ((nd_le (by decide : 2 ≤ 4294967296)).2 (Nat.lt_of_lt_of_le h3 (Nat.pow_le_pow_left (by decide) _))) (by omega))
          (Nat.le_trans ((nd_le (by decide : 2 ≤ 65536)).2 (Nat.lt_of_lt_of_le h3 (Nat.pow_le_pow_left (by decide) _))) (by omega)) HS2.out.env
      · have hn := HS2.out.num _ (.head _)
        subst h2
        exact told_err2 _ _ pe w2 hn h1 HS2.out.env
    have c2 := HS2.out.cell (.head _)
    clear hb ha HS1
    go_wp2_with fail
    refine HT.out.mono ?_
    rintro e w3 ⟨rfl, hb⟩
    have HS3 := Lib.hid (HS2.out.next hb)
    clear hb c2 HS2 HT
    go_wp2_with fail
    refine (awake_K HS3.out).mono ?_
    rintro e w4 ⟨rfl, hs⟩
    have HS4 := Lib.hid hs
    clear hs
    go_wp2
    go_ret
    exact ⟨by simp, HS4.out.bel⟩
end Go.Proofs.YtgidmlffjelpnaaDoor
