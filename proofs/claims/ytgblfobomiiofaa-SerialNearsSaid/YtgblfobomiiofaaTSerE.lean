/- Contracts and lemmas (several texts merged into one). -/
import Derived.Test.YtgblfobomiiofaaTSerB
import Derived.Shelf.SlSortCmp.Insertion
import Derived.Shelf.Slices.Clone
import Derived.Shelf.SlLaysF
import Derived.Ground.Names2Prog
import Derived.Ground.SlsfProg
import Derived.Test.YtgblfobomiiofaaProg
import Derived.Shelf.SlSortCmp.Kit1
namespace Go.Proofs.Ytgblfobomiiofaa
open Go Go.RowKit Go.Shelf Gw Go.Maps

theorem dbl_eq {A s : Nat} (h : s ≤ A) : 2 * s % (A + 1) = if 2 * s ≤ A then 2 * s else 2 * s - (A + 1) := by
  split
  · exact Nat.mod_eq_of_lt (by omega)
  · rw [Nat.mod_eq_sub_mod (by omega)]
    exact Nat.mod_eq_of_lt (by omega)
theorem shf_eq {A p v : Nat} (h1 : 1 ≤ p) (h2 : p ≤ A) (hv : v < A) : (if (p + v) % A = 0 then A else (p + v) % A) = if p + v ≤ A then p + v else p + v - A := by
  rcases Nat.lt_trichotomy (p + v) A with h | h | h
  · rw [Nat.mod_eq_of_lt h, if_neg (by omega), if_pos (by omega)]
  · rw [h, Nat.mod_self, if_pos rfl, if_pos (Nat.le_refl _)]
  · have e : (p + v) % A = p + v - A := by
      rw [Nat.mod_eq_sub_mod (by omega)]
      exact Nat.mod_eq_of_lt (by omega)
    rw [e, if_neg (by omega), if_neg (by omega)]
theorem nc_eq {A p v : Nat} (h1 : 1 ≤ p) (h2 : p ≤ A) (hv : v < A) : ∃ s, 1 ≤ s ∧ s ≤ A ∧ (s = if p + v ≤ A then p + v else p + v - A) ∧ ncN A p v = if 2 * s ≤ A then 2 * s else 2 * s - (A + 1) := by
  refine ⟨if p + v ≤ A then p + v else p + v - A, ?_, ?_, rfl, ?_⟩
  · split <;> omega
  · split <;> omega
  · unfold ncN
    rw [shf_eq h1 h2 hv]
    exact dbl_eq (by split <;> omega)
theorem nc_pos {A p v : Nat} (hA : A % 2 = 0) (h1 : 1 ≤ p) (h2 : p ≤ A) (hv : v < A) : 1 ≤ ncN A p v := by
  obtain ⟨s, a, b, _, e⟩ := nc_eq h1 h2 hv
  rw [e]
  split <;> omega
theorem nc_injV {A p v w : Nat} (hA : A % 2 = 0) (h1 : 1 ≤ p) (h2 : p ≤ A) (hv : v < A) (hw : w < A) (h : ncN A p v = ncN A p w) : v = w := by
  obtain ⟨s, a, b, c, e⟩ := nc_eq h1 h2 hv
  obtain ⟨s', a', b', c', e'⟩ := nc_eq h1 h2 hw
  rw [e, e'] at h
  have hs : s = s' := by split at h <;> split at h <;> omega
  rw [c, c'] at hs
  split at hs <;> split at hs <;> omega
theorem nc_injP {A p q v : Nat} (hA : A % 2 = 0) (h1 : 1 ≤ p) (h2 : p ≤ A) (g1 : 1 ≤ q) (g2 : q ≤ A) (hv : v < A) (h : ncN A p v = ncN A q v) : p = q := by
  obtain ⟨s, a, b, c, e⟩ := nc_eq h1 h2 hv
  obtain ⟨s', a', b', c', e'⟩ := nc_eq g1 g2 hv
  rw [e, e'] at h
  have hs : s = s' := by split at h <;> split at h <;> omega
  rw [c, c'] at hs
  split at hs <;> split at hs <;> omega
theorem lc_eq {A p : Nat} (hA : 2 ≤ A) (h1 : 1 ≤ p) (h2 : p ≤ A) : lcN A p = if p = 1 then 0 else A + 1 - p := by
  unfold lcN
  split
  · rw [show A + 1 - p = A by omega, Nat.mod_self]
  · exact Nat.mod_eq_of_lt (by omega)
theorem lc_inj {A p q : Nat} (hA : 2 ≤ A) (h1 : 1 ≤ p) (h2 : p ≤ A) (g1 : 1 ≤ q) (g2 : q ≤ A) (h : lcN A p = lcN A q) : p = q := by
  rw [lc_eq hA h1 h2, lc_eq hA g1 g2] at h
  split at h <;> split at h <;> omega
theorem chk_rng {A : Nat} (hA : A % 2 = 0) : ∀ {u : List Nat} {p : Nat}, 1 ≤ p → p ≤ A → (∀ v ∈ u, v < A) → 1 ≤ chk (ncN A) p u ∧ chk (ncN A) p u ≤ A
  | [], _, h1, h2, _ => ⟨h1, h2⟩
  | v :: u, p, h1, h2, hu => chk_rng hA (u := u) (p := ncN A p v) (nc_pos hA h1 h2 (hu v (by simp))) ncN_le (fun x hx => hu x (by simp [hx]))
theorem chk_inj {A : Nat} (hA : A % 2 = 0) : ∀ {u : List Nat} {p q : Nat}, 1 ≤ p → p ≤ A → 1 ≤ q → q ≤ A → (∀ v ∈ u, v < A) → chk (ncN A) p u = chk (ncN A) q u → p = q
  | [], _, _, _, _, _, _, _, h => h
  | v :: u, p, q, h1, h2, g1, g2, hu, h => by
    have hv : v < A := hu v (by simp)
    have h3 := chk_inj hA (u := u) (p := ncN A p v) (q := ncN A q v) (nc_pos hA h1 h2 hv) ncN_le (nc_pos hA g1 g2 hv) ncN_le (fun x hx => hu x (by simp [hx])) h
    exact nc_injP hA h1 h2 g1 g2 hv h3
theorem chk_app (nc : Nat → Nat → Nat) : ∀ (l u : List Nat) (p : Nat), chk nc p (l ++ u) = chk nc (chk nc p l) u
  | [], _, _ => rfl
  | v :: l, u, p => chk_app nc l u (nc p v)
/-- two texts that end well and differ at one position alone are none -/
theorem ends_apart {A n i b : Nat} {x : List Nat} (hA : A % 2 = 0) (h2 : 2 ≤ A) (hl : x.length = n + 1) (hx : ∀ v ∈ x, v < A) (hi : i < x.length) (hb : b < A) (hne : b ≠ x[i]) (e1 : endsB A n true x = true) : endsB A n true (x.set i b) = false := by
  cases e2 : endsB A n true (x.set i b) with
  | false => rfl
  | true =>
  exfalso
  unfold endsB at e1 e2
  have f1 : x.getD n 0 = lcN A (chk (ncN A) A (x.take n)) := by simpa using e1
  have f2 : (x.set i b).getD n 0 = lcN A (chk (ncN A) A ((x.set i b).take n)) := by simpa using e2
  have htk : ∀ v ∈ x.take n, v < A := fun v hv => hx v (List.mem_of_mem_take hv)
  by_cases q : i < n
  · have g1 : (x.set i b).getD n 0 = x.getD n 0 := by
      rw [List.getD_eq_getElem?_getD, List.getD_eq_getElem?_getD, List.getElem?_set_ne (by omega)]
    rw [g1, f1] at f2
    have hlt : i < (x.take n).length := by rw [List.length_take]; omega
    have s1 : x.take n = (x.take n).take i ++ x[i] :: (x.take n).drop (i + 1) := by
      have h5 := List.take_append_drop i (x.take n)
      rw [List.drop_eq_getElem_cons hlt] at h5
      rw [List.getElem_take] at h5
      exact h5.symm
    have s2 : (x.set i b).take n = (x.take n).take i ++ b :: (x.take n).drop (i + 1) := by
      rw [List.take_set, List.set_eq_take_append_cons_drop, if_pos hlt]
    have hT : ∀ v ∈ (x.take n).take i, v < A := fun v hv => htk v (List.mem_of_mem_take hv)
    have hD : ∀ v ∈ (x.take n).drop (i + 1), v < A := fun v hv => htk v (List.mem_of_mem_drop hv)
    have hxi : x[i] < A := hx _ (List.getElem_mem hi)
    have hr2 := chk_rng hA (u := (x.set i b).take n) (p := A) (by omega) (Nat.le_refl _) (fun v hv => by
      rw [s2] at hv
      rcases List.mem_append.1 hv with h | h
      · exact hT v h
      · rcases List.mem_cons.1 h with rfl | h
        · exact hb
        · exact hD v h)
    have hr1 := chk_rng hA (u := x.take n) (p := A) (by omega) (Nat.le_refl _) htk
    have h6 := lc_inj h2 hr1.1 hr1.2 hr2.1 hr2.2 f2
    rw [s1, s2, chk_app, chk_app] at h6
    have hp := chk_rng hA (u := (x.take n).take i) (p := A) (by omega) (Nat.le_refl _) hT
    have h7 : ncN A (chk (ncN A) A ((x.take n).take i)) x[i] = ncN A (chk (ncN A) A ((x.take n).take i)) b := chk_inj hA (nc_pos hA hp.1 hp.2 hxi) ncN_le (nc_pos hA hp.1 hp.2 hb) ncN_le hD h6
    exact hne (nc_injV hA hp.1 hp.2 hxi hb h7).symm
  · obtain rfl : i = n := by omega
    have g1 : (x.set i b).getD i 0 = b := by
      rw [List.getD_eq_getElem?_getD, List.getElem?_set_self hi]; rfl
    have g2 : (x.set i b).take i = x.take i := List.take_set_of_le (Nat.le_refl _)
    have g3 : x.getD i 0 = x[i] := by
      rw [List.getD_eq_getElem?_getD, List.getElem?_eq_getElem hi]; rfl
    rw [g1, g2] at f2
    rw [g3] at f1
    exact hne (f2.trans f1.symm)
end Go.Proofs.Ytgblfobomiiofaa
namespace Go.Proofs.Ytgblfobomiiofaa
open Go Go.RowKit Go.Shelf Gw Go.Maps

/-- at how many of the first i positions two strings differ -/
def apT (a b : ByteArray) (i : Nat) : Nat := (List.range i).countP fun j => decide ((bys a).getD j 0 ≠ (bys b).getD j 0)
theorem apT_succ (a b : ByteArray) {i : Nat} (h : i < a.size) (h2 : i < b.size) : apT a b (i + 1) = apT a b i + if a[i] = b[i] then 0 else 1 := by
  unfold apT
  rw [List.range_succ, List.countP_append]
  have e1 : (bys a).getD i 0 = a[i] := by rw [List.getD_eq_getElem?_getD, List.getElem?_eq_getElem (by rw [bys_len]; exact h)]; rfl
  have e2 : (bys b).getD i 0 = b[i] := by rw [List.getD_eq_getElem?_getD, List.getElem?_eq_getElem (by rw [bys_len]; exact h2)]; rfl
  rw [List.countP_singleton, e1, e2]
  by_cases c : a[i] = b[i]
  · simp [c]
  · simp [c]
theorem apT_le (a b : ByteArray) (i : Nat) : apT a b i ≤ i := by
  unfold apT
  have := List.countP_le_length (p := fun j => decide ((bys a).getD j 0 ≠ (bys b).getD j 0)) (l := List.range i)
  rwa [List.length_range] at this
set_option maxRecDepth 100000 in
set_option maxHeartbeats 2000000 in
theorem RApart_any {a b : ByteArray} (hs : b.size = a.size) (hl : a.size ≤ 1000) (w : World) : Calls Try.prog 39 #[.string a, .string b] w fun e w' => e = .returned (.int .i64 ((apT a b a.size : Nat) : Int)) ∧ Hid (Below w.heap.size w w') := by
  obtain ⟨R, hR⟩ : ∃ R, R = apT a b a.size := ⟨_, rfl⟩
  rw [← hR]
  have HRR := Lib.hid hR
  clear hR
  go_enter Try.func39, Try.ntmps39
  go_wp2_with fail
  go_loopw [5, 6] (fun s5 s6 wr => ∃ i n : Nat, i ≤ a.size ∧ n ≤ i ∧ s5 = .int .i64 n ∧ s6 = .int .i64 i ∧ Hid (n = apT a b i) ∧ Hid (Below w.heap.size w wr)) (fun _ s6 _ => a.size - (intOf s6).toNat)
  case atStart => exact ⟨0, 0, Nat.zero_le _, Nat.le_refl _, rfl, rfl, rfl, Below.refl _ _⟩
  case round =>
    obtain ⟨i, n, hi, hn, rfl, rfl, HN, HB⟩ := hrel
    by_cases q : i < a.size
    · have q1 : (i : Int) < (a.size : Int) := by omega
      have qb : i < b.size := by omega
      obtain ⟨i1, hi1⟩ : ∃ i1, i1 = i + 1 := ⟨_, rfl⟩
      have hw : IntKind.i64.wrap ((i : Int) + 1) = (i1 : Int) := by rw [IntWalk.i64_in _ (by omega)]; omega
      obtain ⟨n1, hn1⟩ : ∃ n1, n1 = n + 1 := ⟨_, rfl⟩
      have hwn : IntKind.i64.wrap ((n : Int) + 1) = (n1 : Int) := by rw [IntWalk.i64_in _ (by omega)]; omega
      have hix := fun W => index_str q W
      have hiy := fun W => index_str qb W
      have hst := apT_succ a b q qb
      have him : a.size - i1 < a.size - i := by omega
      have hil : i1 ≤ a.size := by omega
      obtain ⟨x, hx⟩ : ∃ x, x = a[i] := ⟨_, rfl⟩
      obtain ⟨y, hy⟩ : ∃ y, y = b[i] := ⟨_, rfl⟩
      rw [← hx] at hix hst
      rw [← hy] at hiy hst
      rw [← HN.out, ← hi1] at hst
      clear hx hy
      by_cases c : x = y
      · subst c
        have c2 : ((x.toNat : Int) != (x.toNat : Int)) = false := by simp
        rw [if_pos rfl] at hst
        have HN2 : Hid (n = apT a b i1) := by show n = _; omega
        have hn2 : n ≤ i1 := by omega
        clear hst hi1 hn1
        go_upto_region 5 with fail
        go_quiet (fail)
        rename_i nq
        have HBq := Lib.hid (HB.out.trans ((below_dr wr nq).mono HB.out.size))
        go_wp2_with fail
        go_roundw
        case rel => exact ⟨i1, n, hil, hn2, by go_num, by go_num, HN2, HBq⟩
        case measure => simp [intOf]; omega
      · have c2 : ((x.toNat : Int) != (y.toNat : Int)) = true := by
          rw [bne_iff_ne]
          intro e
          exact c (UInt8.toNat_inj.1 (by omega))
        rw [if_neg c] at hst
        have HN2 : Hid (n1 = apT a b i1) := by show n1 = _; omega
        have hn2 : n1 ≤ i1 := by omega
        clear hst hi1 hn1
        go_upto_region 5 with fail
        go_quiet (fail)
        rename_i nq
        have HBq := Lib.hid (HB.out.trans ((below_dr wr nq).mono HB.out.size))
        go_wp2_with fail
        go_roundw
        case rel => exact ⟨i1, n1, hil, hn2, by go_num, by go_num, HN2, HBq⟩
        case measure => simp [intOf]; omega
    · obtain rfl : i = a.size := by omega
      have q1 : ¬ (a.size : Int) < (a.size : Int) := by omega
      obtain rfl : n = R := by rw [HN.out, HRR.out]
      go_wp2_with fail
      go_ret
      exact ⟨rfl, HB⟩
end Go.Proofs.Ytgblfobomiiofaa
namespace Go.Proofs.Ytgblfobomiiofaa
open Go Go.RowKit Go.Shelf Gw Go.Maps

/-- how two words compare -/
def cmpL : List Nat → List Nat → Int
  | [], [] => 0
  | [], _ :: _ => -1
  | _ :: _, [] => 1
  | a :: u, b :: w => if a < b then -1 else if b < a then 1 else cmpL u w
set_option maxRecDepth 100000 in
set_option maxHeartbeats 2000000 in
theorem SCompare_any {u v : List Nat} {x y : Value} {w : World} (hu : IsIs w x (asI u)) (hv : IsIs w y (asI v)) (hl : u.length ≤ 1000) (hl2 : v.length ≤ 1000) : Calls Try.prog 75 #[x, y] w fun e w' => e = .returned (.int .i64 (cmpL u v)) ∧ w' = w := by
  have HU := Lib.hid hu
  have HV := Lib.hid hv
  obtain ⟨ao, c, rfl, -⟩ := hu
  obtain ⟨bo, c2, rfl, -⟩ := hv
  obtain ⟨m, hm⟩ : ∃ m, m = u.length := ⟨_, rfl⟩
  obtain ⟨k, hk⟩ : ∃ k, k = v.length := ⟨_, rfl⟩
  rw [asI_len, asI_len, ← hm, ← hk]
  rw [asI_len, ← hm] at HU
  rw [asI_len, ← hk] at HV
  obtain ⟨R, hR⟩ : ∃ R, R = cmpL u v := ⟨_, rfl⟩
  rw [← hR]
  have HR := Lib.hid hR; have HM := Lib.hid hm; have HK := Lib.hid hk
  rw [← hm] at hl
  rw [← hk] at hl2
  clear hm hk hR
  go_enter Try.func75, Try.ntmps75
  go_wp2_with fail
  go_loopw [11] (fun s11 wr => ∃ i : Nat, i ≤ m ∧ i ≤ k ∧ s11 = .int .i64 i ∧ Hid (cmpL (u.drop i) (v.drop i) = cmpL u v) ∧ w = wr) (fun s11 _ => m - (intOf s11).toNat)
  case atStart => exact ⟨0, Nat.zero_le _, Nat.zero_le _, rfl, rfl, rfl⟩
  case round =>
    obtain ⟨i, hi, hik, rfl, HP, rfl⟩ := hrel
    by_cases q : i < m
    · have q1 : (i : Int) < (m : Int) := by omega
      have hw : IntKind.i64.wrap ((i : Int) + 1) = ((i + 1 : Nat) : Int) := by rw [IntWalk.i64_in _ (by omega)]; omega
      have hiu : i < u.length := by rw [← HM.out]; exact q
      obtain ⟨B, o, rfl, d0⟩ := HU.out.at' (j := i) (by rw [asI_len]; exact hiu)
      rw [asI_at hiu] at d0
      obtain ⟨a, ha⟩ : ∃ a, a = u[i] := ⟨_, rfl⟩
      rw [← ha] at d0
      have HA := Lib.hid ha
      by_cases p : i < k
      · have p1 : ¬ (i : Int) ≥ (k : Int) := by omega
        have hiv : i < v.length := by rw [← HK.out]; exact p
        obtain ⟨B2, o2, rfl, d1⟩ := HV.out.at' (j := i) (by rw [asI_len]; exact hiv)
        rw [asI_at hiv] at d1
        obtain ⟨b, hb⟩ : ∃ b, b = v[i] := ⟨_, rfl⟩
        rw [← hb] at d1
        have hst : cmpL (u.drop i) (v.drop i) = if a < b then -1 else if b < a then 1 else cmpL (u.drop (i + 1)) (v.drop (i + 1)) := by
          rw [List.drop_eq_getElem_cons hiu, List.drop_eq_getElem_cons hiv, ← ha, ← hb]
          rfl
        obtain ⟨r, hr⟩ : ∃ r, r = Lib.compareInt (a : Int) (b : Int) := ⟨_, rfl⟩
        have HC := Lib.hid (Try.cmp_Compare_int (a : Int) (b : Int) w)
        rw [← hr] at HC
        unfold Lib.compareInt at hr
        clear ha hb
        by_cases c : a = b
        · subst c
          obtain rfl : r = 0 := by rw [hr, if_neg (by omega), if_neg (by omega)]
          rw [if_neg (by omega), if_neg (by omega), HP.out] at hst
          have HP2 : Hid (cmpL (u.drop (i + 1)) (v.drop (i + 1)) = cmpL u v) := hst.symm
          clear hst hr
          go_wp2_with (first
            | (go_at_call 91; (with_reducible refine HC.out.mono ?_); rintro e wa ⟨rfl, rfl⟩)
            | fail)
          go_roundw
          case rel => exact ⟨i + 1, q, p, by go_num, HP2, by trivial⟩
          case measure => simp [intOf]; omega
        · have hr0 : (r != 0) = true := by
            rw [bne_iff_ne, hr]
            split
            · decide
            · split
              · decide
              · omega
          have HX : Hid (R = r) := by
            show R = r
            rw [HR.out, ← HP.out, hst, hr]
            by_cases g : a < b
            · rw [if_pos g, if_pos (by omega)]
            · rw [if_neg g, if_pos (by omega), if_neg (by omega), if_pos (by omega)]
          clear hst hr
          go_wp2_with (first
            | (go_at_call 91; (with_reducible refine HC.out.mono ?_); rintro e wa ⟨rfl, rfl⟩)
            | fail)
          go_ret
          exact ⟨by rw [HX.out]; rfl, rfl⟩
      · have p1 : (i : Int) ≥ (k : Int) := by omega
        have HX : Hid (R = 1) := by
          show R = 1
          rw [HR.out, ← HP.out, List.drop_eq_getElem_cons hiu, List.drop_eq_nil_of_le (show v.length ≤ i by rw [← HK.out]; omega)]
          rfl
        clear ha
        go_wp2_with fail
        go_ret
        exact ⟨by rw [HX.out]; rfl, rfl⟩
    · obtain rfl : i = m := by omega
      have q1 : ¬ (i : Int) < (i : Int) := by omega
      have hd : u.drop i = [] := List.drop_eq_nil_of_le (by rw [← HM.out]; exact Nat.le_refl _)
      by_cases p : i < k
      · have p1 : (i : Int) < (k : Int) := by omega
        have hiv : i < v.length := by rw [← HK.out]; exact p
        have HX : Hid (R = -1) := by
          show R = -1
          rw [HR.out, ← HP.out, hd, List.drop_eq_getElem_cons hiv]
          rfl
        clear hd
        go_wp2_with fail
        go_ret
        exact ⟨by rw [HX.out]; rfl, rfl⟩
      · have p1 : ¬ (i : Int) < (k : Int) := by omega
        have HX : Hid (R = 0) := by
          show R = 0
          rw [HR.out, ← HP.out, hd, List.drop_eq_nil_of_le (show v.length ≤ i by rw [← HK.out]; omega)]
          rfl
        clear hd
        go_wp2_with fail
        go_ret
        exact ⟨by rw [HX.out]; rfl, rfl⟩
end Go.Proofs.Ytgblfobomiiofaa
namespace Go.Proofs.Ytgblfobomiiofaa
open Go Go.RowKit Go.Shelf Gw Go.Maps

theorem cmpL_lt : ∀ (u v : List Nat), cmpL u v < 0 ↔ ltW u v
  | [], [] => by simp [cmpL, ltW]
  | [], _ :: _ => by simp [cmpL, ltW]
  | _ :: _, [] => by simp [cmpL, ltW]
  | a :: u, b :: v => by
    have ih := cmpL_lt u v
    unfold cmpL ltW
    by_cases h : a < b
    · simp [h]
    · by_cases h2 : b < a
      · have h3 : ¬ a = b := by omega
        simp [h, h2, h3]
      · have h3 : a = b := by omega
        subst h3
        simp [ih]
theorem ltW_or : ∀ (u v : List Nat), ltW u v ∨ u = v ∨ ltW v u
  | [], [] => .inr (.inl rfl)
  | [], _ :: _ => .inl trivial
  | _ :: _, [] => .inr (.inr trivial)
  | a :: u, b :: v => by
    rcases Nat.lt_trichotomy a b with h | rfl | h
    · exact .inl (.inl h)
    · rcases ltW_or u v with h | rfl | h
      · exact .inl (.inr ⟨rfl, h⟩)
      · exact .inr (.inl rfl)
      · exact .inr (.inr (.inr ⟨rfl, h⟩))
    · exact .inr (.inr (.inl h))
theorem ltW_tr : ∀ {u v w : List Nat}, ltW u v → ltW v w → ltW u w
  | [], [], _, h, _ => absurd h (by simp [ltW])
  | [], _ :: _, [], _, h => absurd h (by simp [ltW])
  | [], _ :: _, _ :: _, _, _ => trivial
  | _ :: _, [], _, h, _ => absurd h (by simp [ltW])
  | _ :: _, _ :: _, [], _, h => absurd h (by simp [ltW])
  | a :: u, b :: v, c :: w, h, h2 => by
    have g : a < b ∨ (a = b ∧ ltW u v) := h
    have g2 : b < c ∨ (b = c ∧ ltW v w) := h2
    show a < c ∨ (a = c ∧ ltW u w)
    rcases g with g | ⟨rfl, g⟩ <;> rcases g2 with g2 | ⟨rfl, g2⟩
    · exact .inl (by omega)
    · exact .inl g
    · exact .inl g2
    · exact .inr ⟨rfl, ltW_tr g g2⟩
theorem swo_cmpL {α : Type} (f : α → List Nat) : Go.Sort.SWO (ltOf fun x y => cmpL (f x) (f y)) := by
  have e : ∀ x y, ltOf (fun x y => cmpL (f x) (f y)) x y = true ↔ ltW (f x) (f y) := fun x y => by
    unfold ltOf
    rw [decide_eq_true_iff]
    exact cmpL_lt _ _
  have e2 : ∀ x y, ltOf (fun x y => cmpL (f x) (f y)) x y = false ↔ ¬ ltW (f x) (f y) := fun x y => by
    rw [← e x y, Bool.not_eq_true]
  refine ⟨fun x => (e2 x x).2 (ltW_irrefl _), fun x y z h1 h2 => (e x z).2 (ltW_tr ((e x y).1 h1) ((e y z).1 h2)), fun x y z h1 h2 => (e2 x z).2 fun h3 => ?_⟩
  have g1 := (e2 x y).1 h1
  have g2 := (e2 y z).1 h2
  rcases ltW_or (f x) (f y) with h | h | h
  · exact g1 h
  · rw [h] at h3; exact g2 h3
  · exact g2 (ltW_tr h h3)
end Go.Proofs.Ytgblfobomiiofaa
namespace Go.Proofs
open Go.Shelf
def Try.cloneS_ren : Go.Shelf.Ren := ⟨fun | 15 => 73 | n => n, fun | 22 => 67 | 3 => 3 | 4 => 4 | n => n, fun | n => n⟩
theorem Try.cloneS : Go.Proofs.Lays2.n15 Try.prog Try.cloneS_ren := {
  mixed := by kernel_rfl
  f15 := Try.func73.trans (congrArg some (by kernel_rfl))
  t3 := Try.underlying3
  a3 := Try.isAgg3
  z3 := Try.sizeOf3
  v3 := Try.zeroValue3
  t4 := Try.underlying4
  a4 := Try.isAgg4
  z4 := Try.sizeOf4
  v4 := Try.zeroValue4
  t22 := Try.underlying67
  a22 := Try.isAgg67
  z22 := Try.sizeOf67
  v22 := Try.zeroValue67
  i3 := by kernel_rfl }
def Try.sortS_ren : Go.Shelf.Ren := ⟨fun | 6 => 74 | 15 => 90 | 14 => 89 | 28 => 106 | 29 => 107 | 20 => 98 | 21 => 99 | 22 => 100 | 23 => 101 | 24 => 102 | 25 => 103 | 26 => 104 | 27 => 105 | 46 => 110 | 47 => 111 | 48 => 112 | 49 => 113 | 50 => 114 | 57 => 116 | n => n, fun | 22 => 28 | 24 => 67 | 25 => 108 | 3 => 3 | 39 => 125 | 0 => 0 | 53 => 133 | 55 => 136 | 4 => 4 | 46 => 141 | 45 => 140 | 50 => 122 | 5 => 5 | 9 => 9 | 66 => 149 | 70 => 153 | 76 => 155 | 77 => 50 | n => n, fun | n => n⟩
theorem Try.sortS : Go.Proofs.SlLaysF.n6 Try.prog Try.sortS_ren := {
  mixed := by kernel_rfl
  f6 := ⟨Try.f74.name, by decide, Try.func74.trans (congrArg some (by kernel_rfl))⟩
  f14 := ⟨Try.f89.name, by decide, Try.func89.trans (congrArg some (by kernel_rfl))⟩
  f15 := Try.func90.trans (congrArg some (by kernel_rfl))
  f20 := ⟨Try.f98.name, by decide, Try.func98.trans (congrArg some (by kernel_rfl))⟩
  f21 := ⟨Try.f99.name, by decide, Try.func99.trans (congrArg some (by kernel_rfl))⟩
  f22 := ⟨Try.f100.name, by decide, Try.func100.trans (congrArg some (by kernel_rfl))⟩
  f23 := ⟨Try.f101.name, by decide, Try.func101.trans (congrArg some (by kernel_rfl))⟩
  f24 := ⟨Try.f102.name, by decide, Try.func102.trans (congrArg some (by kernel_rfl))⟩
  f25 := ⟨Try.f103.name, by decide, Try.func103.trans (congrArg some (by kernel_rfl))⟩
  f26 := ⟨Try.f104.name, by decide, Try.func104.trans (congrArg some (by kernel_rfl))⟩
  f27 := ⟨Try.f105.name, by decide, Try.func105.trans (congrArg some (by kernel_rfl))⟩
  f28 := Try.func106.trans (congrArg some (by kernel_rfl))
  f29 := Try.func107.trans (congrArg some (by kernel_rfl))
  f46 := ⟨Try.f110.name, by decide, Try.func110.trans (congrArg some (by kernel_rfl))⟩
  f47 := Try.func111.trans (congrArg some (by kernel_rfl))
  f48 := Try.func112.trans (congrArg some (by kernel_rfl))
  f49 := ⟨Try.f113.name, by decide, Try.func113.trans (congrArg some (by kernel_rfl))⟩
  f50 := ⟨Try.f114.name, by decide, Try.func114.trans (congrArg some (by kernel_rfl))⟩
  f57 := ⟨Try.f116.name, by decide, Try.func116.trans (congrArg some (by kernel_rfl))⟩
  t0 := Try.underlying0
  a0 := Try.isAgg0
  z0 := Try.sizeOf0
  v0 := Try.zeroValue0
  t3 := Try.underlying3
  a3 := Try.isAgg3
  z3 := Try.sizeOf3
  v3 := Try.zeroValue3
  t4 := Try.underlying4
  a4 := Try.isAgg4
  z4 := Try.sizeOf4
  v4 := Try.zeroValue4
  t5 := Try.underlying5
  a5 := Try.isAgg5
  z5 := Try.sizeOf5
  v5 := Try.zeroValue5
  t9 := Try.underlying9
  a9 := Try.isAgg9
  z9 := Try.sizeOf9
  v9 := Try.zeroValue9
  t22 := Try.underlying28
  a22 := Try.isAgg28
  z22 := Try.sizeOf28
  v22 := Try.zeroValue28
  a24 := Try.isAgg67
  z24 := Try.sizeOf67
  t25 := Try.underlying108
  a25 := Try.isAgg108
  z25 := Try.sizeOf108
  v25 := Try.zeroValue108
  t39 := Try.underlying125
  a39 := Try.isAgg125
  z39 := Try.sizeOf125
  v39 := Try.zeroValue125
  t45 := Try.underlying140
  a45 := Try.isAgg140
  z45 := Try.sizeOf140
  v45 := Try.zeroValue140
  t46 := Try.underlying141
  a46 := Try.isAgg141
  z46 := Try.sizeOf141
  v46 := Try.zeroValue141
  t50 := Try.underlying122
  a50 := Try.isAgg122
  z50 := Try.sizeOf122
  v50 := Try.zeroValue122
  t53 := Try.underlying133
  a53 := Try.isAgg133
  z53 := Try.sizeOf133
  v53 := Try.zeroValue133
  t55 := Try.underlying136
  a55 := Try.isAgg136
  z55 := Try.sizeOf136
  v55 := Try.zeroValue136
  t66 := Try.underlying149
  a66 := Try.isAgg149
  z66 := Try.sizeOf149
  v66 := Try.zeroValue149
  t70 := Try.underlying153
  a70 := Try.isAgg153
  z70 := Try.sizeOf153
  v70 := Try.zeroValue153
  t76 := Try.underlying155
  a76 := Try.isAgg155
  z76 := Try.sizeOf155
  v76 := Try.zeroValue155
  t77 := Try.underlying50
  a77 := Try.isAgg50
  z77 := Try.sizeOf50
  v77 := Try.zeroValue50 }
end Go.Proofs
namespace Go.Proofs.Ytgblfobomiiofaa
open Go Go.RowKit Go.Shelf Gw Go.Maps

/-- a slice of ints of a call's own -/
def ClP (u : List Nat) (w : World) (e : Ending) (w' : World) : Prop := ∃ g c, e = .returned (.slice (some ⟨g, 0, none⟩) u.length c) ∧ w'.ownsRow w.heap.size 3 1 (.slice (some ⟨g, 0, none⟩) u.length c) u.length (encI (asI u)) ∧ u.length ≤ c ∧ Below w.heap.size w w'
theorem SClone_any {u : List Nat} {x : Value} {w : World} (hu : IsIs w x (asI u)) (h1 : 1 ≤ u.length) (hl : u.length ≤ 1000) : Calls Try.prog 73 #[x] w (ClP u w) := by
  obtain ⟨ao, c, rfl, hc⟩ := hu
  have hl0 := asI_len u
  obtain ⟨B, o, rfl, _, hcs⟩ := hc (by rw [hl0]; exact h1)
  rw [hl0]
  have hcon := Any.slices_Clone_int Try.cloneS B o u.length c (asI u) w (by rw [asI_len]; exact Nat.le_refl _) (by omega) (fun j hj => by
    rw [asI_len] at hj
    rw [hcs j (by rw [asI_len]; exact hj)]
    congr 2
    rw [List.getD_eq_getElem?_getD, List.getElem?_eq_getElem (by rw [asI_len]; exact hj)]
    rfl)
  refine hcon.mono ?_
  rintro e w' ⟨v', rfl, hr, _, hb⟩
  have e1 : ((asI u).take u.length).map (Value.int .i64) = encI (asI u) := by
    rw [List.take_of_length_le (by rw [asI_len]; exact Nat.le_refl _)]
    rfl
  rw [e1] at hr
  rcases hr.2 with ⟨rfl, h0⟩ | ⟨g, cap, cur, rfl, _, _, hnc, hcm, _⟩
  · exfalso
    omega
  · exact ⟨g, cap, rfl, hr, by omega, hb⟩
end Go.Proofs.Ytgblfobomiiofaa
namespace Go.Proofs.Ytgblfobomiiofaa
open Go Go.RowKit Go.Shelf Gw Go.Maps Go.Lib Go.Sort

theorem sortWorld_old {α : Type} [Inhabited α] (enc : α → Value) {w : World} {blk off m k : Nat} (d : Array α) (os : Array Obj) (hk : k < w.heap.size) (hne : k ≠ blk) : (sortWorld enc w blk off m d os).heap[k]? = w.heap[k]? := by
  have h1 : (putRow enc (Sort.ahead w m) blk off d).heap[k]? = w.heap[k]? := by
    unfold putRow mapBlock
    show (Array.modify w.heap blk _)[k]? = w.heap[k]?
    rw [Array.getElem?_modify, if_neg (fun h => hne h.symm)]
  show (grow (putRow enc (Sort.ahead w m) blk off d) os).heap[k]? = _
  rw [heap_grow_old _ _ (by rw [size_putRow]; exact hk)]
  exact h1
/-- a slice of ints apart from a block, with the word that it holds -/
def GoodR (w : World) (blk : Nat) (x : Value × List Nat) : Prop := IsIs w x.1 (asI x.2) ∧ x.2.length ≤ 1000 ∧ ∀ B o n c, x.1 = .slice (some ⟨B, o, none⟩) n c → B ≠ blk
abbrev RowE (w : World) (blk : Nat) := {x : Value × List Nat // GoodR w blk x}
def rowNil (w : World) (blk : Nat) : RowE w blk := ⟨(.slice none 0 0, []), ⟨none, 0, rfl, fun h => absurd h (by decide)⟩, by decide, fun B o n c h => by simp at h⟩
instance (w : World) (blk : Nat) : Inhabited (RowE w blk) := ⟨rowNil w blk⟩
theorem rowE_one (w : World) (blk : Nat) : OneCell (fun x : RowE w blk => x.1.1) := fun x => by
  obtain ⟨ao, c, h, _⟩ := x.2.1
  show x.1.1.oneCell' = true
  rw [h]
  rfl
theorem rowE_is {w : World} {blk off m : Nat} (d : Array (RowE w blk)) (os : Array Obj) (x : RowE w blk) : IsIs (sortWorld (fun x : RowE w blk => x.1.1) w blk off m d os) x.1.1 (asI x.1.2) := by
  obtain ⟨ao, c, h, hc⟩ := x.2.1
  refine ⟨ao, c, h, fun hp => ?_⟩
  obtain ⟨B, o, rfl, hB, hcs⟩ := hc hp
  have hne := x.2.2.2 B o _ c h
  have ho := sortWorld_old (fun x : RowE w blk => x.1.1) (off := off) (m := m) d os hB hne
  refine ⟨B, o, rfl, ?_, fun j hj => ?_⟩
  · have h5 : w.heap[B]? = some w.heap[B] := Array.getElem?_eq_getElem hB
    rw [h5] at ho
    exact (Array.getElem?_eq_some_iff.1 ho).1
  · refine Eq.trans ?_ (hcs j hj)
    unfold World.cell?
    dsimp only
    rw [ho]
theorem rowE_cmp (w : World) (blk off size : Nat) : CmpLays1 Try.prog 75 #[] (fun x : RowE w blk => x.1.1) (fun x y => cmpL x.1.2 y.1.2) blk off size w := fun m os dk _ x y => by
  refine (SCompare_any (rowE_is dk os x) (rowE_is dk os y) x.2.2.1 y.2.2.1).mono ?_
  rintro e w' ⟨rfl, rfl⟩
  exact ⟨rfl, 0, #[], (grow_empty _).symm⟩
end Go.Proofs.Ytgblfobomiiofaa
