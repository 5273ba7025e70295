/- Contracts and lemmas (several texts merged into one). -/
import Derived.Test.YtgblfobomiiofaaTSerE
import Derived.Test.YtgblfobomiiofaaTSerD
import Derived.Shelf.SlSortCmp.Whole1
import Derived.Shelf.SlSortCmp.NoneTotal
namespace Go.Proofs.Ytgblfobomiiofaa
open Go Go.RowKit Go.Shelf Gw Go.Maps

/-- the neighbors of a word at a position, with a value below v -/
def nbV (P : List Nat → Bool) (u : List Nat) (i v : Nat) : List (List Nat) := ((List.range v).filter fun x => decide (x ≠ u.getD i 0) && P (u.set i x)).map fun x => u.set i x
/-- the neighbors of a word at the first i positions -/
def nbI (P : List Nat → Bool) (u : List Nat) (A i : Nat) : List (List Nat) := (List.range i).flatMap fun j => nbV P u j A
theorem nbV_succ (P : List Nat → Bool) (u : List Nat) (i v : Nat) : nbV P u i (v + 1) = nbV P u i v ++ if (decide (v ≠ u.getD i 0) && P (u.set i v)) = true then [u.set i v] else [] := by
  unfold nbV
  rw [List.range_succ, List.filter_append, List.map_append]
  congr 1
  by_cases c : (decide (v ≠ u.getD i 0) && P (u.set i v)) = true
  · rw [if_pos c]
    simp only [List.filter_cons, c, if_true, List.filter_nil, List.map_cons, List.map_nil]
  · rw [if_neg c]
    simp only [List.filter_cons, c, List.filter_nil]
    rfl
theorem nbI_succ (P : List Nat → Bool) (u : List Nat) (A i : Nat) : nbI P u A (i + 1) = nbI P u A i ++ nbV P u i A := by
  unfold nbI
  rw [List.range_succ, List.flatMap_append]
  simp
theorem nbV_len (P : List Nat → Bool) (u : List Nat) (i v : Nat) : (nbV P u i v).length ≤ v := by
  unfold nbV
  rw [List.length_map]
  have := List.length_filter_le (fun x => decide (x ≠ u.getD i 0) && P (u.set i x)) (List.range v)
  rwa [List.length_range] at this
theorem nbI_len (P : List Nat → Bool) (u : List Nat) (A : Nat) : ∀ i, (nbI P u A i).length ≤ i * A
  | 0 => by simp [nbI]
  | i + 1 => by
    rw [nbI_succ, List.length_append, Nat.add_mul]
    have h1 := nbI_len P u A i
    have h2 := nbV_len P u i A
    omega
theorem nbI_mem {P : List Nat → Bool} {u : List Nat} {A i : Nat} {x : List Nat} (h : x ∈ nbI P u A i) : ∃ j v, j < i ∧ v < A ∧ x = u.set j v ∧ v ≠ u.getD j 0 ∧ P x = true := by
  unfold nbI at h
  obtain ⟨j, hj, h2⟩ := List.mem_flatMap.1 h
  unfold nbV at h2
  obtain ⟨v, hv, rfl⟩ := List.mem_map.1 h2
  obtain ⟨h3, h4⟩ := List.mem_filter.1 hv
  rw [Bool.and_eq_true] at h4
  exact ⟨j, v, List.mem_range.1 hj, List.mem_range.1 h3, rfl, of_decide_eq_true h4.1, h4.2⟩
theorem RowS.ext {base : Nat} {v : Value} {vals : List Value} {w : World} {L : List (List Nat)} (h : RowS base v L.length L vals w) (x : List Nat) : RowS base v L.length (L ++ [x]) vals w := by
  refine ⟨h.1, fun j hj hjb => ?_⟩
  obtain ⟨a, h1, h2, h3⟩ := h.2 j hj hj
  exact ⟨a, h1, by rw [List.getElem_append_left hj]; exact h2, h3⟩
/-- a slice has room for what it holds -/
def CapOk (a : Value) : Prop := ∀ p n c, a = .slice p n c → n ≤ c
/-- what a sort of a row of slices does -/
def SortP (base : Nat) (so : Option Addr) (sc : Nat) (L : List (List Nat)) (vals : List Value) (W : World) (e : Ending) (W' : World) : Prop :=
  e = .returned (.tuple #[]) ∧ ∃ L' vals', L'.Perm L ∧ vals'.Perm vals ∧ (L'.Pairwise fun a b => ¬ ltW b a) ∧ RowS base (.slice so L.length sc) L.length L' vals' W' ∧ Below base W W'
/-- which changed words are serials -/
def nbP (A n : Nat) (ck : Bool) (f : Nat → Nat → Option Nat) (x : List Nat) : Bool := endsB A n ck x && (run f 0 (x.take n)).isSome
/-- what neighbors answers -/
def NearP (A n : Nat) (ck : Bool) (f : Nat → Nat → Option Nat) (u : List Nat) (W : World) (e : Ending) (W' : World) : Prop :=
  ∃ so sc L vals, e = .returned (.slice so L.length sc) ∧ L.Perm (nbI (nbP A n ck f) u A u.length) ∧ (L.Pairwise fun a b => ¬ ltW b a) ∧ RowS W.heap.size (.slice so L.length sc) L.length L vals W' ∧ (∀ a ∈ vals, CapOk a) ∧ Below W.heap.size W W'
set_option maxRecDepth 100000 in
set_option maxHeartbeats 8000000 in
theorem neighbors_any {R mb n : Nat} {al : ByteArray} {ck : Bool} {f : Nat → Nat → Option Nat} {w : World} {bv : Value} {u : List Nat} (h : SerA R mb al n ck f w) (h1 : 2 ≤ al.size) (h2 : al.size ≤ 36) (hn1 : 1 ≤ n) (hn : n ≤ 16) (hf : ∀ i v j, f i v = some j → j < 200)
    (hv : IsIs w bv (asI u)) (hm : u.length = szN n ck) (hu : ∀ x ∈ u, x < al.size)
    (hsort : ∀ (so : Option Addr) (sc : Nat) (L : List (List Nat)) (vals : List Value) (W : World), L.length ≤ 1000 → (∀ x ∈ L, x.length = u.length) → w.heap.size ≤ W.heap.size → RowS w.heap.size (.slice so L.length sc) L.length L vals W → Calls Try.prog 74 #[.slice so L.length sc, .func (.func 75) #[] #[]] W (SortP w.heap.size so sc L vals W)) :
    Calls Try.prog 58 #[.pointer (some ⟨R, 0, none⟩), bv] w (NearP al.size n ck f u w) := by
  have c0 := h.se.c0
  have HS := Lib.hid h
  have HV := Lib.hid hv
  have HSO := Lib.hid hsort
  have HF := Lib.hid hf
  have HU := Lib.hid hu
  obtain ⟨ao, c, rfl, -⟩ := hv
  obtain ⟨m, hm2⟩ : ∃ m, m = u.length := ⟨_, rfl⟩
  rw [asI_len, ← hm2]
  rw [asI_len, ← hm2] at HV
  have hm17 : m ≤ 17 := by rw [hm2, hm]; unfold szN; split <;> omega
  have hm1 : 1 ≤ m := by rw [hm2, hm]; exact Nat.le_trans hn1 (le_szN n ck)
  have hnm : n ≤ m := by rw [hm2, hm]; exact le_szN n ck
  have HMU := Lib.hid hm2
  have HMS : Hid (m = szN n ck) := by show m = _; rw [hm2, hm]
  obtain ⟨A, hA⟩ : ∃ A, A = al.size := ⟨_, rfl⟩
  have hls : ∀ (t ty : TypeId), Try.prog.underlying t = some .string → ∀ W, (Builtin.len_ #[t] ty #[.string al]).run Try.prog W = .ok (.int .i64 (A : Int)) W := fun t ty ht W => by rw [run_len_string _ _ _ _ ht, hA]; rfl
  rw [← hA] at h1 h2 HU ⊢
  have HA := Lib.hid hA
  obtain ⟨P, hP⟩ : ∃ P, P = nbP A n ck f := ⟨_, rfl⟩
  have HP := Lib.hid hP
  obtain ⟨i0, hi0, hz0, hz1, hz2⟩ := info_parts Try.infoSlS
  clear h hsort hf hu hm hm2 hA hP
  go_enter Try.func58, Try.ntmps58
  go_wp2_with fail
  go_loopw [5, 12] (fun s5 s12 wr => ∃ (i : Nat) (so : Option Addr) (sc : Nat) (L : List (List Nat)) (vals : List Value), i ≤ m ∧ s12 = .int .i64 i ∧ s5 = .slice so L.length sc ∧ Hid (L = nbI P u A i) ∧ Hid (RowS w.heap.size (.slice so L.length sc) L.length L vals wr) ∧ Hid (∀ a ∈ vals, CapOk a) ∧ Hid (Below w.heap.size w wr)) (fun _ s12 _ => m - (intOf s12).toNat)
  case atStart => exact ⟨0, none, 0, [], [], Nat.zero_le _, rfl, rfl, rfl, RowS.nil _ _ _, (fun a h => absurd h (by simp)), Below.refl _ _⟩
  case round =>
    obtain ⟨i, so, sc, L, vals, hi, rfl, rfl, HL, HO, HC, HB⟩ := hrel
    by_cases q : i < m
    · have q1 : (i : Int) < (m : Int) := by omega
      have hw : IntKind.i64.wrap ((i : Int) + 1) = ((i + 1 : Nat) : Int) := by rw [IntWalk.i64_in _ (by omega)]; omega
      have hiu : i < u.length := by rw [← HMU.out]; exact q
      have HVr := Lib.hid (HV.out.below HB.out)
      obtain ⟨B, o, rfl, d0⟩ := HVr.out.at' (j := i) (by rw [asI_len]; exact hiu)
      rw [asI_at hiu] at d0
      obtain ⟨old, hold⟩ : ∃ old, old = u[i] := ⟨_, rfl⟩
      rw [← hold] at d0
      have HOLD := Lib.hid hold
      have r0 := (HS.out.below HB.out).se.c0
      clear hold
      go_wp2_with fail
      go_loopw [5, 22] (fun s5 s22 wr2 => ∃ (v : Nat) (so2 : Option Addr) (sc2 : Nat) (L2 : List (List Nat)) (vals2 : List Value), v ≤ A ∧ s22 = .int .i64 v ∧ s5 = .slice so2 L2.length sc2 ∧ Hid (L2 = nbI P u A i ++ nbV P u i v) ∧ Hid (RowS w.heap.size (.slice so2 L2.length sc2) L2.length L2 vals2 wr2) ∧ Hid (∀ a ∈ vals2, CapOk a) ∧ Hid (Below w.heap.size w wr2)) (fun _ s22 _ => A - (intOf s22).toNat)
      case atStart => exact ⟨0, so, sc, L, vals, Nat.zero_le _, rfl, rfl, by show L = _; rw [HL.out]; simp [nbV], HO, HC, HB⟩
      case round =>
        obtain ⟨v, so2, sc2, L2, vals2, hvA, rfl, rfl, HL2, HO2, HC2, HB2⟩ := hrel
        by_cases p : v < A
        · have p1 : (v : Int) < (A : Int) := by omega
          have hw2 : IntKind.i64.wrap ((v : Int) + 1) = ((v + 1 : Nat) : Int) := by rw [IntWalk.i64_in _ (by omega)]; omega
          have HVr2 := HV.out.below HB2.out
          have HCLo := Lib.hid (SClone_any HVr2 (by rw [← HMU.out]; exact hm1) (by rw [← HMU.out]; omega))
          unfold ClP at HCLo
          rw [← HMU.out] at HCLo
          go_upto_region 10 with (first
            | (go_at_call 73; (with_reducible refine HCLo.out.mono ?_); rintro e wa ⟨g, cg, rfl, hr, hmc, hba⟩; have HRa := Lib.hid hr; have HBa := Lib.hid hba; have hga : wa.cell? ⟨g, i, none⟩ = some (.int .i64 (old : Int)) := (by rw [hr.cellAt i (by omega), HOLD.out]; unfold encI asI; simp [hiu]); have hfa := hr.frozenAt i; clear hr hba)
            | fail)
          obtain ⟨x, hx⟩ : ∃ x, x = u.set i v := ⟨_, rfl⟩
          obtain ⟨wb, hwb⟩ : ∃ wb, wb = wa.setCell ⟨g, i, none⟩ (.int .i64 (v : Int)) := ⟨_, rfl⟩
          have hgl := HRa.out.lt g rfl
          have hBb : Below wr.heap.size wr wb := by rw [hwb]; exact HBa.out.setCell hgl.1 _
          have hrb : wb.ownsRow wr.heap.size 3 1 (.slice (some ⟨g, 0, none⟩) m cg) m (encI (asI x)) := by
            have h5 := (HRa.out.stored i (.int .i64 (v : Int))).1
            rw [hwb, hx]
            have e5 : (encI (asI u)).set i (.int .i64 (v : Int)) = encI (asI (u.set i v)) := by
              unfold encI asI
              rw [List.map_set, List.map_set]
            rw [e5] at h5
            exact h5
          have hxl : x.length = m := by rw [hx, List.length_set, ← HMU.out]
          have hxA : ∀ y ∈ x, y < al.size := fun y hy => by
            rw [← HA.out]
            rw [hx] at hy
            rcases List.mem_or_eq_of_mem_set hy with h | h
            · exact HU.out y h
            · omega
          have hIx : IsIs wb (.slice (some ⟨g, 0, none⟩) m cg) (asI x) := by
            have e6 : m = (asI x).length := by rw [asI_len, hxl]
            have h6 := hrb
            rw [e6] at h6 ⊢
            exact IsIs.of_row h6
          rw [← hwb]
          have HSb := Lib.hid (HS.out.below (HB2.out.trans (hBb.mono HB2.out.size)))
          have b1 := HSb.out.se.c1
          have hcg : 0 < cg := by omega
          have hnc : n ≤ cg := by omega
          have hsl := fun W => slice_hi2 (g := g) (o := 0) (m := m) (c := cg) (n := n) hcg hnc W
          have HGD : Hid ((decide (v ≠ u.getD i 0) && P (u.set i v)) = (decide (v ≠ old) && (endsB al.size n ck x && (run f 0 (x.take n)).isSome))) := by
            show _ = _
            rw [HP.out, HOLD.out, ← hx, HA.out]
            unfold nbP
            congr 2
            simp [hiu]
          have HEWo : Hid (Calls Try.prog 54 #[.pointer (some ⟨R, 0, none⟩), .slice (some ⟨g, 0, none⟩) m cg] wb (fun e w' => e = .returned (.bool (endsB al.size n ck x)) ∧ Hid (Below wb.heap.size wb w'))) := endsWell_any HSb.out.se (by rw [← HA.out]; exact h1) (by rw [← HA.out]; exact h2) hn hIx HMS.out hxl.symm hmc hxA
          have HALo : Hid (∀ V, Below wb.heap.size wb V → Calls Try.prog 53 #[.pointer (some ⟨R, 0, none⟩), .slice (some ⟨g, 0, none⟩) n cg] V (fun e w' => e = .returned (.bool (run f 0 (x.take n)).isSome) ∧ Hid (Below V.heap.size V w'))) := fun V hV => allows_any (HSb.out.below hV) (by rw [← HA.out]; exact h1) (by rw [← HA.out]; exact h2) HF.out (by rw [← asI_take]; exact (hIx.below hV).take (by rw [asI_len, hxl]; exact hnm)) (fun y hy => hxA y (List.mem_of_mem_take hy)) (by rw [List.length_take]; omega)
          have HRb := Lib.hid hrb
          have HBb := Lib.hid hBb
          have HX := Lib.hid hx
          have HXL := Lib.hid hxl
          obtain ⟨e1, he1⟩ : ∃ e1, e1 = endsB al.size n ck x := ⟨_, rfl⟩
          obtain ⟨e2, he2⟩ : ∃ e2, e2 = (run f 0 (x.take n)).isSome := ⟨_, rfl⟩
          rw [← he1] at HEWo HGD
          rw [← he2] at HALo HGD
          clear hx hwb hgl hBb hrb hxl hxA hIx he1 he2
          by_cases cv : v = old
          · have cv1 : ((v : Int) != (old : Int)) = false := by rw [cv]; simp
            have HL3 : Hid (L2 = nbI P u A i ++ nbV P u i (v + 1)) := by
              show L2 = _
              rw [nbV_succ, if_neg (by rw [HGD.out]; simp [cv]), List.append_nil]
              exact HL2.out
            go_wp2_with fail
            go_roundw
            case rel => exact ⟨v + 1, so2, sc2, L2, vals2, p, by go_num, rfl, HL3, HO2.out.below HBb.out, HC2, HB2.out.trans ((HBb.out).mono HB2.out.size)⟩
            case measure => simp [intOf]; omega
          have cv1 : ((v : Int) != (old : Int)) = true := by rw [bne_iff_ne]; omega
          cases e1 with
          | false =>
            have HL3 : Hid (L2 = nbI P u A i ++ nbV P u i (v + 1)) := by
              show L2 = _
              rw [nbV_succ, if_neg (by rw [HGD.out]; simp), List.append_nil]
              exact HL2.out
            go_wp2_with (first
              | (go_at_call 54; (with_reducible refine HEWo.out.mono ?_); rintro e wc ⟨rfl, hbc⟩; have HBc := Lib.hid (HBb.out.trans (hbc.out.mono HBb.out.size)))
              | fail)
            go_roundw
            case rel => exact ⟨v + 1, so2, sc2, L2, vals2, p, by go_num, rfl, HL3, HO2.out.below HBc.out, HC2, HB2.out.trans ((HBc.out).mono HB2.out.size)⟩
            case measure => simp [intOf]; omega
          | true =>
          cases e2 with
          | false =>
            have HL3 : Hid (L2 = nbI P u A i ++ nbV P u i (v + 1)) := by
              show L2 = _
              rw [nbV_succ, if_neg (by rw [HGD.out]; simp), List.append_nil]
              exact HL2.out
            go_wp2_with (first
              | (go_at_call 54; (with_reducible refine HEWo.out.mono ?_); rintro e wc ⟨rfl, hbc⟩; have HBc := Lib.hid (HBb.out.trans (hbc.out.mono HBb.out.size)); have b2 := (hbc.out.cell (p := ⟨R, 1, none⟩) HSb.out.se.lt).trans b1; have HALc := Lib.hid (HALo.out _ hbc.out))
              | (go_at_call 53; (with_reducible refine HALc.out.mono ?_); rintro e wd ⟨rfl, hbd⟩; have HBd := Lib.hid (HBc.out.trans (hbd.out.mono HBc.out.size)))
              | fail)
            go_roundw
            case rel => exact ⟨v + 1, so2, sc2, L2, vals2, p, by go_num, rfl, HL3, HO2.out.below HBd.out, HC2, HB2.out.trans ((HBd.out).mono HB2.out.size)⟩
            case measure => simp [intOf]; omega
          | true =>
            have HL3 : Hid (L2 ++ [x] = nbI P u A i ++ nbV P u i (v + 1)) := by
              show L2 ++ [x] = _
              rw [nbV_succ, if_pos (by rw [HGD.out]; simp [cv]), ← HX.out, HL2.out, List.append_assoc]
            have hL2 : L2.length ≤ 17 * 36 := by
              rw [HL2.out, List.length_append]
              have g1 := nbI_len P u A i
              have g2 := nbV_len P u i v
              have g3 : i * A ≤ 16 * 36 := Nat.mul_le_mul (by omega) h2
              omega
            have hsz : w.heap.size ≤ wr.heap.size := HB2.out.size
            go_upto_region 11 with (first
              | (go_at_call 54; (with_reducible refine HEWo.out.mono ?_); rintro e wc ⟨rfl, hbc⟩; have HBc := Lib.hid (HBb.out.trans (hbc.out.mono HBb.out.size)); have b2 := (hbc.out.cell (p := ⟨R, 1, none⟩) HSb.out.se.lt).trans b1; have HALc := Lib.hid (HALo.out _ hbc.out); have HRc := Lib.hid (ownsRow_below HRb.out hbc.out))
              | (go_at_call 53; (with_reducible refine HALc.out.mono ?_); rintro e wd ⟨rfl, hbd⟩; have HBd := Lib.hid (HBc.out.trans (hbd.out.mono HBc.out.size)); have HRd := Lib.hid (ownsRow_below HRc.out hbd.out))
              | fail)
            have HO4 := Lib.hid (HO2.out.below HBd.out)
            have hszd : w.heap.size ≤ wd.heap.size := Nat.le_trans hsz HBd.out.size
            have hsz5 : w.heap.size ≤ wd.heap.size + 1 := Nat.le_succ_of_le hszd
            go_wp2_with (first
              | (at_builtin; refine wpList_append_own_at _ rfl _ _ 28 rfl w.heap.size 67 i0 (.slice none 0 0) 1 24 Try.underlying28 hi0 hz0 hz1 hz2 rfl (by decide) (.slice so2 L2.length sc2) L2.length vals2 rfl (HO4.out.1.alloc _) ⟨wd.heap.size, 0, none⟩ 1 1 [.slice (some ⟨g, 0, none⟩) m cg] rfl rfl (cell_one_new _ _ _) (by simp [Value.oneCell']) (by unfold maxLen; omega) (by omega) (by rw [World.size_alloc]; exact hsz5) ?_; intro v' w8 hown hgrow _ hat; obtain ⟨so3, sc3, rfl⟩ := row_sl hown)
              | fail)
            have HO8 : Hid (RowS w.heap.size (.slice so3 (L2.length + 1) sc3) (L2.length + 1) (L2 ++ [x]) (vals2 ++ [.slice (some ⟨g, 0, none⟩) m cg]) w8) :=
              (HO2.out.ext x).push (by simp) HBd.out (by simp only [List.getElem_append_right (Nat.le_refl _), Nat.sub_self, List.getElem_cons_zero]; exact HRd.out) (by simp [HXL.out]) hown hgrow hat
            have HB8 : Hid (Below w.heap.size w w8) := ((HB2.out.trans (HBd.out.mono hsz)).alloc hszd _).grown hgrow (by rw [World.size_alloc]; exact hsz5) (fun j hj => (HO4.out.1.lt j hj).1)
            have HC8 : Hid (∀ a ∈ vals2 ++ [.slice (some ⟨g, 0, none⟩) m cg], CapOk a) := fun a ha => by
              rcases List.mem_append.1 ha with h | h
              · exact HC2.out a h
              · rw [List.mem_singleton.1 h]
                intro p' n' c' e
                injection e with _ e1 e2
                omega
            clear hown hgrow hat
            go_wp2_with fail
            go_roundw
            case rel => exact ⟨v + 1, so3, sc3, L2 ++ [x], _, p, by go_num, by simp, HL3, by rw [List.length_append]; exact HO8.out, HC8, HB8⟩
            case measure => simp [intOf]; omega
        · obtain rfl : v = A := by omega
          have p1 : ¬ (v : Int) < (v : Int) := by omega
          go_wp2_with fail
          go_roundw
          case rel => exact ⟨i + 1, so2, sc2, L2, vals2, q, by go_num, rfl, by show L2 = _; rw [nbI_succ]; exact HL2.out, HO2, HC2, HB2⟩
          case measure => simp [intOf]; omega
    · obtain rfl : i = m := by omega
      have q1 : ¬ (i : Int) < (i : Int) := by omega
      have hL : L.length ≤ 1000 := by
        rw [HL.out]
        have g1 := nbI_len P u A i
        have g3 : i * A ≤ 17 * 36 := Nat.mul_le_mul hm17 h2
        omega
      have hLx : ∀ x ∈ L, x.length = u.length := fun x hx => by
        rw [HL.out] at hx
        obtain ⟨j, v, _, _, rfl, _, _⟩ := nbI_mem hx
        exact List.length_set ..
      have HSR := Lib.hid (HSO.out so sc L vals wr hL hLx HB.out.size HO.out)
      clear hL hLx
      go_wp2_with (first
        | (go_at_call 74; (with_reducible refine HSR.out.mono ?_); rintro e ws ⟨rfl, L', vals', hp, hq, hs, hr, hb⟩; have HSQ := Lib.hid hq; have HSP := Lib.hid hp; have HSS := Lib.hid hs; have HRS := Lib.hid hr; have HBS := Lib.hid hb; clear hp hq hs hr hb)
        | fail)
      go_ret
      refine ⟨so, sc, L', vals', by rw [HSP.out.length_eq]; rfl, ?_, HSS.out, by rw [HSP.out.length_eq]; exact HRS.out, (fun a ha => HC.out a (HSQ.out.mem_iff.1 ha)), HB.out.trans (HBS.out.mono (Nat.le_refl _))⟩
      rw [← HMU.out, ← HP.out, ← HL.out]
      exact HSP.out
end Go.Proofs.Ytgblfobomiiofaa
namespace Go.Proofs.Ytgblfobomiiofaa
open Go Go.RowKit Go.Shelf Gw Go.Maps

theorem nbI_none {A n i : Nat} {f : Nat → Nat → Option Nat} {u : List Nat} (hA : A % 2 = 0) (h2 : 2 ≤ A) (hl : u.length = n + 1) (hu : ∀ v ∈ u, v < A) (he : endsB A n true u = true) (hi : i ≤ u.length) : nbI (nbP A n true f) u A i = [] := by
  rw [List.eq_nil_iff_forall_not_mem]
  intro x hx
  obtain ⟨j, v, hj, hv, rfl, hne, hp⟩ := nbI_mem hx
  have hju : j < u.length := by omega
  have h3 : v ≠ u[j] := by
    have e : u.getD j 0 = u[j] := by rw [List.getD_eq_getElem?_getD, List.getElem?_eq_getElem hju]; rfl
    rw [e] at hne
    exact hne
  have h4 := ends_apart hA h2 hl hu hju hv h3 he
  unfold nbP at hp
  rw [h4] at hp
  simp at hp
/-- neighbors of a word are words over the alphabet -/
theorem nbI_lt {P : List Nat → Bool} {u : List Nat} {A i : Nat} (hu : ∀ v ∈ u, v < A) {x : List Nat} (h : x ∈ nbI P u A i) : x.length = u.length ∧ ∀ v ∈ x, v < A := by
  obtain ⟨j, v, _, hv, rfl, _, _⟩ := nbI_mem h
  refine ⟨List.length_set .., fun y hy => ?_⟩
  rcases List.mem_or_eq_of_mem_set hy with h2 | h2
  · exact hu y h2
  · omega
end Go.Proofs.Ytgblfobomiiofaa
namespace Go.Proofs.Ytgblfobomiiofaa
open Go Go.RowKit Go.Shelf Gw Go.Maps Go.Lib Go.Sort

/-- the elements of a row of slices -/
theorem rowE_of {base blk sc : Nat} {L : List (List Nat)} {vals : List Value} {w : World} (h : RowS base (.slice (some ⟨blk, 0, none⟩) L.length sc) L.length L vals w) (hL : ∀ x ∈ L, x.length ≤ 1000) :
    ∃ d : Array (RowE w blk), d.size = L.length ∧ Holds (fun x : RowE w blk => x.1.1) w blk 0 d ∧ d.toList.map (fun x => x.1.1) = vals ∧ d.toList.map (fun x => x.1.2) = L := by
  have hvl : vals.length = L.length := by have := h.1.1; omega
  have hg : ∀ i (hi : i < L.length), GoodR w blk (vals[i]'(by rw [hvl]; exact hi), L[i]) := fun i hi => by
    obtain ⟨a, h1, h2, h3⟩ := h.2 i hi hi
    have e : vals[i]'(by rw [hvl]; exact hi) = a := by
      rw [List.getElem?_eq_getElem (by rw [hvl]; exact hi)] at h1
      injection h1
    refine ⟨by rw [e]; exact h2, hL _ (List.getElem_mem hi), fun B o n c hx hB => ?_⟩
    have hx2 : a = .slice (some ⟨B, o, none⟩) n c := by rw [← e]; exact hx
    have h4 := (h3 B (by rw [hx2]; rfl)).1
    subst hB
    exact h4 rfl
  refine ⟨Array.ofFn fun i : Fin L.length => (⟨(vals[i.1]'(by rw [hvl]; exact i.2), L[i.1]), hg i.1 i.2⟩ : RowE w blk), by simp, fun j hj => ?_, ?_, ?_⟩
  · have hj2 : j < L.length := by simpa using hj
    have hc := h.1.cellAt j (by omega)
    rw [List.getElem?_eq_getElem (by rw [hvl]; exact hj2)] at hc
    refine ⟨?_, by rw [Nat.zero_add]; exact h.1.frozenAt j⟩
    rw [Nat.zero_add, hc]
    simp [hj2]
  · refine List.ext_getElem (by simp [hvl]) (fun i h1 h2 => ?_)
    simp
  · refine List.ext_getElem (by simp) (fun i h1 h2 => ?_)
    simp
end Go.Proofs.Ytgblfobomiiofaa
namespace Go.Proofs.Ytgblfobomiiofaa
open Go Go.RowKit Go.Shelf Gw Go.Maps Go.Lib Go.Sort

theorem owns_sorted {α : Type} [Inhabited α] {enc : α → Value} {base blk sc n m : Nat} {e : TypeId} {xs : List Value} {w : World} {os : Array Obj} (h : w.ownsRow base e 1 (.slice (some ⟨blk, 0, none⟩) n sc) n xs) (d : Array α) (hd : d.size = n) :
    (sortWorld enc w blk 0 m d os).ownsRow base e 1 (.slice (some ⟨blk, 0, none⟩) n sc) n (d.toList.map enc) := by
  rcases h.2 with ⟨h', _⟩ | ⟨g, cap, cur, h', hb, hg, hnc, hcm, hcs, htake⟩
  · simp at h'
  · simp only [Value.slice.injEq, Option.some.injEq, Addr.mk.injEq, and_true, true_and] at h'
    obtain ⟨rfl, rfl⟩ := h'
    have hgl : blk < w.heap.size := (Array.getElem?_eq_some_iff.1 hg).1
    have hold : (sortWorld enc w blk 0 m d os).heap[blk]? = some (.cells (putCells enc 0 d cur) e (0, 0)) := by
      show (grow (putRow enc (Sort.ahead w m) blk 0 d) os).heap[blk]? = _
      rw [heap_grow_old _ _ (by rw [size_putRow]; exact hgl)]
      unfold putRow mapBlock
      show (Array.modify w.heap blk _)[blk]? = _
      rw [Array.getElem?_modify, if_pos rfl, hg]
      rfl
    refine ⟨by simp [hd], .inr ⟨blk, sc, putCells enc 0 d cur, rfl, hb, hold, hnc, hcm, by simpa [putCells] using hcs, ?_⟩⟩
    refine List.ext_getElem (by simp [putCells, hd]; omega) (fun i h1 h2 => ?_)
    have hi : i < d.size := by simpa using h2
    simp [putCells, hi]
end Go.Proofs.Ytgblfobomiiofaa
namespace Go.Proofs.Ytgblfobomiiofaa
open Go Go.RowKit Go.Shelf Gw Go.Maps Go.Lib Go.Sort

set_option maxHeartbeats 2000000 in
theorem sortP_after {base blk sc m : Nat} {L : List (List Nat)} {vals : List Value} {w : World} {os : Array Obj} (h : RowS base (.slice (some ⟨blk, 0, none⟩) L.length sc) L.length L vals w) {d d' : Array (RowE w blk)} (hd : d.size = L.length) (hv : d.toList.map (fun x => x.1.1) = vals) (hl : d.toList.map (fun x => x.1.2) = L)
    (hp : PermIn 0 d.size d d') (hs : SortedIn (ltOf fun x y : RowE w blk => cmpL x.1.2 y.1.2) 0 d.size d') :
    SortP base (some ⟨blk, 0, none⟩) sc L vals w (.returned (.tuple #[])) (sortWorld (fun x : RowE w blk => x.1.1) w blk 0 m d' os) := by
  obtain ⟨p1, _, p3⟩ := hp
  have hP : d'.toList.Perm d.toList := by
    have e1 : (d'.extract 0 d.size) = d' := by rw [← p1]; simp
    have e2 : (d.extract 0 d.size) = d := by simp
    rw [e1, e2] at p3
    exact p3
  have hd' : d'.size = L.length := p1.trans hd
  refine ⟨rfl, d'.toList.map (fun x => x.1.2), d'.toList.map (fun x => x.1.1), by rw [← hl]; exact hP.map _, by rw [← hv]; exact hP.map _, ?_, ?_, ?_⟩
  case refine_2 =>
    have hown := owns_sorted (enc := fun x : RowE w blk => x.1.1) (m := m) (os := os) h.1 d' hd'
    refine And.intro hown (fun j hj hb => ?_)
    have hj2 : j < d'.size := by omega
    refine ⟨d'[j].1.1, by simp [hj2], ?_, fun g hg => ?_⟩
    · have h5 := rowE_is (off := 0) (m := m) d' os d'[j]
      simpa using h5
    · have hm : d'[j] ∈ d.toList := hP.mem_iff.1 (by simp)
      obtain ⟨i, hi, e⟩ := List.mem_iff_getElem.1 hm
      have hiL : i < L.length := by have : i < d.size := by simpa using hi
                                    omega
      obtain ⟨a, a1, _, a3⟩ := h.2 i hiL hiL
      have e2 : vals[i]? = some d'[j].1.1 := by
        rw [← hv, List.getElem?_map, List.getElem?_eq_getElem hi, e]
        rfl
      rw [e2] at a1
      injection a1 with a1
      have a4 := a3 g (by rw [← a1]; exact hg)
      have hold := sortWorld_old (fun x : RowE w blk => x.1.1) (off := 0) (m := m) d' os a4.2 (fun h => a4.1 (by rw [h]; rfl))
      rw [Array.getElem?_eq_getElem a4.2] at hold
      exact ⟨a4.1, (Array.getElem?_eq_some_iff.1 hold).1⟩
  case refine_1 =>
    rw [List.pairwise_iff_getElem]
    intro i j hi hj hij
    have hj2 : j < d'.size := by simpa using hj
    have h3 := hs i j (Nat.zero_le _) hij (by omega)
    unfold ltOf at h3
    have h4 := of_decide_eq_false h3
    rw [cmpL_lt] at h4
    have i2 : i < d'.size := by omega
    simpa [hj2, i2] using h4
  case refine_3 =>
    have hbb := (h.1.lt blk rfl).1
    refine ⟨rfl, rfl, rfl, ?_, fun k hk => ?_⟩
    · show w.heap.size ≤ (grow (putRow _ (Sort.ahead w m) blk 0 d') os).heap.size
      rw [size_grow, size_putRow]
      exact Nat.le_add_right _ _
    · have hbl := (h.1.lt blk rfl).2
      exact sortWorld_old (fun x : RowE w blk => x.1.1) (off := 0) (m := m) d' os (by omega) (by omega)
end Go.Proofs.Ytgblfobomiiofaa
namespace Go.Proofs.Ytgblfobomiiofaa
open Go Go.RowKit Go.Shelf Gw Go.Maps

/-- the neighbors of a text -/
def nbS (s : Sch) (t : ByteArray) : List (List Nat) := nbI (nbP s.al.size (nS s) s.ck (fS s)) (wordN s.al t) s.al.size (wordN s.al t).length
/-- what Near answers -/
def NearQ (s : Sch) (t : ByteArray) (W : World) (e : Ending) (W' : World) : Prop :=
  Below W.heap.size W W' ∧ ((¬ WellF s ∧ e = .returned (.tuple #[.slice none 0 0, .int .i64 20])) ∨ (WellF s ∧ ¬ (1 ≤ totS s ∧ totS s ≤ 1099511627776) ∧ e = .returned (.tuple #[.slice none 0 0, .int .i64 3])) ∨
    (ValidS s ∧ ¬ (t.size = szN (nS s) s.ck ∧ OfA t s.al) ∧ e = .returned (.tuple #[.slice none 0 0, .int .i64 4])) ∨
    (ValidS s ∧ (t.size = szN (nS s) s.ck ∧ OfA t s.al) ∧ ∃ (L : List (List Nat)) (sv : Value), L.Perm (nbS s t) ∧ (L.Pairwise fun a b => ¬ ltW b a) ∧ e = .returned (.tuple #[sv, .int .i64 0]) ∧ IsSs W' sv (L.map fun u => serB s.al s.ck (u.take (nS s)))))
set_option maxRecDepth 100000 in
set_option maxHeartbeats 8000000 in
theorem Near_any {s : Sch} {bv : Value} {t : ByteArray} {w : World} (hv : IsSs w bv s.bl)
    (hsort : ∀ (base m : Nat) (so : Option Addr) (sc : Nat) (L : List (List Nat)) (vals : List Value) (W : World), m ≤ 1000 → L.length ≤ 1000 → (∀ x ∈ L, x.length = m) → base ≤ W.heap.size → RowS base (.slice so L.length sc) L.length L vals W → Calls Try.prog 74 #[.slice so L.length sc, .func (.func 75) #[] #[]] W (SortP base so sc L vals W)) :
    Calls Try.prog 30 #[schV s bv, .string t] w (NearQ s t w) := by
  have HSORT := Lib.hid hsort
  clear hsort
  obtain ⟨w1, hw1⟩ : ∃ w1, w1 = w.alloc (.cells #[.string s.al, .int .i64 s.len, bv, .bool s.ck] 24) := ⟨_, rfl⟩
  have hb1 : Below w.heap.size w w1 := by rw [hw1]; exact below_al _ _
  have H4 : Hid (B4 w.heap.size (.string s.al) (.int .i64 s.len) bv (.bool s.ck) w1) := by rw [hw1]; exact B4.new _ _ _ _ _ _
  have HNS := Lib.hid (newSeries_any (s := s) (hv.below hb1))
  have HB1 := Lib.hid hb1
  have HW1 := Lib.hid hw1
  obtain ⟨bo, bc, rfl, -⟩ := hv
  obtain ⟨al, len, bl, ck⟩ := s
  unfold schV at HNS ⊢
  dsimp only at *
  clear hw1 hb1
  have k0 := H4.out.c0; have k1 := H4.out.c1; have k2 := H4.out.c2; have k3 := H4.out.c3
  go_enter Try.func30, Try.ntmps30
  go_upto_region 1 with fail
  rw [← HW1.out]
  go_cut [6, 7] from 6 to 15 (fun s6 s7 wz => ∃ E : Int, s7 = .int .i64 E ∧ Hid (NewQ ⟨al, len, bl, ck⟩ w s6 E wz))
  case first =>
    go_wp2_with (first
      | (go_at_call 46; (with_reducible refine HNS.out.mono ?_); rintro e w2 hN; obtain ⟨pv, E, rfl, HNQ⟩ := newQ_of HB1.out hN; clear hN)
      | fail)
    go_meet
    case rel => exact ⟨E, rfl, HNQ⟩
  case rest =>
    obtain ⟨E, rfl, HNQ⟩ := hcut
    apply_assumption
    rcases HNQ.out with ⟨hb, ⟨hn, rfl, rfl⟩ | ⟨hn, hm, rfl, rfl⟩ | ⟨hV, rfl, x, rfl, hF, hk⟩⟩
    · have HN := Lib.hid hn
      have HBB := Lib.hid hb
      clear hn hb HNQ
      go_wp2_with fail
      refine bodyPost_ret (v := .tuple #[.slice none 0 0, .int .i64 20]) (by simp [results, Try.results30, go_sem]) rfl ?_
      exact ⟨HBB.out, .inl ⟨HN.out, rfl⟩⟩
    · have HN := Lib.hid (And.intro hn hm)
      have HBB := Lib.hid hb
      clear hn hm hb HNQ
      go_wp2_with fail
      refine bodyPost_ret (v := .tuple #[.slice none 0 0, .int .i64 3]) (by simp [results, Try.results30, go_sem]) rfl ?_
      exact ⟨HBB.out, .inr (.inl ⟨HN.out.1, HN.out.2, rfl⟩)⟩
    · obtain ⟨n, hn⟩ : ∃ n : Nat, len = n := ⟨len.toNat, by have := hV.1.2.1; dsimp only at this; omega⟩
      subst hn
      have hn1 : 1 ≤ n := by have := hV.1.2.1; dsimp only at this; omega
      have hn16 : n ≤ 16 := by have := hV.1.2.2.1; dsimp only at this; omega
      have HV := Lib.hid hV
      have HF := Lib.hid hF
      have HBB := Lib.hid hb
      have HK := Lib.hid hk
      have hA1 : 2 ≤ al.size := hV.1.1.1
      have hA2 : al.size ≤ 36 := hV.1.1.2.1
      clear hV hF hb HNQ hk k0 k1 k2 k3
      obtain ⟨R, hR⟩ : ∃ R, R = x.R := ⟨_, rfl⟩
      have HSE : Hid (Ser R al n ck wc) := by rw [hR]; exact HF.out.ct.se.se
      have HSZ := Lib.hid (size_any HSE.out hn16)
      obtain ⟨z, hz⟩ : ∃ z, z = szN n ck := ⟨_, rfl⟩
      have hz20 : z ≤ 20 := by rw [hz]; unfold szN; split <;> omega
      have hnz : n ≤ z := by rw [hz]; exact le_szN _ _
      have HRW := Lib.hid (readWord_any (s := t) (sz := z) HSE.out HV.out.1.1.ascii hz20)
      rw [← hR]
      rw [← hz] at HSZ
      have HZ := Lib.hid hz
      have HR := Lib.hid hR
      clear hR hz
      go_upto_region 5 with (first
        | (go_at_call 52; (with_reducible refine HSZ.out.mono ?_); rintro e w3 ⟨rfl, rfl⟩)
        | (go_at_call 51; (with_reducible refine HRW.out.mono ?_); rintro e w3 hW; obtain ⟨wv, bb, rfl, HWQ⟩ : ∃ wv bb, e = .returned (.tuple #[wv, .bool bb]) ∧ Hid (Below wc.heap.size wc w3 ∧ ((bb = false ∧ ¬ (t.size = z ∧ OfA t al)) ∨ (bb = true ∧ (t.size = z ∧ OfA t al) ∧ ∃ a c, wv = .slice a z c ∧ z ≤ c ∧ IsIs w3 (.slice a z c) (asI (wordN al t)) ∧ (∀ j, (Value.slice a z c).ownBlock = some j → wc.heap.size ≤ j)))) := (by
            rcases hW with ⟨h5, a, c, rfl, h6, h7⟩ | ⟨h5, rfl, h7⟩
            · have hlen : (asI (wordN al t)).length = z := by rw [asI_len, wordN_len]; exact h5.1
              have hzc : z ≤ c := by
                rcases h6.2 with ⟨h8, h9⟩ | ⟨g, cap, cur, h8, _, _, h9, _⟩
                · injection h8 with _ h8 h10; omega
                · injection h8 with _ _ h10; omega
              exact ⟨_, _, rfl, h7, .inr ⟨rfl, h5, a, c, rfl, hzc, IsIs.of_row (by rw [hlen]; exact h6), fun j hj => (h6.lt j hj).1⟩⟩
            · exact ⟨_, _, rfl, h7, .inl ⟨rfl, h5⟩⟩); clear hW)
        | fail)
      rcases HWQ.out with ⟨hb3, ⟨rfl, hno⟩ | ⟨rfl, hyes, a, c, rfl, hzc, hIs, hob⟩⟩
      · have HNO := Lib.hid hno
        have HB3 := Lib.hid (HBB.out.trans (hb3.mono HBB.out.size))
        clear hno hb3 HWQ
        go_wp2_with fail
        refine bodyPost_ret (v := .tuple #[.slice none 0 0, .int .i64 4]) (by simp [results, Try.results30, go_sem]) rfl ?_
        exact ⟨HB3.out, .inr (.inr (.inl ⟨HV.out, by rw [HZ.out] at HNO; exact HNO.out, rfl⟩))⟩
      · have HYES := Lib.hid hyes
        have HB3 := Lib.hid (HBB.out.trans (hb3.mono HBB.out.size))
        have HF3 := Lib.hid (HF.out.below hb3)
        have HC3 := Lib.hid hb3.size
        have hwl : (wordN al t).length = z := by rw [wordN_len]; exact hyes.1
        have huA := wordN_lt hyes.2
        have HNE := Lib.hid (neighbors_any HF3.out.ct.se hA1 hA2 hn1 hn16 (fS_lt HV.out.1) hIs (by rw [hwl]; exact HZ.out) huA (fun so sc L vals W h1 h2 h3 h4 => HSORT.out w3.heap.size _ so sc L vals W (Nat.le_trans (Nat.le_of_eq hwl) (Nat.le_trans hz20 (by decide))) h1 h2 h3 h4))
        have r1 : w3.cell? ⟨R, 1, none⟩ = some (.int .i64 (n : Int)) := by rw [HR.out]; exact HF3.out.ct.se.se.c1
        have HSE3 : Hid (Ser R al n ck w3) := by rw [HR.out]; exact HF3.out.ct.se.se
        rw [← HR.out] at HNE
        unfold NearP at HNE
        have HWL := Lib.hid hwl
        have HUA := Lib.hid huA
        clear hyes hb3 HWQ hIs hob hwl huA
        go_wp2_with (first
          | (go_at_call 58; (with_reducible refine HNE.out.mono ?_); rintro e w4 ⟨so, sc, L, vals, rfl, hp, hs, hr, hcap, hb4⟩; have HCAP := Lib.hid hcap; have HP := Lib.hid hp; have HS := Lib.hid hs; have HR4 := Lib.hid hr; have HB4 := Lib.hid hb4; clear hp hs hr hcap hb4)
          | fail)
        obtain ⟨ln, hln⟩ : ∃ ln, ln = L.length := ⟨_, rfl⟩
        have hln7 : ln ≤ 1000 := by
          rw [hln, HP.out.length_eq]
          refine Nat.le_trans (nbI_len _ _ _ _) ?_
          rw [HWL.out]
          exact Nat.le_trans (Nat.mul_le_mul hz20 hA2) (by decide)
        rw [← hln] at HR4 ⊢
        have HLN := Lib.hid hln
        clear hln
        obtain ⟨i0, hi0, hz0, hz1, hz2⟩ := info_parts Try.infoStrS
        go_loopw [10, 35] (fun s10 s35 wr => ∃ (i : Nat) (so2 : Option Addr) (sc2 : Nat), i ≤ ln ∧ s35 = .int .i64 i ∧ s10 = .slice so2 i sc2 ∧ Hid (wr.ownsRow w4.heap.size 9 1 (.slice so2 i sc2) i ((L.take i).map fun u => .string (serB al ck (u.take n)))) ∧ Hid (Below w4.heap.size w4 wr)) (fun _ s35 _ => ln - (intOf s35).toNat)
        case atStart => exact ⟨0, none, 0, Nat.zero_le _, rfl, rfl, World.ownsRow_nil _ _ _ _, Below.refl _ _⟩
        case round =>
          obtain ⟨i, so2, sc2, hi, rfl, rfl, HO, HB⟩ := hrel
          by_cases q : i < ln
          · have q1 : (i : Int) < (ln : Int) := by omega
            have hw : IntKind.i64.wrap ((i : Int) + 1) = ((i + 1 : Nat) : Int) := by rw [IntWalk.i64_in _ (by omega)]; omega
            have hiL : i < L.length := by rw [← HLN.out]; exact q
            obtain ⟨a1, e1, e2, e3⟩ := HR4.out.2 i q hiL
            have hcap := HCAP.out a1 (List.mem_of_getElem? e1)
            have hxm := nbI_lt HUA.out (HP.out.mem_iff.1 (List.getElem_mem hiL))
            obtain ⟨xx, hxx⟩ : ∃ xx, xx = L[i] := ⟨_, rfl⟩
            rw [← hxx] at e2 hxm
            have hxl : xx.length = z := by rw [hxm.1, HWL.out]
            obtain ⟨bo2, bc2, rfl, hcc⟩ := e2
            have hl0 : (asI xx).length = z := by rw [asI_len, hxl]
            obtain ⟨B, o, rfl, hBl, hcs⟩ := hcc (by rw [hl0]; omega)
            rw [hl0] at hcap e1
            have hzc2 : z ≤ bc2 := hcap _ _ _ rfl
            have hout : ∃ so0, so = some ⟨so0, 0, none⟩ ∧ w4.cell? ⟨so0, i, none⟩ = some (.slice (some ⟨B, o, none⟩) z bc2) := by
              rcases HR4.out.1.2 with ⟨h8, h9⟩ | ⟨g, cap, cur, h8, _⟩
              · omega
              · injection h8 with h8 _ _
                subst h8
                have h10 := HR4.out.1.cellAt i (by omega)
                exact ⟨g, rfl, h10.trans e1⟩
            obtain ⟨so0, rfl, d0⟩ := hout
            have d1 := (HB.out.cell (p := ⟨so0, i, none⟩) (World.block_lt_of_cell? _ _ d0)).trans d0
            have hI4 : IsIs w4 (.slice (some ⟨B, o, none⟩) z bc2) (asI xx) := ⟨_, _, by rw [hl0], fun hp => ⟨B, o, rfl, hBl, hcs⟩⟩
            have hIr := hI4.below HB.out
            have hIt : IsIs wr (.slice (some ⟨B, o, none⟩) n bc2) (asI (xx.take n)) := by rw [← asI_take]; exact hIr.take (by rw [asI_len, hxl]; exact hnz)
            have HSEr := Lib.hid ((HSE3.out.below HB4.out).below HB.out)
            have b1 := HSEr.out.c1
            have hsl := fun W => slice_hi2 (g := B) (o := o) (m := z) (c := bc2) (n := n) (by omega) (by omega) W
            have HTX := Lib.hid (text_any HSEr.out hA1 hA2 hIt (fun y hy => hxm.2 y (List.mem_of_mem_take hy)) (by rw [List.length_take]; omega))
            have HXX := Lib.hid hxx
            obtain ⟨tx, htx⟩ : ∃ tx, tx = serB al ck (xx.take n) := ⟨_, rfl⟩
            rw [← htx] at HTX
            have HTXE := Lib.hid htx
            clear hcap hxm hxx hxl hcc hl0 hBl hcs d0 hI4 hIr hIt htx e1 e3
            have hsz4 : w4.heap.size ≤ wr.heap.size := HB.out.size
            go_wp2_with (first
              | (go_at_call 48; (with_reducible refine HTX.out.mono ?_); rintro e w5 ⟨rfl, hb5⟩; have HB5 := Lib.hid hb5.out; have HO5 := Lib.hid (ownsRow_below HO.out hb5.out); have hsz6 : w4.heap.size ≤ w5.heap.size := Nat.le_trans hsz4 hb5.out.size; have hsz7 : w4.heap.size ≤ w5.heap.size + 1 := Nat.le_succ_of_le hsz6)
              | (at_builtin; refine wpList_append_own_at _ rfl _ _ 22 rfl w4.heap.size 9 i0 (.string ⟨#[]⟩) 1 16 Try.underlying22 hi0 hz0 hz1 hz2 rfl (by decide) (.slice so2 i sc2) i ((L.take i).map fun u => .string (serB al ck (u.take n))) rfl (HO5.out.alloc _) ⟨w5.heap.size, 0, none⟩ 1 1 [.string tx] rfl rfl (cell_one_new _ _ _) (by simp [Value.oneCell']) (by unfold maxLen; omega) (by omega) (by rw [World.size_alloc]; exact hsz7) ?_; intro v' w8 hown hgrow _ _; obtain ⟨so3, sc3, rfl⟩ := row_sl hown)
              | fail)
            have HO8 : Hid (w8.ownsRow w4.heap.size 9 1 (.slice so3 (i + 1) sc3) (i + 1) ((L.take (i + 1)).map fun u => .string (serB al ck (u.take n)))) := by
              have hiL : i < L.length := by rw [← HLN.out]; exact q
              have e7 : (L.take (i + 1)).map (fun u => Value.string (serB al ck (u.take n))) = (L.take i).map (fun u => Value.string (serB al ck (u.take n))) ++ [.string tx] := by
                rw [List.take_add_one, List.getElem?_eq_getElem hiL, List.map_append, HTXE.out, HXX.out]
                rfl
              rw [e7]
              exact hown
            have HB8 : Hid (Below w4.heap.size w4 w8) := ((HB.out.trans (HB5.out.mono hsz4)).alloc hsz6 _).grown hgrow (by rw [World.size_alloc]; exact hsz7) (fun j hj => (HO5.out.lt j hj).1)
            clear hown hgrow
            go_wp2_with fail
            go_roundw
            case rel => exact ⟨i + 1, so3, sc3, q, by go_num, by rfl, HO8, HB8⟩
            case measure => simp [intOf]; omega
          · obtain rfl : i = ln := by omega
            have q1 : ¬ (i : Int) < (i : Int) := by omega
            go_wp2_with fail
            refine bodyPost_ret (v := .tuple #[.slice so2 i sc2, .int .i64 0]) (by simp [results, Try.results30, go_sem]) rfl ?_
            refine ⟨HB3.out.trans ((HB4.out.trans (HB.out.mono HB4.out.size)).mono HB3.out.size), .inr (.inr (.inr ⟨HV.out, by rw [HZ.out] at HYES; exact HYES.out, L, _, HP.out, HS.out, rfl, ?_⟩))⟩
            have h9 := HO.out
            rw [List.take_of_length_le (by rw [HLN.out]; exact Nat.le_refl _)] at h9
            have e9 : L.map (fun u => Value.string (serB al ck (u.take n))) = (L.map fun u => serB al ck (u.take n)).map Value.string := by rw [List.map_map]; rfl
            rw [e9] at h9
            have e8 : i = (L.map fun u => serB al ck (u.take n)).length := by rw [List.length_map]; exact HLN.out
            rw [e8] at h9 ⊢
            exact isSs_of_row h9
end Go.Proofs.Ytgblfobomiiofaa
namespace Go.Proofs.Ytgblfobomiiofaa
open Go Go.RowKit Go.Shelf Gw Go.Maps Go.Lib Go.Sort

theorem sort_any (base m : Nat) (so : Option Addr) (sc : Nat) (L : List (List Nat)) (vals : List Value) (W : World) (hm : m ≤ 1000) (hl : L.length ≤ 1000) (hL : ∀ x ∈ L, x.length = m) (_hb : base ≤ W.heap.size) (h : RowS base (.slice so L.length sc) L.length L vals W) :
    Calls Try.prog 74 #[.slice so L.length sc, .func (.func 75) #[] #[]] W (SortP base so sc L vals W) := by
  rcases Nat.eq_zero_or_pos L.length with h0 | h0
  · have hn := AnyF.slices_SortFunc_none (P := Try.prog) (ρ := Try.sortS_ren) { Try.sortS with } so sc (.func (.func 75) #[] #[]) W
    rw [h0]
    refine Calls.mono (f := 74) hn ?_
    rintro e w' ⟨rfl, rfl⟩
    obtain rfl : L = [] := List.length_eq_zero_iff.1 h0
    exact ⟨rfl, [], vals, List.Perm.refl _, List.Perm.refl _, List.Pairwise.nil, h, Below.refl _ _⟩
  · have hblk : ∃ blk, so = some ⟨blk, 0, none⟩ ∧ blk < W.heap.size := by
      rcases h.1.2 with ⟨h8, h9⟩ | ⟨g, cap, cur, h8, _, hg, _⟩
      · omega
      · injection h8 with h8 _ _
        exact ⟨g, h8, (Array.getElem?_eq_some_iff.1 hg).1⟩
    obtain ⟨blk, rfl, hlt⟩ := hblk
    obtain ⟨d, hd, hH, hv, hw⟩ := rowE_of h (fun x hx => by rw [hL x hx]; exact hm)
    have hs := Any.slices_SortFunc Try.sortS (fun x : RowE W blk => x.1.1) (rowE_one W blk) (fun x y => cmpL x.1.2 y.1.2) (swo_cmpL _) 75 #[] blk 0 sc d W (enters_of Try.func75 (by kernel_rfl) rfl) (rowE_cmp W blk 0 d.size) hH hlt (by omega)
    rw [hd] at hs
    refine Calls.mono (f := 74) hs ?_
    rintro e w' ⟨rfl, d', n, os, hp, hsd, rfl⟩
    rw [← hd] at hp hsd
    exact sortP_after h hd hv hw hp hsd
theorem Near_all {s : Sch} {bv : Value} {t : ByteArray} {w : World} (hv : IsSs w bv s.bl) : Calls Try.prog 30 #[schV s bv, .string t] w (NearQ s t w) := Near_any hv sort_any
end Go.Proofs.Ytgblfobomiiofaa
