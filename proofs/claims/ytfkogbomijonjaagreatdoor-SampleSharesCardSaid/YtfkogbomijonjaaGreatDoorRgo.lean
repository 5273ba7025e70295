/- A region that draws its order: each operation says once what it yields (region_own). Of no program. -/
import Derived.Below
import Derived.RegionTactic
import Derived.Test.YtfkogbomijonjaaGreatDoorNum
namespace Go.Proofs.YtfkogbomijonjaaGreatDoor
open Go Go.RowKit

/-- what lay in w lies -/
def Kw (w W : World) : Prop := Below w.heap.size w W
theorem Kw.next {w W W' : World} (h : Kw w W) (hb : Below W.heap.size W W') : Kw w W' := Below.trans h (hb.mono (Below.size h))

/-- the operations that operation i waits for -/
def rdeps (md : Region.Mode) (ops : Array Oper) (i : Nat) : List Nat := match ops[i]? with
  | some o => (o.after.toList.filter fun e => Region.binds md e).map fun e => e.on
  | none => []
/-- those that it waits for, by way of others -/
def rreach (md : Region.Mode) (ops : Array Oper) : Nat → Nat → List Nat
  | 0, _ => []
  | f + 1, i => rdeps md ops i ++ (rdeps md ops i).flatMap (rreach md ops f)
def upd (x : Nat → Value) (i : Nat) (v : Value) : Nat → Value := fun j => if j = i then v else x j
theorem upd_same (x : Nat → Value) (i : Nat) (v : Value) : upd x i v i = v := if_pos rfl
theorem upd_other {x : Nat → Value} {i j : Nat} (v : Value) (h : j ≠ i) : upd x i v j = x j := if_neg h
/-- how many of the first m are not listed -/
def left (listed : Array Bool) (m : Nat) : Nat := ((List.range m).filter fun i => !listed.getD i true).length
theorem left_zero {listed : Array Bool} {m : Nat} (h : left listed m = 0) : ∀ i, i < m → listed.getD i true = true := by
  intro i hi
  have h1 := List.eq_nil_of_length_eq_zero h
  have h2 := List.filter_eq_nil_iff.1 h1 i (List.mem_range.2 hi)
  simpa using h2
theorem left_pos {listed : Array Bool} : ∀ {m : Nat}, left listed m ≠ 0 → ∃ i, i < m ∧ listed.getD i true = false ∧ ∀ j, j < i → listed.getD j true = true
  | 0, h => absurd rfl h
  | m + 1, h => by
    by_cases h0 : left listed m = 0
    · refine ⟨m, Nat.lt_succ_self m, ?_, left_zero h0⟩
      unfold left at h h0
      rw [List.range_succ, List.filter_append, List.length_append, h0] at h
      cases hx : listed.getD m true with
      | false => rfl
      | true =>
        simp only [List.filter_cons, List.filter_nil, hx] at h
        exact absurd rfl h
    · obtain ⟨i, h1, h2, h3⟩ := left_pos h0
      exact ⟨i, by omega, h2, h3⟩
theorem getD_set {listed : Array Bool} {i j : Nat} {d : Bool} (hi : i < listed.size) : (listed.setIfInBounds i true).getD j d = if j = i then true else listed.getD j d := by
  by_cases e : j = i
  · subst e
    rw [if_pos rfl]
    simp [Array.getD, hi]
  · rw [if_neg e]
    unfold Array.getD
    simp only [Array.size_setIfInBounds]
    split
    · rename_i h
      exact Array.getElem_setIfInBounds_ne h (Ne.symm e)
    · rfl
theorem left_set {listed : Array Bool} {i : Nat} (hi : i < listed.size) (h0 : listed.getD i true = false) : ∀ {m : Nat}, i < m → left listed m = left (listed.setIfInBounds i true) m + 1
  | 0, h => absurd h (Nat.not_lt_zero _)
  | m + 1, h => by
    unfold left
    rw [List.range_succ, List.filter_append, List.filter_append, List.length_append, List.length_append]
    by_cases e : i = m
    · subst e
      have h1 : ((List.range i).filter fun k => !(listed.setIfInBounds i true).getD k true) = (List.range i).filter fun k => !listed.getD k true := by
        refine List.filter_congr fun k hk => ?_
        rw [getD_set hi, if_neg (by have := List.mem_range.1 hk; omega)]
      rw [h1]
      have h2 : (listed.setIfInBounds i true).getD i true = true := by rw [getD_set hi, if_pos rfl]
      simp only [List.filter_cons, List.filter_nil, h0, h2]
      simp
    · have h1 := left_set hi h0 (m := m) (by omega)
      unfold left at h1
      have h2 : (listed.setIfInBounds i true).getD m true = listed.getD m true := by rw [getD_set hi, if_neg (fun h => e h.symm)]
      simp only [List.filter_cons, List.filter_nil, h2]
      omega
/-- **EACH OPERATION OF THE HEAD (the first m) SAYS ONCE WHAT IT YIELDS (T), of its own value and of those that it waits for; what an operation's consumer (kill) spoils is said no more behind that one.** Behind the head the tail begins, whatever the order was. -/
theorem region_each {P : Program} {md : Region.Mode} {ops : Array Oper} {Q : Exit → Go.Act → World → Prop} (w0 : World) (m : Nat) (F : (Nat → Value) → Go.Act) (T : Nat → (Nat → Value) → World → Prop) (kill : Nat → Option Nat)
    (hm : m ≤ ops.size) (hdag : ∀ i, i < m → ∀ j ∈ rdeps md ops i, j < i) (htail : ∀ i, i < ops.size → m ≤ i → ∀ j, j < m → j ∈ rreach md ops 20 i)
    (hTx : ∀ i x y w, (∀ j, j = i ∨ j ∈ rdeps md ops i → x j = y j) → T i x w → T i y w)
    (hspec : ∀ i, i < m → ∃ o, ops[i]? = some o ∧ ∀ x w, Kw w0 w → (∀ j ∈ rdeps md ops i, (kill j = none ∨ kill j = some i) → T j x w) → ∀ K' : Go.Act → World → Prop, (∀ v w', T i (upd x i v) w' → Kw w0 w' → (∀ j, j < m → j ≠ i → i ∉ rreach md ops 20 j → (∀ k, kill j = some k → k ≠ i ∧ k ∉ rreach md ops 20 i) → ∀ y, T j y w → T j y w') → K' (F (upd x i v)) w') →
      if Region.wanted o (yielded ops (F x).tmps) = true then Oper.wp P o (F x) w K' Q else K' ((F x).put o.dst undef) w)
    (hfin : ∀ x w listed, Kw w0 w → (∀ i, i < m → kill i = none → T i x w) → listed = Array.replicate m true ++ Array.replicate (ops.size - m) false → wpAny P md ops Q (ops.size - m) listed (F x) w) :
    ∀ c listed x w, Kw w0 w → left listed m = c → listed.size = ops.size → (∀ i, m ≤ i → i < ops.size → listed.getD i true = false) → (∀ i, i < ops.size → listed.getD i true = true → ∀ j ∈ rdeps md ops i, listed.getD j true = true) →
      (∀ i, i < m → listed.getD i true = true → (∀ k, kill i = some k → listed.getD k true = false) → T i x w) → wpAny P md ops Q (c + (ops.size - m)) listed (F x) w := by
  intro c
  induction c with
  | zero =>
    intro listed x w hk hc hsz htl hid hTl
    have hall := left_zero hc
    rw [Nat.zero_add]
    refine hfin x w listed hk (fun i hi hn => hTl i hi (hall i hi) (fun k hk => by rw [hn] at hk; cases hk)) ?_
    refine Array.ext (by simp; omega) fun i h1 h2 => ?_
    have hg : listed.getD i true = listed[i] := by simp [Array.getD, h1]
    by_cases h3 : i < m
    · rw [← hg, hall i h3, Array.getElem_append_left (by simpa using h3)]
      simp
    · rw [← hg, htl i (by omega) (by omega), Array.getElem_append_right (by simp; omega)]
      simp
  | succ c ih =>
    intro listed x w hk hc hsz htl hid hTl
    have hdep : ∀ {i : Nat} {o : Oper}, ops[i]? = some o → (∀ e ∈ o.after, Region.binds md e = true → listed.getD e.on false = true) → ∀ j ∈ rdeps md ops i, listed.getD j true = true := fun {i o} ho h j hj => by
      unfold rdeps at hj
      rw [ho] at hj
      obtain ⟨e, he, rfl⟩ := List.mem_map.1 hj
      obtain ⟨h1, h2⟩ := List.mem_filter.1 he
      have h3 := h e (Array.mem_toList_iff.1 h1) h2
      unfold Array.getD at h3 ⊢
      by_cases hs : e.on < listed.size
      · rw [dif_pos hs] at h3 ⊢; exact h3
      · rw [dif_neg hs] at h3; cases h3
    have hrch : ∀ f i, (∀ j ∈ rdeps md ops i, listed.getD j true = true) → ∀ j ∈ rreach md ops f i, listed.getD j true = true := by
      intro f
      induction f with
      | zero => intro i _ j hj; cases hj
      | succ f ihf =>
        intro i hi j hj
        rcases List.mem_append.1 hj with h | h
        · exact hi j h
        · obtain ⟨k, hk1, hk2⟩ := List.mem_flatMap.1 h
          refine ihf k (fun j' hj' => ?_) j hk2
          by_cases hks : k < ops.size
          · exact hid k hks (hi k hk1) j' hj'
          · unfold rdeps at hj'
            rw [Array.getElem?_eq_none (by omega)] at hj'
            cases hj'
    have hne : left listed m ≠ 0 := by omega
    rw [Nat.succ_add]
    refine ⟨fun hr => ?_, fun i hi => ?_⟩
    · exfalso
      obtain ⟨i, h1, h2, h3⟩ := left_pos hne
      obtain ⟨o, ho, -⟩ := hspec i h1
      have : i ∈ Region.ready md ops listed := mem_ready.2 ⟨h2, o, ho, fun e he hb => by
        have hj : e.on ∈ rdeps md ops i := by
          unfold rdeps
          rw [ho]
          exact List.mem_map.2 ⟨e, List.mem_filter.2 ⟨Array.mem_toList_iff.2 he, hb⟩, rfl⟩
        have h4 := hdag i h1 _ hj
        have h5 := h3 _ h4
        have h6 : e.on < listed.size := by omega
        simp [Array.getD, h6] at h5 ⊢
        exact h5⟩
      rw [hr] at this
      cases this
    · obtain ⟨h2, o, ho, hbd⟩ := mem_ready.1 hi
      have his : i < ops.size := (Array.getElem?_eq_some_iff.1 ho).1
      have hdp := hdep ho hbd
      by_cases h1 : i < m
      · obtain ⟨o', ho', hsp⟩ := hspec i h1
        obtain rfl : o' = o := by rw [ho] at ho'; injection ho' with h; exact h.symm
        refine wpOp_step ho fun K' hK => hsp x w hk (fun j hj hkl => hTl j (by have := hdag i h1 j hj; omega) (hdp j hj) (fun k hk => by
            rcases hkl with h | h
            · rw [h] at hk; cases hk
            · rw [h] at hk; cases hk; exact h2)) K' fun v w' hv hb hpr => hK _ _ (ih _ (upd x i v) w' hb ?_ (by simp [hsz]) (fun j j1 j2 => ?_) (fun j j1 j2 k hk2 => ?_) (fun j j1 j2 j3 => ?_))
        · have := left_set (listed := listed) (by omega) h2 h1
          omega
        · rw [getD_set (by omega), if_neg (by omega)]
          exact htl j j1 j2
        · rw [getD_set (by omega)] at j2 ⊢
          by_cases e : k = i
          · rw [if_pos e]
          · rw [if_neg e]
            by_cases e2 : j = i
            · subst e2; exact hdp k hk2
            · rw [if_neg e2] at j2
              exact hid j j1 j2 k hk2
        · rw [getD_set (by omega)] at j2
          by_cases e : j = i
          · subst e; exact hv
          · rw [if_neg e] at j2
            have hjs : j < ops.size := by omega
            have hnr : ∀ f, i ∉ rreach md ops f j := fun f h => by
              have := hrch f j (hid j hjs j2) i h
              rw [h2] at this; cases this
            have j4 : ∀ k, kill j = some k → k ≠ i ∧ listed.getD k true = false := fun k hk => by
              have := j3 k hk
              rw [getD_set (by omega)] at this
              by_cases e3 : k = i
              · rw [if_pos e3] at this; cases this
              · rw [if_neg e3] at this; exact ⟨e3, this⟩
            refine hTx j x (upd x i v) w' (fun l hl => ?_) (hpr j j1 e (hnr 20) (fun k hk => ⟨(j4 k hk).1, fun h => ?_⟩) x (hTl j j1 j2 fun k hk => (j4 k hk).2))
            · rcases hl with rfl | hl
              · exact (upd_other _ e).symm
              · refine (upd_other _ (fun e4 => ?_)).symm
                subst e4
                have := hid j hjs j2 _ hl
                rw [h2] at this; cases this
            · have := hrch 20 i hdp k h
              rw [(j4 k hk).2] at this; cases this
      · exfalso
        obtain ⟨k, k1, k2, -⟩ := left_pos hne
        have := hrch 20 i hdp k (htail i his (by omega) k k1)
        rw [k2] at this
        cases this
theorem getD_replicate {k i : Nat} {d : Bool} (h : i < k) : (Array.replicate k false).getD i d = false := by
  simp [Array.getD, h]
theorem left_new {k m : Nat} (h : m ≤ k) : left (Array.replicate k false) m = m := by
  unfold left
  rw [List.filter_eq_self.2 (fun i hi => by rw [getD_replicate (Nat.lt_of_lt_of_le (List.mem_range.1 hi) h)]; rfl), List.length_range]
/-- **A REGION WHOSE HEAD's OPERATIONS SAY EACH WHAT IT YIELDS.** -/
theorem region_own {P : Program} {ops : Array Oper} {Q : Exit → Go.Act → World → Prop} {id : Nat} {a : Go.Act} (w0 : World) (m : Nat) (F : (Nat → Value) → Go.Act) (T : Nat → (Nat → Value) → World → Prop) (kill : Nat → Option Nat) (x0 : Nat → Value) (ha : a = F x0) (hmix : P.follows .mixedOrders = true)
    (hm : m ≤ ops.size) (hdag : ∀ i, i < m → ∀ j ∈ rdeps .any ops i, j < i) (htail : ∀ i, i < ops.size → m ≤ i → ∀ j, j < m → j ∈ rreach .any ops 20 i)
    (hTx : ∀ i x y w, (∀ j, j = i ∨ j ∈ rdeps .any ops i → x j = y j) → T i x w → T i y w)
    (hspec : ∀ i, i < m → ∃ o, ops[i]? = some o ∧ ∀ x w, Kw w0 w → (∀ j ∈ rdeps .any ops i, (kill j = none ∨ kill j = some i) → T j x w) → ∀ K' : Go.Act → World → Prop, (∀ v w', T i (upd x i v) w' → Kw w0 w' → (∀ j, j < m → j ≠ i → i ∉ rreach .any ops 20 j → (∀ k, kill j = some k → k ≠ i ∧ k ∉ rreach .any ops 20 i) → ∀ y, T j y w → T j y w') → K' (F (upd x i v)) w') →
      if Region.wanted o (yielded ops (F x).tmps) = true then Oper.wp P o (F x) w K' Q else K' ((F x).put o.dst undef) w)
    (hfin : ∀ x w listed, Kw w0 w → (∀ i, i < m → kill i = none → T i x w) → listed = Array.replicate m true ++ Array.replicate (ops.size - m) false → wpAny P .any ops Q (ops.size - m) listed (F x) w) :
    (Code.region id ops true).wp P Q a w0 := by
  refine wp_region_any hmix ?_
  have h := region_each w0 m F T kill hm hdag htail hTx hspec hfin m (Array.replicate ops.size false) x0 w0.drew (Below.refl _ _).drew (left_new hm) (by simp) (fun i _ h2 => getD_replicate h2) (fun i h1 h2 => by rw [getD_replicate h1] at h2; cases h2) (fun i h1 h2 => by rw [getD_replicate (Nat.lt_of_lt_of_le h1 hm)] at h2; cases h2)
  rw [show m + (ops.size - m) = ops.size by omega] at h
  rw [ha]
  exact h
end Go.Proofs.YtfkogbomijonjaaGreatDoor
