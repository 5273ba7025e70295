/- The box of a map; the contracts of isTag, isUsable and check. -/
import Derived.Test.YtahgfggcpmnnaaaYr
namespace Go.Proofs.Ytahgfggcpmnnaaa
open Go Go.RowKit Gs

/-- the box of a map behind W, in a later world -/
structure Mq (W : World) (p : Option Addr) (size : Int) (W' : World) : Prop where
  c0 : W'.cell? ⟨W.heap.size, 0, none⟩ = some (.pointer p)
  c1 : W'.cell? ⟨W.heap.size, 1, none⟩ = some (.int .i64 size)
  f0 : W'.frozen? ⟨W.heap.size, 0, none⟩ = false
  f1 : W'.frozen? ⟨W.heap.size, 1, none⟩ = false
  lt : W.heap.size < W'.heap.size
  bel : Below W.heap.size W W'
section
variable {W W' W2 : World} {p : Option Addr} {size : Int}
theorem Mq.next (h : Mq W p size W') (hb : Below W'.heap.size W' W2) : Mq W p size W2 :=
  ⟨(hb.cell (p := ⟨W.heap.size, 0, none⟩) h.lt).trans h.c0, (hb.cell (p := ⟨W.heap.size, 1, none⟩) h.lt).trans h.c1, (hb.frozen (p := ⟨W.heap.size, 0, none⟩) h.lt).trans h.f0, (hb.frozen (p := ⟨W.heap.size, 1, none⟩) h.lt).trans h.f1, Nat.lt_of_lt_of_le h.lt hb.size, h.bel.trans (hb.mono h.bel.size)⟩
theorem Mq.drew (h : Mq W p size W') : Mq W p size W'.drew := h.next (Below.refl _ _).drew
theorem Mq.drewN (h : Mq W p size W') (k : Nat) : Mq W p size (W'.drewN k) := h.next (below_drewN (Below.refl _ _) k)
theorem Mq.new (W : World) (p : Option Addr) (size : Int) (Ty : TypeId) : Mq W p size (W.alloc (.cells #[.pointer p, .int .i64 size] Ty)) :=
  ⟨World.cell?_alloc_at _ _ _ _ rfl, World.cell?_alloc_at _ _ _ _ rfl, World.frozen?_alloc_at _ _ _ _ rfl, World.frozen?_alloc_at _ _ _ _ rfl, by simp, (Below.refl _ _).alloc (Nat.le_refl _) _⟩
/-- both cells are stored anew -/
theorem Mq.put (h : Mq W p size W') (q : Option Addr) (s : Int) : Mq W q s ((W'.setCell ⟨W.heap.size, 0, none⟩ (.pointer q)).setCell ⟨W.heap.size, 1, none⟩ (.int .i64 s)) :=
  ⟨(World.cell?_setCell_other _ _ _ _ (by intro e; cases e)).trans (World.cell?_setCell_same _ _ _ h.c0), World.cell?_setCell_same _ _ _ ((World.cell?_setCell_other _ _ _ _ (by intro e; cases e)).trans h.c1),
   (World.frozen?_setCell _ _ _ _).trans ((World.frozen?_setCell _ _ _ _).trans h.f0), (World.frozen?_setCell _ _ _ _).trans ((World.frozen?_setCell _ _ _ _).trans h.f1), by rw [World.size_setCell, World.size_setCell]; exact h.lt, (h.bel.setCell (Nat.le_refl _) _).setCell (Nat.le_refl _) _⟩
end
def isT (t : Int) : Bool := decide (0 ≤ t ∧ t < 16)
/-- what check answers of a map that is usable -/
def errOf (size lo hi : Int) (ts : List Int) : Int := if lo < 0 ∨ hi < lo ∨ size < hi then 3 else if ts.all isT then 0 else 2

theorem isTag_any (t : Int) (W : World) : Calls Try.prog 52 #[.int .i64 t] W fun e w' => e = .returned (.bool (isT t)) ∧ W = w' := by
  by_cases h0 : 0 ≤ t
  · by_cases h1 : t < 16
    · have HE : Hid (isT t = true) := decide_eq_true ⟨h0, h1⟩
      have h2 : t ≥ 0 := h0
      go_enter Try.func52, Try.ntmps52
      go_wp2_with fail
      go_ret
      exact ⟨by rw [HE.out]; rfl, rfl⟩
    · have HE : Hid (isT t = false) := decide_eq_false (fun h => h1 h.2)
      have h2 : t ≥ 0 := h0
      go_enter Try.func52, Try.ntmps52
      go_wp2_with fail
      go_ret
      exact ⟨by rw [HE.out]; rfl, rfl⟩
  · have HE : Hid (isT t = false) := decide_eq_false (fun h => h0 h.1)
    have h2 : ¬ t ≥ 0 := h0
    go_enter Try.func52, Try.ntmps52
    go_wp2_with fail
    go_ret
    exact ⟨by rw [HE.out]; rfl, rfl⟩
theorem isUsable_any (b : Nat) (size : Int) (W : World) : Calls Try.prog 44 #[.agg #[.pointer (some ⟨b, 0, none⟩), .int .i64 size]] W fun e w' => e = .returned (.bool true) ∧ Below W.heap.size W w' := by
  have HB : Hid (∀ o, Below W.heap.size W (W.alloc o)) := fun o => (Below.refl _ _).alloc (Nat.le_refl _) _
  go_enter Try.func44, Try.ntmps44
  go_wp2_with fail
  go_ret
  exact ⟨rfl, HB.out _⟩
theorem isUsable_none (size : Int) (W : World) : Calls Try.prog 44 #[.agg #[.pointer none, .int .i64 size]] W fun e w' => e = .returned (.bool false) ∧ Below W.heap.size W w' := by
  have HB : Hid (∀ o, Below W.heap.size W (W.alloc o)) := fun o => (Below.refl _ _).alloc (Nat.le_refl _) _
  go_enter Try.func44, Try.ntmps44
  go_wp2_with fail
  go_ret
  exact ⟨rfl, HB.out _⟩
/-- a map that is unusable -/
theorem check_none (size lo hi : Int) (a : Option Addr) (n c : Nat) (W : World) : Calls Try.prog 46 #[.agg #[.pointer none, .int .i64 size], .int .i64 lo, .int .i64 hi, .slice a n c] W fun e w' => e = .returned (.int .i64 1) ∧ Below W.heap.size W w' := by
  have HUS := Lib.hid (fun W' => isUsable_none size W')
  have HB : Hid (∀ o, Below W.heap.size W (W.alloc o)) := fun o => (Below.refl _ _).alloc (Nat.le_refl _) _
  go_enter Try.func46, Try.ntmps46
  go_wp2_with fail
  refine (HUS.out _).mono ?_
  rintro e w1 ⟨rfl, hb⟩
  have HB1 := Lib.hid ((HB.out _).trans (hb.mono (HB.out _).size))
  clear hb
  go_wp2_with fail
  go_ret
  exact ⟨rfl, HB1.out⟩
/-- a range that is not in the map -/
theorem check_range (b : Nat) (size lo hi : Int) (a : Option Addr) (n c : Nat) (W : World) (h : lo < 0 ∨ hi < lo ∨ size < hi) : Calls Try.prog 46 #[.agg #[.pointer (some ⟨b, 0, none⟩), .int .i64 size], .int .i64 lo, .int .i64 hi, .slice a n c] W fun e w' => e = .returned (.int .i64 3) ∧ Below W.heap.size W w' := by
  have HUS := Lib.hid (fun W' => isUsable_any b size W')
  obtain ⟨w0, HW⟩ : ∃ w0, w0 = W.alloc (.cells #[.pointer (some ⟨b, 0, none⟩), .int .i64 size] 27) := ⟨_, rfl⟩
  have hq : Mq W (some ⟨b, 0, none⟩) size w0 := by rw [HW]; exact Mq.new _ _ _ _
  have HQ := Lib.hid hq
  have HW' := Lib.hid HW
  clear hq HW
  by_cases h1 : lo < 0
  · clear h
    go_enter Try.func46, Try.ntmps46
    go_wp2_with fail
    rw [← HW'.out]
    refine (HUS.out _).mono ?_
    rintro e w1 ⟨rfl, hb⟩
    have HQ1 := Lib.hid (HQ.out.next hb)
    clear hb
    go_wp2_with fail
    go_ret
    exact ⟨rfl, HQ1.out.bel⟩
  · by_cases h2 : hi < lo
    · clear h
      go_enter Try.func46, Try.ntmps46
      go_wp2_with fail
      rw [← HW'.out]
      refine (HUS.out _).mono ?_
      rintro e w1 ⟨rfl, hb⟩
      have HQ1 := Lib.hid (HQ.out.next hb)
      clear hb
      go_wp2_with fail
      go_ret
      exact ⟨rfl, HQ1.out.bel⟩
    · have h3 : hi > size := by omega
      clear h
      go_enter Try.func46, Try.ntmps46
      go_wp2_with fail
      rw [← HW'.out]
      refine (HUS.out _).mono ?_
      rintro e w1 ⟨rfl, hb⟩
      have HQ1 := Lib.hid (HQ.out.next hb)
      have c0 := HQ1.out.c0; have c1 := HQ1.out.c1
      clear hb
      go_wp2_with fail
      go_ret
      exact ⟨rfl, HQ1.out.bel⟩
theorem check_nil (b : Nat) (size lo hi : Int) (W : World) (h1 : ¬ lo < 0) (h2 : ¬ hi < lo) (h3 : ¬ hi > size) : Calls Try.prog 46 #[.agg #[.pointer (some ⟨b, 0, none⟩), .int .i64 size], .int .i64 lo, .int .i64 hi, .slice none 0 0] W fun e w' => e = .returned (.int .i64 0) ∧ Below W.heap.size W w' := by
  have HUS := Lib.hid (fun W' => isUsable_any b size W')
  obtain ⟨w0, HW⟩ : ∃ w0, w0 = W.alloc (.cells #[.pointer (some ⟨b, 0, none⟩), .int .i64 size] 27) := ⟨_, rfl⟩
  have hq : Mq W (some ⟨b, 0, none⟩) size w0 := by rw [HW]; exact Mq.new _ _ _ _
  have HQ := Lib.hid hq
  have HW' := Lib.hid HW
  clear hq HW
  go_enter Try.func46, Try.ntmps46
  go_wp2_with fail
  rw [← HW'.out]
  refine (HUS.out _).mono ?_
  rintro e w1 ⟨rfl, hb⟩
  have HQ1 := Lib.hid (HQ.out.next hb)
  have c0 := HQ1.out.c0; have c1 := HQ1.out.c1
  clear hb
  go_wp2_with fail
  go_loopw [29] (fun i wr => i = .int .i64 0 ∧ w1 = wr) (fun _ _ => 0)
  case atStart => exact ⟨rfl, rfl⟩
  case round =>
    obtain ⟨rfl, rfl⟩ := hrel
    go_wp2_with fail
    go_ret
    exact ⟨rfl, HQ1.out.bel⟩
theorem check_list (b B c : Nat) (size lo hi : Int) (ts : List Int) (W : World) (hB : B < W.heap.size) (hc : ∀ i (h : i < ts.length), W.cell? ⟨B, i, none⟩ = some (.int .i64 ts[i])) (hn : ts.length ≤ 4) (h1 : ¬ lo < 0) (h2 : ¬ hi < lo) (h3 : ¬ hi > size) :
    Calls Try.prog 46 #[.agg #[.pointer (some ⟨b, 0, none⟩), .int .i64 size], .int .i64 lo, .int .i64 hi, .slice (some ⟨B, 0, none⟩) ts.length c] W fun e w' => e = .returned (.int .i64 (if ts.all isT then 0 else 2)) ∧ Below W.heap.size W w' := by
  have HUS := Lib.hid (fun W' => isUsable_any b size W')
  have HTA := Lib.hid (fun t W' => isTag_any t W')
  have HC : Hid (∀ W' i (h : i < ts.length), Below W.heap.size W W' → W'.cell? ⟨B, i, none⟩ = some (.int .i64 ts[i])) := fun W' i h hb => (hb.cell (p := ⟨B, i, none⟩) hB).trans (hc i h)
  obtain ⟨w0, HW⟩ : ∃ w0, w0 = W.alloc (.cells #[.pointer (some ⟨b, 0, none⟩), .int .i64 size] 27) := ⟨_, rfl⟩
  have hq : Mq W (some ⟨b, 0, none⟩) size w0 := by rw [HW]; exact Mq.new _ _ _ _
  have HQ := Lib.hid hq
  have HW' := Lib.hid HW
  clear hq HW hc
  obtain ⟨er, her⟩ : ∃ er : Int, er = if ts.all isT then 0 else 2 := ⟨_, rfl⟩
  rw [← her]
  have HER := Lib.hid her
  clear her
  obtain ⟨n, hnn⟩ : ∃ n, n = ts.length := ⟨_, rfl⟩
  have HN := Lib.hid hnn
  rw [← hnn] at hn ⊢
  clear hnn
  go_enter Try.func46, Try.ntmps46
  go_wp2_with fail
  rw [← HW'.out]
  refine (HUS.out _).mono ?_
  rintro e w1 ⟨rfl, hb⟩
  have HQ1 := Lib.hid (HQ.out.next hb)
  have c0 := HQ1.out.c0; have c1 := HQ1.out.c1
  clear hb
  go_wp2_with fail
  go_loopw [29] (fun i wr => ∃ j : Nat, j ≤ n ∧ i = .int .i64 j ∧ Hid (∀ k (h : k < ts.length), k < j → isT ts[k] = true) ∧ Hid (Below W.heap.size W wr)) (fun i _ => n - (intOf i).toNat)
  case atStart => exact ⟨0, by omega, rfl, fun k _ h => absurd h (by omega), HQ1.out.bel⟩
  case round =>
    obtain ⟨j, hj, rfl, HK, HB⟩ := hrel
    by_cases hlt : j < n
    · have hj2 : (j : Int) < n := by omega
      have hjn : j < ts.length := by rw [← HN.out]; exact hlt
      have hcell := HC.out wr j hjn HB.out
      by_cases ht : isT ts[j] = true
      · have HK2 : Hid (∀ k (h : k < ts.length), k < j + 1 → isT ts[k] = true) := fun k h hk => by
          by_cases e : k = j
          · subst e; exact ht
          · exact HK.out k h (by omega)
        have HT2 : Hid (∀ W', Calls Try.prog 52 #[.int .i64 ts[j]] W' fun e w' => e = .returned (.bool true) ∧ W' = w') := fun W' => by
          have := HTA.out ts[j] W'
          rwa [ht] at this
        clear ht HK
        generalize ts[j] = tj at *
        go_wp2_with fail
        refine (HT2.out _).mono ?_
        rintro e w3 ⟨rfl, rfl⟩
        go_wp2_with fail
        go_roundw
        case rel => exact ⟨j + 1, by omega, by go_num, HK2, HB⟩
        case measure => simp [intOf]; omega
      · have HE : Hid (er = 2) := by
          have : ts.all isT = false := List.all_eq_false.2 ⟨ts[j], List.getElem_mem hjn, by simpa using ht⟩
          show _ = _; rw [HER.out, this]; rfl
        have HT2 : Hid (∀ W', Calls Try.prog 52 #[.int .i64 ts[j]] W' fun e w' => e = .returned (.bool false) ∧ W' = w') := fun W' => by
          have := HTA.out ts[j] W'
          rwa [Bool.eq_false_iff.2 ht] at this
        clear ht HK
        generalize ts[j] = tj at *
        go_wp2_with fail
        refine (HT2.out _).mono ?_
        rintro e w3 ⟨rfl, rfl⟩
        go_wp2_with fail
        go_ret
        exact ⟨by rw [HE.out]; rfl, HB.out⟩
    · have hj3 : ¬ (j : Int) < n := by omega
      have HE : Hid (er = 0) := by
        have : ts.all isT = true := List.all_eq_true.2 fun t ht => by
          obtain ⟨k, hk, rfl⟩ := List.getElem_of_mem ht
          exact HK.out k hk (by have := HN.out; omega)
        show _ = _; rw [HER.out, this]; rfl
      go_wp2_with fail
      go_ret
      exact ⟨by rw [HE.out]; rfl, HB.out⟩
theorem check_any (b B c : Nat) (size lo hi : Int) (ts : List Int) (W : World) (hB : B < W.heap.size) (hc : ∀ i (h : i < ts.length), W.cell? ⟨B, i, none⟩ = some (.int .i64 ts[i])) (hn : ts.length ≤ 4) :
    Calls Try.prog 46 #[.agg #[.pointer (some ⟨b, 0, none⟩), .int .i64 size], .int .i64 lo, .int .i64 hi, .slice (some ⟨B, 0, none⟩) ts.length c] W fun e w' => e = .returned (.int .i64 (errOf size lo hi ts)) ∧ Below W.heap.size W w' := by
  by_cases h : lo < 0 ∨ hi < lo ∨ size < hi
  · have := check_range b size lo hi (some ⟨B, 0, none⟩) ts.length c W h
    simp only [errOf, if_pos h]
    exact this
  · have := check_list b B c size lo hi ts W hB hc hn (by omega) (by omega) (by omega)
    simp only [errOf, if_neg h]
    exact this
end Go.Proofs.Ytahgfggcpmnnaaa
