/- The contract of balance. -/
import Derived.Test.YtahgfggcpmnnaaaYg
namespace Go.Proofs.Ytahgfggcpmnnaaa
open Go Go.RowKit Gs

/-- a tree with these runs comes back, and nothing older has changed -/
def TreeOf (W : World) (L : List R) (e : Ending) (w' : World) : Prop := ∃ b t, e = .returned (.pointer (some ⟨b, 0, none⟩)) ∧ IsT w' t (.pointer (some ⟨b, 0, none⟩)) ∧ t.L = L ∧ Below W.heap.size W w'
theorem tall_pos {t : T} (h : 0 < t.tall) : ∃ l r k, t = .node l r k := by
  cases t with
  | nil => exact absurd h (by simp [T.tall])
  | node l r k => exact ⟨l, r, k, rfl⟩
set_option maxHeartbeats 1000000 in
theorem balance_LL (c d k : T) (lo hi tag lo2 hi2 tag2 : Int) (p y : Option Addr) (W : World) (hl : IsT W (.node c ⟨lo2, hi2, tag2⟩ d) (.pointer p)) (hk : IsT W k (.pointer y)) (hb : Bd (c.L ++ ⟨lo2, hi2, tag2⟩ :: (d.L ++ ⟨lo, hi, tag⟩ :: k.L))) (hd : ((T.node c ⟨lo2, hi2, tag2⟩ d).tall : Int) - k.tall = 2) (ht : d.tall ≤ c.tall) :
    Calls Try.prog 80 #[.pointer p, .agg #[.int .i64 lo, .int .i64 hi, .int .i64 tag], .pointer y] W (TreeOf W ((c.L ++ ⟨lo2, hi2, tag2⟩ :: d.L) ++ ⟨lo, hi, tag⟩ :: k.L)) := by
  have hsz := hb.1
  simp at hsz
  have htc := c.tall_le; have htd := d.tall_le; have htk := k.tall_le
  rw [T.sz_eq] at htc htd htk
  obtain ⟨b, u, v, rfl, hlt, h1, h2, hcs⟩ := hl.open
  obtain ⟨W0, HW, hb0, hs0, hall⟩ := box_later (Ty := 64) (lo := lo) (hi := hi) (tag := tag) hcs
  have HTL : Hid (∀ W', Below W0.heap.size W0 W' → Calls Try.prog 79 #[.pointer (some ⟨b, 0, none⟩)] W' fun e w' => e = .returned (.int .i64 (T.node c ⟨lo2, hi2, tag2⟩ d).tall) ∧ W' = w') := fun W' h => tall_any _ _ _ (IsT.below h (IsT.below hb0 hl))
  have HTK : Hid (∀ W', Below W0.heap.size W0 W' → Calls Try.prog 79 #[.pointer y] W' fun e w' => e = .returned (.int .i64 k.tall) ∧ W' = w') := fun W' h => tall_any _ _ _ (IsT.below h (IsT.below hb0 hk))
  have HTC : Hid (∀ W', Below W0.heap.size W0 W' → Calls Try.prog 79 #[.pointer u] W' fun e w' => e = .returned (.int .i64 c.tall) ∧ W' = w') := fun W' h => tall_any _ _ _ (IsT.below h (IsT.below hb0 h1))
  have HTD : Hid (∀ W', Below W0.heap.size W0 W' → Calls Try.prog 79 #[.pointer v] W' fun e w' => e = .returned (.int .i64 d.tall) ∧ W' = w') := fun W' h => tall_any _ _ _ (IsT.below h (IsT.below hb0 h2))
  have HRS : Hid (∀ W', Below W0.heap.size W0 W' → Calls Try.prog 82 #[.pointer (some ⟨b, 0, none⟩), .agg #[.int .i64 lo, .int .i64 hi, .int .i64 tag], .pointer y] W' fun e w' => ∃ g t, e = .returned (.pointer (some ⟨g, 0, none⟩)) ∧ IsT w' t (.pointer (some ⟨g, 0, none⟩)) ∧ Hid (t.L = (c.L ++ ⟨lo2, hi2, tag2⟩ :: d.L) ++ ⟨lo, hi, tag⟩ :: k.L) ∧ Below W0.heap.size W0 w') := fun W' h =>
    (raiseLeft_any c d k lo hi tag lo2 hi2 tag2 _ _ W' (IsT.below h (IsT.below hb0 hl)) (IsT.below h (IsT.below hb0 hk)) hb).mono fun e w' ⟨g, he, ht, hB⟩ => ⟨g, _, he, ht, by show _ = _; simp [T.L], h.trans (hB.mono h.size)⟩
  have HALL := Lib.hid hall
  have HW0 := Lib.hid HW
  have HB0 := Lib.hid hb0
  clear HW hall hl hk h1 h2 hcs hb hb0
  have he2 : ((((T.node c ⟨lo2, hi2, tag2⟩ d)).tall : Int) - k.tall == 2) = true := by rw [hd]; rfl
  have hq1 : (T.node c ⟨lo2, hi2, tag2⟩ d).tall ≤ 100001 := by simp only [T.tall] at htc htd ⊢; omega
  clear hd
  generalize (T.node c ⟨lo2, hi2, tag2⟩ d).tall = th at *
  generalize k.tall = tk at *
  generalize c.tall = tc at *
  generalize d.tall = td at *
  have hcmp : ¬ (tc : Int) < td := by omega
  go_enter Try.func80, Try.ntmps80
  go_wp2_with fail
  rw [← HW0.out]
  refine (HTL.out _ (Below.refl _ _)).mono ?_
  rintro e w1 ⟨rfl, rfl⟩
  go_wp2_with fail
  refine (HTK.out _ (Below.refl _ _)).mono ?_
  rintro e w1 ⟨rfl, rfl⟩
  have hs : Below W0.heap.size W0 W0 := Below.refl _ _
  have hs2 := hs.drew
  have hcl := HALL.out _ hs2
  have hc0 := HALL.out _ hs
  unfold Bs Cs at hcl hc0 HALL
  go_wp2_with fail
  go_region_held3 (fun W' : World => ((W'.cell? ⟨W.heap.size, 0, none⟩ = some (.int .i64 lo) ∧ W'.cell? ⟨W.heap.size, 1, none⟩ = some (.int .i64 hi) ∧ W'.cell? ⟨W.heap.size, 2, none⟩ = some (.int .i64 tag)) ∧ W'.cell? ⟨b, 0, none⟩ = some (.pointer u) ∧ W'.cell? ⟨b, 1, none⟩ = some (.int .i64 lo2) ∧ W'.cell? ⟨b, 2, none⟩ = some (.int .i64 hi2) ∧ W'.cell? ⟨b, 3, none⟩ = some (.int .i64 tag2) ∧ W'.cell? ⟨b, 4, none⟩ = some (.pointer v)) ∧ Below W0.heap.size W0 W') (first | (refine And.intro ?_ ?_ <;> assumption) | fail) (first
    | (go_at_call 79; with_reducible refine (HTC.out _ ?h).mono ?_; (case h => assumption); rintro e w' ⟨rfl, rfl⟩)
    | (go_at_call 79; with_reducible refine (HTD.out _ ?h).mono ?_; (case h => assumption); rintro e w' ⟨rfl, rfl⟩) | fail)
  all_goals
    clear hs hc0
    go_wp2_with fail
    refine (HRS.out _ hs2).mono ?_
    rintro e w2 ⟨g, t, rfl, hgt, HTE, hB⟩
    have HT := Lib.hid hgt
    have HB := Lib.hid (HB0.out.trans (hB.mono (Nat.le_of_lt hs0)))
    clear hgt hB
    go_wp2_with fail
    go_ret
    exact ⟨g, t, rfl, HT.out, HTE.out, HB.out⟩
set_option maxHeartbeats 1000000 in
theorem balance_LR (c d k : T) (lo hi tag lo2 hi2 tag2 : Int) (p y : Option Addr) (W : World) (hl : IsT W (.node c ⟨lo2, hi2, tag2⟩ d) (.pointer p)) (hk : IsT W k (.pointer y)) (hb : Bd (c.L ++ ⟨lo2, hi2, tag2⟩ :: (d.L ++ ⟨lo, hi, tag⟩ :: k.L))) (hd : ((T.node c ⟨lo2, hi2, tag2⟩ d).tall : Int) - k.tall = 2) (ht : c.tall < d.tall) :
    Calls Try.prog 80 #[.pointer p, .agg #[.int .i64 lo, .int .i64 hi, .int .i64 tag], .pointer y] W (TreeOf W ((c.L ++ ⟨lo2, hi2, tag2⟩ :: d.L) ++ ⟨lo, hi, tag⟩ :: k.L)) := by
  have hsz := hb.1
  simp at hsz
  have htc := c.tall_le; have htd := d.tall_le; have htk := k.tall_le
  rw [T.sz_eq] at htc htd htk
  obtain ⟨d1, ⟨lo3, hi3, tag3⟩, d2, rfl⟩ := tall_pos (t := d) (by omega)
  have hbr : Bd ((c.L ++ ⟨lo2, hi2, tag2⟩ :: d1.L) ++ ⟨lo3, hi3, tag3⟩ :: d2.L) := by
    simp only [T.L] at hb
    refine ⟨by have := hb.1; simp at this ⊢; omega, fun x hx => hb.2 x (by simp at hx ⊢; grind)⟩
  obtain ⟨b, u, v, rfl, hlt, h1, h2, hcs⟩ := hl.open
  obtain ⟨W0, HW, hb0, hs0, hall⟩ := box_later (Ty := 64) (lo := lo) (hi := hi) (tag := tag) hcs
  have HTL : Hid (∀ W', Below W0.heap.size W0 W' → Calls Try.prog 79 #[.pointer (some ⟨b, 0, none⟩)] W' fun e w' => e = .returned (.int .i64 (T.node c ⟨lo2, hi2, tag2⟩ (T.node d1 ⟨lo3, hi3, tag3⟩ d2)).tall) ∧ W' = w') := fun W' h => tall_any _ _ _ (IsT.below h (IsT.below hb0 hl))
  have HTK : Hid (∀ W', Below W0.heap.size W0 W' → Calls Try.prog 79 #[.pointer y] W' fun e w' => e = .returned (.int .i64 k.tall) ∧ W' = w') := fun W' h => tall_any _ _ _ (IsT.below h (IsT.below hb0 hk))
  have HTC : Hid (∀ W', Below W0.heap.size W0 W' → Calls Try.prog 79 #[.pointer u] W' fun e w' => e = .returned (.int .i64 c.tall) ∧ W' = w') := fun W' h => tall_any _ _ _ (IsT.below h (IsT.below hb0 h1))
  have HTD : Hid (∀ W', Below W0.heap.size W0 W' → Calls Try.prog 79 #[.pointer v] W' fun e w' => e = .returned (.int .i64 (T.node d1 ⟨lo3, hi3, tag3⟩ d2).tall) ∧ W' = w') := fun W' h => tall_any _ _ _ (IsT.below h (IsT.below hb0 h2))
  have hbz : Bd ((T.node c ⟨lo2, hi2, tag2⟩ d1).L ++ ⟨lo3, hi3, tag3⟩ :: (d2.L ++ ⟨lo, hi, tag⟩ :: k.L)) := by
    simp only [T.L] at hb ⊢
    refine ⟨by have := hb.1; simp at this ⊢; omega, fun x hx => hb.2 x (by simp at hx ⊢; grind)⟩
  have HRT : Hid (∀ W', Below W0.heap.size W0 W' → Calls Try.prog 81 #[.pointer u, .agg #[.int .i64 lo2, .int .i64 hi2, .int .i64 tag2], .pointer v] W' fun e w' => ∃ g, e = .returned (.pointer (some ⟨g, 0, none⟩)) ∧ IsT w' (T.node (.node c ⟨lo2, hi2, tag2⟩ d1) ⟨lo3, hi3, tag3⟩ d2) (.pointer (some ⟨g, 0, none⟩)) ∧ Below W0.heap.size W0 w') := fun W' h =>
    (raiseRight_any c d1 d2 lo2 hi2 tag2 lo3 hi3 tag3 _ _ W' (IsT.below h (IsT.below hb0 h2)) (IsT.below h (IsT.below hb0 h1)) hbr).mono fun e w' ⟨g, he, ht, hB⟩ => ⟨g, he, ht, h.trans (hB.mono h.size)⟩
  have HRS : Hid (∀ W' g, Below W0.heap.size W0 W' → IsT W' (T.node (.node c ⟨lo2, hi2, tag2⟩ d1) ⟨lo3, hi3, tag3⟩ d2) (.pointer (some ⟨g, 0, none⟩)) → Calls Try.prog 82 #[.pointer (some ⟨g, 0, none⟩), .agg #[.int .i64 lo, .int .i64 hi, .int .i64 tag], .pointer y] W' fun e w' => ∃ g t, e = .returned (.pointer (some ⟨g, 0, none⟩)) ∧ IsT w' t (.pointer (some ⟨g, 0, none⟩)) ∧ Hid (t.L = (c.L ++ ⟨lo2, hi2, tag2⟩ :: (T.node d1 ⟨lo3, hi3, tag3⟩ d2).L) ++ ⟨lo, hi, tag⟩ :: k.L) ∧ Below W0.heap.size W0 w') := fun W' g h ht =>
    (raiseLeft_any (.node c ⟨lo2, hi2, tag2⟩ d1) d2 k lo hi tag lo3 hi3 tag3 _ _ W' ht (IsT.below h (IsT.below hb0 hk)) hbz).mono fun e w' ⟨g, he, ht, hB⟩ => ⟨g, _, he, ht, by show _ = _; simp [T.L], h.trans (hB.mono h.size)⟩
  have HALL := Lib.hid hall
  have HW0 := Lib.hid HW
  have HB0 := Lib.hid hb0
  clear HW hall hl hk h1 h2 hcs hb hb0 hbr hbz
  have he2 : ((((T.node c ⟨lo2, hi2, tag2⟩ (T.node d1 ⟨lo3, hi3, tag3⟩ d2))).tall : Int) - k.tall == 2) = true := by rw [hd]; rfl
  have hq1 : (T.node c ⟨lo2, hi2, tag2⟩ (T.node d1 ⟨lo3, hi3, tag3⟩ d2)).tall ≤ 100001 := by simp only [T.tall] at htc htd ⊢; omega
  clear hd
  generalize (T.node c ⟨lo2, hi2, tag2⟩ (T.node d1 ⟨lo3, hi3, tag3⟩ d2)).tall = th at *
  generalize (T.node d1 ⟨lo3, hi3, tag3⟩ d2).tall = tx at *
  generalize k.tall = tk at *
  generalize c.tall = tc at *
  have hcmp : (tc : Int) < tx := by omega
  go_enter Try.func80, Try.ntmps80
  go_wp2_with fail
  rw [← HW0.out]
  refine (HTL.out _ (Below.refl _ _)).mono ?_
  rintro e w1 ⟨rfl, rfl⟩
  go_wp2_with fail
  refine (HTK.out _ (Below.refl _ _)).mono ?_
  rintro e w1 ⟨rfl, rfl⟩
  have hs : Below W0.heap.size W0 W0 := Below.refl _ _
  have hs2 := hs.drew
  have hcl := HALL.out _ hs2
  have hc0 := HALL.out _ hs
  unfold Bs Cs at hcl hc0 HALL
  go_wp2_with fail
  go_region_held3 (fun W' : World => ((W'.cell? ⟨W.heap.size, 0, none⟩ = some (.int .i64 lo) ∧ W'.cell? ⟨W.heap.size, 1, none⟩ = some (.int .i64 hi) ∧ W'.cell? ⟨W.heap.size, 2, none⟩ = some (.int .i64 tag)) ∧ W'.cell? ⟨b, 0, none⟩ = some (.pointer u) ∧ W'.cell? ⟨b, 1, none⟩ = some (.int .i64 lo2) ∧ W'.cell? ⟨b, 2, none⟩ = some (.int .i64 hi2) ∧ W'.cell? ⟨b, 3, none⟩ = some (.int .i64 tag2) ∧ W'.cell? ⟨b, 4, none⟩ = some (.pointer v)) ∧ Below W0.heap.size W0 W') (first | (refine And.intro ?_ ?_ <;> assumption) | fail) (first
    | (go_at_call 79; with_reducible refine (HTC.out _ ?h).mono ?_; (case h => assumption); rintro e w' ⟨rfl, rfl⟩)
    | (go_at_call 79; with_reducible refine (HTD.out _ ?h).mono ?_; (case h => assumption); rintro e w' ⟨rfl, rfl⟩) | fail)
  all_goals
    clear hs hc0
    have hs3 := hs2.drew
    have hcl3 := HALL.out _ hs3
    go_wp2_with fail
    go_region_held3 (fun W' : World => ((W'.cell? ⟨W.heap.size, 0, none⟩ = some (.int .i64 lo) ∧ W'.cell? ⟨W.heap.size, 1, none⟩ = some (.int .i64 hi) ∧ W'.cell? ⟨W.heap.size, 2, none⟩ = some (.int .i64 tag)) ∧ W'.cell? ⟨b, 0, none⟩ = some (.pointer u) ∧ W'.cell? ⟨b, 1, none⟩ = some (.int .i64 lo2) ∧ W'.cell? ⟨b, 2, none⟩ = some (.int .i64 hi2) ∧ W'.cell? ⟨b, 3, none⟩ = some (.int .i64 tag2) ∧ W'.cell? ⟨b, 4, none⟩ = some (.pointer v)) ∧ Below W0.heap.size W0 W') (first | (refine And.intro ?_ ?_ <;> assumption) | fail) (first
      | (go_at_call 81; with_reducible refine (HRT.out _ ?h).mono ?_; (case h => assumption); rintro e w' ⟨g, rfl, hgt, hs'⟩; have hc' := HALL.out _ hs') | fail)
    all_goals
      go_wp2_with fail
      refine (HRS.out _ _ hs' hgt).mono ?_
      rintro e w2 ⟨g, t, rfl, hgt, HTE, hB⟩
      have HT := Lib.hid hgt
      have HB := Lib.hid (HB0.out.trans (hB.mono (Nat.le_of_lt hs0)))
      clear hgt hB
      go_wp2_with fail
      go_ret
      exact ⟨g, t, rfl, HT.out, HTE.out, HB.out⟩
set_option maxHeartbeats 1000000 in
theorem balance_RR (c d k : T) (lo hi tag lo2 hi2 tag2 : Int) (p y : Option Addr) (W : World) (hl : IsT W (.node c ⟨lo2, hi2, tag2⟩ d) (.pointer p)) (hk : IsT W k (.pointer y)) (hb : Bd ((k.L ++ ⟨lo, hi, tag⟩ :: c.L) ++ ⟨lo2, hi2, tag2⟩ :: d.L)) (hd : (k.tall : Int) - (T.node c ⟨lo2, hi2, tag2⟩ d).tall = -2) (ht : c.tall ≤ d.tall) :
    Calls Try.prog 80 #[.pointer y, .agg #[.int .i64 lo, .int .i64 hi, .int .i64 tag], .pointer p] W (TreeOf W (k.L ++ ⟨lo, hi, tag⟩ :: (c.L ++ ⟨lo2, hi2, tag2⟩ :: d.L))) := by
  have hsz := hb.1
  simp at hsz
  have htc := c.tall_le; have htd := d.tall_le; have htk := k.tall_le
  rw [T.sz_eq] at htc htd htk
  obtain ⟨b, u, v, rfl, hlt, h1, h2, hcs⟩ := hl.open
  obtain ⟨W0, HW, hb0, hs0, hall⟩ := box_later (Ty := 64) (lo := lo) (hi := hi) (tag := tag) hcs
  have HTL : Hid (∀ W', Below W0.heap.size W0 W' → Calls Try.prog 79 #[.pointer (some ⟨b, 0, none⟩)] W' fun e w' => e = .returned (.int .i64 (T.node c ⟨lo2, hi2, tag2⟩ d).tall) ∧ W' = w') := fun W' h => tall_any _ _ _ (IsT.below h (IsT.below hb0 hl))
  have HTK : Hid (∀ W', Below W0.heap.size W0 W' → Calls Try.prog 79 #[.pointer y] W' fun e w' => e = .returned (.int .i64 k.tall) ∧ W' = w') := fun W' h => tall_any _ _ _ (IsT.below h (IsT.below hb0 hk))
  have HTC : Hid (∀ W', Below W0.heap.size W0 W' → Calls Try.prog 79 #[.pointer u] W' fun e w' => e = .returned (.int .i64 c.tall) ∧ W' = w') := fun W' h => tall_any _ _ _ (IsT.below h (IsT.below hb0 h1))
  have HTD : Hid (∀ W', Below W0.heap.size W0 W' → Calls Try.prog 79 #[.pointer v] W' fun e w' => e = .returned (.int .i64 d.tall) ∧ W' = w') := fun W' h => tall_any _ _ _ (IsT.below h (IsT.below hb0 h2))
  have HRS : Hid (∀ W', Below W0.heap.size W0 W' → Calls Try.prog 81 #[.pointer y, .agg #[.int .i64 lo, .int .i64 hi, .int .i64 tag], .pointer (some ⟨b, 0, none⟩)] W' fun e w' => ∃ g t, e = .returned (.pointer (some ⟨g, 0, none⟩)) ∧ IsT w' t (.pointer (some ⟨g, 0, none⟩)) ∧ Hid (t.L = k.L ++ ⟨lo, hi, tag⟩ :: (c.L ++ ⟨lo2, hi2, tag2⟩ :: d.L)) ∧ Below W0.heap.size W0 w') := fun W' h =>
    (raiseRight_any k c d lo hi tag lo2 hi2 tag2 _ _ W' (IsT.below h (IsT.below hb0 hl)) (IsT.below h (IsT.below hb0 hk)) hb).mono fun e w' ⟨g, he, ht, hB⟩ => ⟨g, _, he, ht, by show _ = _; simp [T.L], h.trans (hB.mono h.size)⟩
  have HALL := Lib.hid hall
  have HW0 := Lib.hid HW
  have HB0 := Lib.hid hb0
  clear HW hall hl hk h1 h2 hcs hb hb0
  have he2 : ((k.tall : Int) - ((T.node c ⟨lo2, hi2, tag2⟩ d)).tall == 2) = false := by rw [hd]; rfl
  have he3 : ((k.tall : Int) - ((T.node c ⟨lo2, hi2, tag2⟩ d)).tall == -2) = true := by rw [hd]; rfl
  have hq1 : (T.node c ⟨lo2, hi2, tag2⟩ d).tall ≤ 100001 := by simp only [T.tall] at htc htd ⊢; omega
  clear hd
  generalize (T.node c ⟨lo2, hi2, tag2⟩ d).tall = th at *
  generalize k.tall = tk at *
  generalize c.tall = tc at *
  generalize d.tall = td at *
  have hcmp : ¬ (td : Int) < tc := by omega
  go_enter Try.func80, Try.ntmps80
  go_wp2_with fail
  rw [← HW0.out]
  refine (HTK.out _ (Below.refl _ _)).mono ?_
  rintro e w1 ⟨rfl, rfl⟩
  go_wp2_with fail
  refine (HTL.out _ (Below.refl _ _)).mono ?_
  rintro e w1 ⟨rfl, rfl⟩
  have hs : Below W0.heap.size W0 W0 := Below.refl _ _
  have hs2 := hs.drew
  have hcl := HALL.out _ hs2
  have hc0 := HALL.out _ hs
  unfold Bs Cs at hcl hc0 HALL
  go_wp2_with fail
  go_region_held3 (fun W' : World => ((W'.cell? ⟨W.heap.size, 0, none⟩ = some (.int .i64 lo) ∧ W'.cell? ⟨W.heap.size, 1, none⟩ = some (.int .i64 hi) ∧ W'.cell? ⟨W.heap.size, 2, none⟩ = some (.int .i64 tag)) ∧ W'.cell? ⟨b, 0, none⟩ = some (.pointer u) ∧ W'.cell? ⟨b, 1, none⟩ = some (.int .i64 lo2) ∧ W'.cell? ⟨b, 2, none⟩ = some (.int .i64 hi2) ∧ W'.cell? ⟨b, 3, none⟩ = some (.int .i64 tag2) ∧ W'.cell? ⟨b, 4, none⟩ = some (.pointer v)) ∧ Below W0.heap.size W0 W') (first | (refine And.intro ?_ ?_ <;> assumption) | fail) (first
    | (go_at_call 79; with_reducible refine (HTC.out _ ?h).mono ?_; (case h => assumption); rintro e w' ⟨rfl, rfl⟩)
    | (go_at_call 79; with_reducible refine (HTD.out _ ?h).mono ?_; (case h => assumption); rintro e w' ⟨rfl, rfl⟩) | fail)
  all_goals
    clear hs hc0
    go_wp2_with fail
    refine (HRS.out _ hs2).mono ?_
    rintro e w2 ⟨g, t, rfl, hgt, HTE, hB⟩
    have HT := Lib.hid hgt
    have HB := Lib.hid (HB0.out.trans (hB.mono (Nat.le_of_lt hs0)))
    clear hgt hB
    go_wp2_with fail
    go_ret
    exact ⟨g, t, rfl, HT.out, HTE.out, HB.out⟩
set_option maxHeartbeats 1000000 in
theorem balance_RL (c d k : T) (lo hi tag lo2 hi2 tag2 : Int) (p y : Option Addr) (W : World) (hl : IsT W (.node c ⟨lo2, hi2, tag2⟩ d) (.pointer p)) (hk : IsT W k (.pointer y)) (hb : Bd ((k.L ++ ⟨lo, hi, tag⟩ :: c.L) ++ ⟨lo2, hi2, tag2⟩ :: d.L)) (hd : (k.tall : Int) - (T.node c ⟨lo2, hi2, tag2⟩ d).tall = -2) (ht : d.tall < c.tall) :
    Calls Try.prog 80 #[.pointer y, .agg #[.int .i64 lo, .int .i64 hi, .int .i64 tag], .pointer p] W (TreeOf W (k.L ++ ⟨lo, hi, tag⟩ :: (c.L ++ ⟨lo2, hi2, tag2⟩ :: d.L))) := by
  have hsz := hb.1
  simp at hsz
  have htc := c.tall_le; have htd := d.tall_le; have htk := k.tall_le
  rw [T.sz_eq] at htc htd htk
  obtain ⟨d1, ⟨lo3, hi3, tag3⟩, d2, rfl⟩ := tall_pos (t := c) (by omega)
  have hbr : Bd (d1.L ++ ⟨lo3, hi3, tag3⟩ :: (d2.L ++ ⟨lo2, hi2, tag2⟩ :: d.L)) := by
    simp only [T.L] at hb
    refine ⟨by have := hb.1; simp at this ⊢; omega, fun x hx => hb.2 x (by simp at hx ⊢; grind)⟩
  obtain ⟨b, u, v, rfl, hlt, h1, h2, hcs⟩ := hl.open
  obtain ⟨W0, HW, hb0, hs0, hall⟩ := box_later (Ty := 64) (lo := lo) (hi := hi) (tag := tag) hcs
  have HTL : Hid (∀ W', Below W0.heap.size W0 W' → Calls Try.prog 79 #[.pointer (some ⟨b, 0, none⟩)] W' fun e w' => e = .returned (.int .i64 (T.node (T.node d1 ⟨lo3, hi3, tag3⟩ d2) ⟨lo2, hi2, tag2⟩ d).tall) ∧ W' = w') := fun W' h => tall_any _ _ _ (IsT.below h (IsT.below hb0 hl))
  have HTK : Hid (∀ W', Below W0.heap.size W0 W' → Calls Try.prog 79 #[.pointer y] W' fun e w' => e = .returned (.int .i64 k.tall) ∧ W' = w') := fun W' h => tall_any _ _ _ (IsT.below h (IsT.below hb0 hk))
  have HTC : Hid (∀ W', Below W0.heap.size W0 W' → Calls Try.prog 79 #[.pointer u] W' fun e w' => e = .returned (.int .i64 (T.node d1 ⟨lo3, hi3, tag3⟩ d2).tall) ∧ W' = w') := fun W' h => tall_any _ _ _ (IsT.below h (IsT.below hb0 h1))
  have HTD : Hid (∀ W', Below W0.heap.size W0 W' → Calls Try.prog 79 #[.pointer v] W' fun e w' => e = .returned (.int .i64 d.tall) ∧ W' = w') := fun W' h => tall_any _ _ _ (IsT.below h (IsT.below hb0 h2))
  have hbz : Bd ((k.L ++ ⟨lo, hi, tag⟩ :: d1.L) ++ ⟨lo3, hi3, tag3⟩ :: (T.node d2 ⟨lo2, hi2, tag2⟩ d).L) := by
    simp only [T.L] at hb ⊢
    refine ⟨by have := hb.1; simp at this ⊢; omega, fun x hx => hb.2 x (by simp at hx ⊢; grind)⟩
  have HRT : Hid (∀ W', Below W0.heap.size W0 W' → Calls Try.prog 82 #[.pointer u, .agg #[.int .i64 lo2, .int .i64 hi2, .int .i64 tag2], .pointer v] W' fun e w' => ∃ g, e = .returned (.pointer (some ⟨g, 0, none⟩)) ∧ IsT w' (T.node d1 ⟨lo3, hi3, tag3⟩ (.node d2 ⟨lo2, hi2, tag2⟩ d)) (.pointer (some ⟨g, 0, none⟩)) ∧ Below W0.heap.size W0 w') := fun W' h =>
    (raiseLeft_any d1 d2 d lo2 hi2 tag2 lo3 hi3 tag3 _ _ W' (IsT.below h (IsT.below hb0 h1)) (IsT.below h (IsT.below hb0 h2)) hbr).mono fun e w' ⟨g, he, ht, hB⟩ => ⟨g, he, ht, h.trans (hB.mono h.size)⟩
  have HRS : Hid (∀ W' g, Below W0.heap.size W0 W' → IsT W' (T.node d1 ⟨lo3, hi3, tag3⟩ (.node d2 ⟨lo2, hi2, tag2⟩ d)) (.pointer (some ⟨g, 0, none⟩)) → Calls Try.prog 81 #[.pointer y, .agg #[.int .i64 lo, .int .i64 hi, .int .i64 tag], .pointer (some ⟨g, 0, none⟩)] W' fun e w' => ∃ g t, e = .returned (.pointer (some ⟨g, 0, none⟩)) ∧ IsT w' t (.pointer (some ⟨g, 0, none⟩)) ∧ Hid (t.L = k.L ++ ⟨lo, hi, tag⟩ :: ((T.node d1 ⟨lo3, hi3, tag3⟩ d2).L ++ ⟨lo2, hi2, tag2⟩ :: d.L)) ∧ Below W0.heap.size W0 w') := fun W' g h ht =>
    (raiseRight_any k d1 (.node d2 ⟨lo2, hi2, tag2⟩ d) lo hi tag lo3 hi3 tag3 _ _ W' ht (IsT.below h (IsT.below hb0 hk)) hbz).mono fun e w' ⟨g, he, ht, hB⟩ => ⟨g, _, he, ht, by show _ = _; simp [T.L], h.trans (hB.mono h.size)⟩
  have HALL := Lib.hid hall
  have HW0 := Lib.hid HW
  have HB0 := Lib.hid hb0
  clear HW hall hl hk h1 h2 hcs hb hb0 hbr hbz
  have he2 : ((k.tall : Int) - ((T.node (T.node d1 ⟨lo3, hi3, tag3⟩ d2) ⟨lo2, hi2, tag2⟩ d)).tall == 2) = false := by rw [hd]; rfl
  have he3 : ((k.tall : Int) - ((T.node (T.node d1 ⟨lo3, hi3, tag3⟩ d2) ⟨lo2, hi2, tag2⟩ d)).tall == -2) = true := by rw [hd]; rfl
  have hq1 : (T.node (T.node d1 ⟨lo3, hi3, tag3⟩ d2) ⟨lo2, hi2, tag2⟩ d).tall ≤ 100001 := by simp only [T.tall] at htc htd ⊢; omega
  clear hd
  generalize (T.node (T.node d1 ⟨lo3, hi3, tag3⟩ d2) ⟨lo2, hi2, tag2⟩ d).tall = th at *
  generalize (T.node d1 ⟨lo3, hi3, tag3⟩ d2).tall = tx at *
  generalize k.tall = tk at *
  generalize d.tall = td at *
  have hcmp : (td : Int) < tx := by omega
  go_enter Try.func80, Try.ntmps80
  go_wp2_with fail
  rw [← HW0.out]
  refine (HTK.out _ (Below.refl _ _)).mono ?_
  rintro e w1 ⟨rfl, rfl⟩
  go_wp2_with fail
  refine (HTL.out _ (Below.refl _ _)).mono ?_
  rintro e w1 ⟨rfl, rfl⟩
  have hs : Below W0.heap.size W0 W0 := Below.refl _ _
  have hs2 := hs.drew
  have hcl := HALL.out _ hs2
  have hc0 := HALL.out _ hs
  unfold Bs Cs at hcl hc0 HALL
  go_wp2_with fail
  go_region_held3 (fun W' : World => ((W'.cell? ⟨W.heap.size, 0, none⟩ = some (.int .i64 lo) ∧ W'.cell? ⟨W.heap.size, 1, none⟩ = some (.int .i64 hi) ∧ W'.cell? ⟨W.heap.size, 2, none⟩ = some (.int .i64 tag)) ∧ W'.cell? ⟨b, 0, none⟩ = some (.pointer u) ∧ W'.cell? ⟨b, 1, none⟩ = some (.int .i64 lo2) ∧ W'.cell? ⟨b, 2, none⟩ = some (.int .i64 hi2) ∧ W'.cell? ⟨b, 3, none⟩ = some (.int .i64 tag2) ∧ W'.cell? ⟨b, 4, none⟩ = some (.pointer v)) ∧ Below W0.heap.size W0 W') (first | (refine And.intro ?_ ?_ <;> assumption) | fail) (first
    | (go_at_call 79; with_reducible refine (HTC.out _ ?h).mono ?_; (case h => assumption); rintro e w' ⟨rfl, rfl⟩)
    | (go_at_call 79; with_reducible refine (HTD.out _ ?h).mono ?_; (case h => assumption); rintro e w' ⟨rfl, rfl⟩) | fail)
  all_goals
    clear hs hc0
    have hs3 := hs2.drew
    have hcl3 := HALL.out _ hs3
    go_wp2_with fail
    go_region_held3 (fun W' : World => ((W'.cell? ⟨W.heap.size, 0, none⟩ = some (.int .i64 lo) ∧ W'.cell? ⟨W.heap.size, 1, none⟩ = some (.int .i64 hi) ∧ W'.cell? ⟨W.heap.size, 2, none⟩ = some (.int .i64 tag)) ∧ W'.cell? ⟨b, 0, none⟩ = some (.pointer u) ∧ W'.cell? ⟨b, 1, none⟩ = some (.int .i64 lo2) ∧ W'.cell? ⟨b, 2, none⟩ = some (.int .i64 hi2) ∧ W'.cell? ⟨b, 3, none⟩ = some (.int .i64 tag2) ∧ W'.cell? ⟨b, 4, none⟩ = some (.pointer v)) ∧ Below W0.heap.size W0 W') (first | (refine And.intro ?_ ?_ <;> assumption) | fail) (first
      | (go_at_call 82; with_reducible refine (HRT.out _ ?h).mono ?_; (case h => assumption); rintro e w' ⟨g, rfl, hgt, hs'⟩; have hc' := HALL.out _ hs') | fail)
    all_goals
      go_wp2_with fail
      refine (HRS.out _ _ hs' hgt).mono ?_
      rintro e w2 ⟨g, t, rfl, hgt, HTE, hB⟩
      have HT := Lib.hid hgt
      have HB := Lib.hid (HB0.out.trans (hB.mono (Nat.le_of_lt hs0)))
      clear hgt hB
      go_wp2_with fail
      go_ret
      exact ⟨g, t, rfl, HT.out, HTE.out, HB.out⟩
end Go.Proofs.Ytahgfggcpmnnaaa
