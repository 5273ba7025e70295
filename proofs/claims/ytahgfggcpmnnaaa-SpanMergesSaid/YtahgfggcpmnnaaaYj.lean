/- The contract of join. -/
import Derived.Test.YtahgfggcpmnnaaaYi
namespace Go.Proofs.Ytahgfggcpmnnaaa
open Go Go.RowKit Gs
/-- a tree with these runs -/
def HasT (W : World) (L : List R) (v : Value) : Prop := ∃ t, IsT W t v ∧ t.L = L

set_option maxHeartbeats 1000000 in
theorem join_L (c d k : T) (lo hi tag lo2 hi2 tag2 : Int) (p y : Option Addr) (W : World) (hl : IsT W (.node c ⟨lo2, hi2, tag2⟩ d) (.pointer p)) (hk : IsT W k (.pointer y)) (hb : Bd ((c.L ++ ⟨lo2, hi2, tag2⟩ :: d.L) ++ ⟨lo, hi, tag⟩ :: k.L)) (hd : k.tall + 1 < (T.node c ⟨lo2, hi2, tag2⟩ d).tall)
    (ih : ∀ (z y : Option Addr) (w : World), IsT w d (.pointer z) → IsT w k (.pointer y) → Calls Try.prog 78 #[.pointer z, .agg #[.int .i64 lo, .int .i64 hi, .int .i64 tag], .pointer y] w (TreeOf w (d.L ++ ⟨lo, hi, tag⟩ :: k.L))) :
    Calls Try.prog 78 #[.pointer p, .agg #[.int .i64 lo, .int .i64 hi, .int .i64 tag], .pointer y] W (TreeOf W ((c.L ++ ⟨lo2, hi2, tag2⟩ :: d.L) ++ ⟨lo, hi, tag⟩ :: k.L)) := by
  have hsz := hb.1
  simp at hsz
  have htc := c.tall_le; have htd := d.tall_le; have htk := k.tall_le
  rw [T.sz_eq] at htc htd htk
  obtain ⟨b, u, v, rfl, hlt, h1, h2, hcs⟩ := hl.open
  obtain ⟨W0, HW, hb0, hs0, hall⟩ := box_later (Ty := 64) (lo := lo) (hi := hi) (tag := tag) hcs
  have HTL : Hid (∀ W', Below W0.heap.size W0 W' → Calls Try.prog 79 #[.pointer (some ⟨b, 0, none⟩)] W' fun e w' => e = .returned (.int .i64 (T.node c ⟨lo2, hi2, tag2⟩ d).tall) ∧ W' = w') := fun W' h => tall_any _ _ _ (IsT.below h (IsT.below hb0 hl))
  have HTK : Hid (∀ W', Below W0.heap.size W0 W' → Calls Try.prog 79 #[.pointer y] W' fun e w' => e = .returned (.int .i64 k.tall) ∧ W' = w') := fun W' h => tall_any _ _ _ (IsT.below h (IsT.below hb0 hk))
  have HIN : Hid (∀ W', Below W0.heap.size W0 W' → Calls Try.prog 78 #[.pointer v, .agg #[.int .i64 lo, .int .i64 hi, .int .i64 tag], .pointer y] W' fun e w' => ∃ g, e = .returned (.pointer (some ⟨g, 0, none⟩)) ∧ Hid (HasT w' (d.L ++ ⟨lo, hi, tag⟩ :: k.L) (.pointer (some ⟨g, 0, none⟩))) ∧ Below W0.heap.size W0 w') := fun W' h =>
    (ih _ _ W' (IsT.below h (IsT.below hb0 h2)) (IsT.below h (IsT.below hb0 hk))).mono fun e w' ⟨g, t, he, ht, hL, hB⟩ => ⟨g, he, ⟨t, ht, hL⟩, h.trans (hB.mono h.size)⟩
  have HOUT : Hid (∀ W' g, Below W0.heap.size W0 W' → Hid (HasT W' (d.L ++ ⟨lo, hi, tag⟩ :: k.L) (.pointer (some ⟨g, 0, none⟩))) → Calls Try.prog 80 #[.pointer u, .agg #[.int .i64 lo2, .int .i64 hi2, .int .i64 tag2], .pointer (some ⟨g, 0, none⟩)] W' fun e w' => ∃ g, e = .returned (.pointer (some ⟨g, 0, none⟩)) ∧ Hid (HasT w' ((c.L ++ ⟨lo2, hi2, tag2⟩ :: d.L) ++ ⟨lo, hi, tag⟩ :: k.L) (.pointer (some ⟨g, 0, none⟩))) ∧ Below W0.heap.size W0 w') := fun W' g h ⟨t, ht, hL⟩ =>
    (balance_any c t lo2 hi2 tag2 _ _ W' (IsT.below h (IsT.below hb0 h1)) ht (by rw [hL]; simpa using hb)).mono fun e w' ⟨g, t, he, ht, hL2, hB⟩ => ⟨g, he, ⟨t, ht, by rw [hL2, hL]; simp⟩, h.trans (hB.mono h.size)⟩
  have HALL := Lib.hid hall
  have HW0 := Lib.hid HW
  have HB0 := Lib.hid hb0
  clear HW hall hl hk h1 h2 hcs hb hb0 ih
  have hq1 : (T.node c ⟨lo2, hi2, tag2⟩ d).tall ≤ 100001 := by simp only [T.tall] at htc htd ⊢; omega
  have hq2 : k.tall ≤ 100001 := by omega
  have hq3 : (k.tall : Int) + 1 < ((T.node c ⟨lo2, hi2, tag2⟩ d).tall : Int) := by omega
  have hq4 : ¬ ((T.node c ⟨lo2, hi2, tag2⟩ d).tall : Int) + 1 < (k.tall : Int) := by omega
  clear hd htc htd htk
  generalize (T.node c ⟨lo2, hi2, tag2⟩ d).tall = th at *
  generalize k.tall = tk at *
  go_enter Try.func78, Try.ntmps78
  go_wp2_with fail
  rw [← HW0.out]
  refine (HTL.out _ (Below.refl _ _)).mono ?_
  rintro e w1 ⟨rfl, rfl⟩
  go_wp2_with fail
  refine (HTK.out _ (Below.refl _ _)).mono ?_
  rintro e w1 ⟨rfl, rfl⟩
  have hs : Below W0.heap.size W0 W0 := Below.refl _ _
  have hs2 := hs.drew
  have hcl := HALL.out _ hs2
  have hc0 := HALL.out _ hs
  unfold Bs Cs at hcl hc0 HALL
  go_wp2_with fail
  go_region_held3 (fun W' : World => ((W'.cell? ⟨W.heap.size, 0, none⟩ = some (.int .i64 lo) ∧ W'.cell? ⟨W.heap.size, 1, none⟩ = some (.int .i64 hi) ∧ W'.cell? ⟨W.heap.size, 2, none⟩ = some (.int .i64 tag)) ∧ W'.cell? ⟨b, 0, none⟩ = some (.pointer u) ∧ W'.cell? ⟨b, 1, none⟩ = some (.int .i64 lo2) ∧ W'.cell? ⟨b, 2, none⟩ = some (.int .i64 hi2) ∧ W'.cell? ⟨b, 3, none⟩ = some (.int .i64 tag2) ∧ W'.cell? ⟨b, 4, none⟩ = some (.pointer v)) ∧ Below W0.heap.size W0 W') (first | (refine And.intro ?_ ?_ <;> assumption) | fail) (first
    | (go_at_call 78; with_reducible refine (HIN.out _ ?h).mono ?_; (case h => assumption); rintro e w' ⟨g, rfl, hgt, hs'⟩; have hc' := HALL.out _ hs')
    | (go_at_call 80; with_reducible refine (HOUT.out _ _ ?h ?r).mono ?_; (case h => assumption); (case r => assumption); rintro e w' ⟨g, rfl, hgt, hs'⟩; have hc' := HALL.out _ hs') | fail)
  all_goals
    have HT := hgt
    have HB := Lib.hid (HB0.out.trans (hs'.mono (Nat.le_of_lt hs0)))
    clear hs hs2 hcl hc0 hgt hs' hc'
    go_wp2_with fail
    go_ret
    obtain ⟨t, ht, hl⟩ := HT.out
    exact ⟨g, t, rfl, ht, hl, HB.out⟩
set_option maxHeartbeats 1000000 in
theorem join_R (c d k : T) (lo hi tag lo2 hi2 tag2 : Int) (p y : Option Addr) (W : World) (hl : IsT W (.node c ⟨lo2, hi2, tag2⟩ d) (.pointer p)) (hk : IsT W k (.pointer y)) (hb : Bd (k.L ++ ⟨lo, hi, tag⟩ :: (c.L ++ ⟨lo2, hi2, tag2⟩ :: d.L))) (hd : k.tall + 1 < (T.node c ⟨lo2, hi2, tag2⟩ d).tall)
    (ih : ∀ (z y : Option Addr) (w : World), IsT w c (.pointer z) → IsT w k (.pointer y) → Calls Try.prog 78 #[.pointer y, .agg #[.int .i64 lo, .int .i64 hi, .int .i64 tag], .pointer z] w (TreeOf w (k.L ++ ⟨lo, hi, tag⟩ :: c.L))) :
    Calls Try.prog 78 #[.pointer y, .agg #[.int .i64 lo, .int .i64 hi, .int .i64 tag], .pointer p] W (TreeOf W (k.L ++ ⟨lo, hi, tag⟩ :: (c.L ++ ⟨lo2, hi2, tag2⟩ :: d.L))) := by
  have hsz := hb.1
  simp at hsz
  have htc := c.tall_le; have htd := d.tall_le; have htk := k.tall_le
  rw [T.sz_eq] at htc htd htk
  obtain ⟨b, u, v, rfl, hlt, h1, h2, hcs⟩ := hl.open
  obtain ⟨W0, HW, hb0, hs0, hall⟩ := box_later (Ty := 64) (lo := lo) (hi := hi) (tag := tag) hcs
  have HTL : Hid (∀ W', Below W0.heap.size W0 W' → Calls Try.prog 79 #[.pointer (some ⟨b, 0, none⟩)] W' fun e w' => e = .returned (.int .i64 (T.node c ⟨lo2, hi2, tag2⟩ d).tall) ∧ W' = w') := fun W' h => tall_any _ _ _ (IsT.below h (IsT.below hb0 hl))
  have HTK : Hid (∀ W', Below W0.heap.size W0 W' → Calls Try.prog 79 #[.pointer y] W' fun e w' => e = .returned (.int .i64 k.tall) ∧ W' = w') := fun W' h => tall_any _ _ _ (IsT.below h (IsT.below hb0 hk))
  have HIN : Hid (∀ W', Below W0.heap.size W0 W' → Calls Try.prog 78 #[.pointer y, .agg #[.int .i64 lo, .int .i64 hi, .int .i64 tag], .pointer u] W' fun e w' => ∃ g, e = .returned (.pointer (some ⟨g, 0, none⟩)) ∧ Hid (HasT w' (k.L ++ ⟨lo, hi, tag⟩ :: c.L) (.pointer (some ⟨g, 0, none⟩))) ∧ Below W0.heap.size W0 w') := fun W' h =>
    (ih _ _ W' (IsT.below h (IsT.below hb0 h1)) (IsT.below h (IsT.below hb0 hk))).mono fun e w' ⟨g, t, he, ht, hL, hB⟩ => ⟨g, he, ⟨t, ht, hL⟩, h.trans (hB.mono h.size)⟩
  have HOUT : Hid (∀ W' g, Below W0.heap.size W0 W' → Hid (HasT W' (k.L ++ ⟨lo, hi, tag⟩ :: c.L) (.pointer (some ⟨g, 0, none⟩))) → Calls Try.prog 80 #[.pointer (some ⟨g, 0, none⟩), .agg #[.int .i64 lo2, .int .i64 hi2, .int .i64 tag2], .pointer v] W' fun e w' => ∃ g, e = .returned (.pointer (some ⟨g, 0, none⟩)) ∧ Hid (HasT w' (k.L ++ ⟨lo, hi, tag⟩ :: (c.L ++ ⟨lo2, hi2, tag2⟩ :: d.L)) (.pointer (some ⟨g, 0, none⟩))) ∧ Below W0.heap.size W0 w') := fun W' g h ⟨t, ht, hL⟩ =>
    (balance_any t d lo2 hi2 tag2 _ _ W' ht (IsT.below h (IsT.below hb0 h2)) (by rw [hL]; simpa using hb)).mono fun e w' ⟨g, t, he, ht, hL2, hB⟩ => ⟨g, he, ⟨t, ht, by rw [hL2, hL]; simp⟩, h.trans (hB.mono h.size)⟩
  have HALL := Lib.hid hall
  have HW0 := Lib.hid HW
  have HB0 := Lib.hid hb0
  clear HW hall hl hk h1 h2 hcs hb hb0 ih
  have hq1 : (T.node c ⟨lo2, hi2, tag2⟩ d).tall ≤ 100001 := by simp only [T.tall] at htc htd ⊢; omega
  have hq2 : k.tall ≤ 100001 := by omega
  have hq3 : (k.tall : Int) + 1 < ((T.node c ⟨lo2, hi2, tag2⟩ d).tall : Int) := by omega
  have hq4 : ¬ ((T.node c ⟨lo2, hi2, tag2⟩ d).tall : Int) + 1 < (k.tall : Int) := by omega
  clear hd htc htd htk
  generalize (T.node c ⟨lo2, hi2, tag2⟩ d).tall = th at *
  generalize k.tall = tk at *
  go_enter Try.func78, Try.ntmps78
  go_wp2_with fail
  rw [← HW0.out]
  refine (HTK.out _ (Below.refl _ _)).mono ?_
  rintro e w1 ⟨rfl, rfl⟩
  go_wp2_with fail
  refine (HTL.out _ (Below.refl _ _)).mono ?_
  rintro e w1 ⟨rfl, rfl⟩
  go_wp2_with fail
  refine (HTL.out _ (Below.refl _ _)).mono ?_
  rintro e w1 ⟨rfl, rfl⟩
  go_wp2_with fail
  refine (HTK.out _ (Below.refl _ _)).mono ?_
  rintro e w1 ⟨rfl, rfl⟩
  have hs : Below W0.heap.size W0 W0 := Below.refl _ _
  have hs2 := hs.drew
  have hcl := HALL.out _ hs2
  have hc0 := HALL.out _ hs
  unfold Bs Cs at hcl hc0 HALL
  go_wp2_with fail
  go_region_held3 (fun W' : World => ((W'.cell? ⟨W.heap.size, 0, none⟩ = some (.int .i64 lo) ∧ W'.cell? ⟨W.heap.size, 1, none⟩ = some (.int .i64 hi) ∧ W'.cell? ⟨W.heap.size, 2, none⟩ = some (.int .i64 tag)) ∧ W'.cell? ⟨b, 0, none⟩ = some (.pointer u) ∧ W'.cell? ⟨b, 1, none⟩ = some (.int .i64 lo2) ∧ W'.cell? ⟨b, 2, none⟩ = some (.int .i64 hi2) ∧ W'.cell? ⟨b, 3, none⟩ = some (.int .i64 tag2) ∧ W'.cell? ⟨b, 4, none⟩ = some (.pointer v)) ∧ Below W0.heap.size W0 W') (first | (refine And.intro ?_ ?_ <;> assumption) | fail) (first
    | (go_at_call 78; with_reducible refine (HIN.out _ ?h).mono ?_; (case h => assumption); rintro e w' ⟨g, rfl, hgt, hs'⟩; have hc' := HALL.out _ hs')
    | (go_at_call 80; with_reducible refine (HOUT.out _ _ ?h ?r).mono ?_; (case h => assumption); (case r => assumption); rintro e w' ⟨g, rfl, hgt, hs'⟩; have hc' := HALL.out _ hs') | fail)
  all_goals
    have HT := hgt
    have HB := Lib.hid (HB0.out.trans (hs'.mono (Nat.le_of_lt hs0)))
    clear hs hs2 hcl hc0 hgt hs' hc'
    go_wp2_with fail
    go_ret
    obtain ⟨t, ht, hl⟩ := HT.out
    exact ⟨g, t, rfl, ht, hl, HB.out⟩
set_option maxHeartbeats 1000000 in
theorem join_O (l k : T) (lo hi tag : Int) (p y : Option Addr) (W : World) (hl : IsT W l (.pointer p)) (hk : IsT W k (.pointer y)) (hb : Bd (l.L ++ ⟨lo, hi, tag⟩ :: k.L)) (h1 : ¬ k.tall + 1 < l.tall) (h2 : ¬ l.tall + 1 < k.tall) :
    Calls Try.prog 78 #[.pointer p, .agg #[.int .i64 lo, .int .i64 hi, .int .i64 tag], .pointer y] W (TreeOf W (l.L ++ ⟨lo, hi, tag⟩ :: k.L)) := by
  have hsz := hb.1
  simp at hsz
  have htl := l.tall_le; have htk := k.tall_le
  rw [T.sz_eq] at htl htk
  have hP : ∀ W', Below W.heap.size W W' → True := fun _ _ => trivial
  obtain ⟨W0, HW, hb0, hs0, hall⟩ := box_later (Ty := 64) (lo := lo) (hi := hi) (tag := tag) hP
  have HTL : Hid (∀ W', Below W0.heap.size W0 W' → Calls Try.prog 79 #[.pointer p] W' fun e w' => e = .returned (.int .i64 l.tall) ∧ W' = w') := fun W' h => tall_any _ _ _ (IsT.below h (IsT.below hb0 hl))
  have HTK : Hid (∀ W', Below W0.heap.size W0 W' → Calls Try.prog 79 #[.pointer y] W' fun e w' => e = .returned (.int .i64 k.tall) ∧ W' = w') := fun W' h => tall_any _ _ _ (IsT.below h (IsT.below hb0 hk))
  have HNN : Hid (∀ W', Below W0.heap.size W0 W' → Calls Try.prog 74 #[.pointer p, .agg #[.int .i64 lo, .int .i64 hi, .int .i64 tag], .pointer y] W' fun e w' => ∃ g t, e = .returned (.pointer (some ⟨g, 0, none⟩)) ∧ IsT w' t (.pointer (some ⟨g, 0, none⟩)) ∧ Hid (t.L = l.L ++ ⟨lo, hi, tag⟩ :: k.L) ∧ Below W0.heap.size W0 w') := fun W' h =>
    (newNode_any l k lo hi tag _ _ W' (IsT.below h (IsT.below hb0 hl)) (IsT.below h (IsT.below hb0 hk)) hb).mono fun e w' ⟨g, he, ht, hB⟩ => ⟨g, _, he, ht, by show _ = _; simp [T.L], h.trans (hB.mono h.size)⟩
  have HALL := Lib.hid hall
  have HW0 := Lib.hid HW
  have HB0 := Lib.hid hb0
  clear HW hall hl hk hb hb0
  have hq1 : l.tall ≤ 100001 := by omega
  have hq2 : k.tall ≤ 100001 := by omega
  have hq3 : ¬ (k.tall : Int) + 1 < (l.tall : Int) := by omega
  have hq4 : ¬ (l.tall : Int) + 1 < (k.tall : Int) := by omega
  clear h1 h2 htl htk
  generalize l.tall = tl at *
  generalize k.tall = tk at *
  go_enter Try.func78, Try.ntmps78
  go_wp2_with fail
  rw [← HW0.out]
  refine (HTL.out _ (Below.refl _ _)).mono ?_
  rintro e w1 ⟨rfl, rfl⟩
  go_wp2_with fail
  refine (HTK.out _ (Below.refl _ _)).mono ?_
  rintro e w1 ⟨rfl, rfl⟩
  go_wp2_with fail
  refine (HTK.out _ (Below.refl _ _)).mono ?_
  rintro e w1 ⟨rfl, rfl⟩
  go_wp2_with fail
  refine (HTL.out _ (Below.refl _ _)).mono ?_
  rintro e w1 ⟨rfl, rfl⟩
  have hs : Below W0.heap.size W0 W0 := Below.refl _ _
  have hc0 := HALL.out _ hs
  unfold Bs at hc0 HALL
  go_wp2_with fail
  refine (HNN.out _ hs).mono ?_
  rintro e w2 ⟨g, t, rfl, hgt, HTE, hB⟩
  have HT := Lib.hid hgt
  have HB := Lib.hid (HB0.out.trans (hB.mono (Nat.le_of_lt hs0)))
  clear hgt hB
  go_wp2_with fail
  go_ret
  exact ⟨g, t, rfl, HT.out, HTE.out, HB.out⟩
theorem join_ind : ∀ n (l k : T) (lo hi tag : Int) (p y : Option Addr) (W : World), l.sz + k.sz = n → IsT W l (.pointer p) → IsT W k (.pointer y) → Bd (l.L ++ ⟨lo, hi, tag⟩ :: k.L) →
    Calls Try.prog 78 #[.pointer p, .agg #[.int .i64 lo, .int .i64 hi, .int .i64 tag], .pointer y] W (TreeOf W (l.L ++ ⟨lo, hi, tag⟩ :: k.L)) := by
  intro n
  induction n using Nat.strongRecOn with
  | _ n ih =>
    intro l k lo hi tag p y W hn hl hk hb
    by_cases h1 : k.tall + 1 < l.tall
    · obtain ⟨c, ⟨lo2, hi2, tag2⟩, d, rfl⟩ := tall_pos (t := l) (by omega)
      refine join_L c d k lo hi tag lo2 hi2 tag2 p y W hl hk hb h1 fun z y w hz hy => ih (d.sz + k.sz) (by simp only [T.sz] at hn; omega) d k lo hi tag z y w rfl hz hy ?_
      simp only [T.L, List.append_assoc, List.cons_append] at hb
      exact hb.right.tail
    · by_cases h2 : l.tall + 1 < k.tall
      · obtain ⟨c, ⟨lo2, hi2, tag2⟩, d, rfl⟩ := tall_pos (t := k) (by omega)
        refine join_R c d l lo hi tag lo2 hi2 tag2 y p W hk hl hb h2 fun z y w hz hy => ih (l.sz + c.sz) (by simp only [T.sz] at hn; omega) l c lo hi tag y z w rfl hy hz ?_
        have : l.L ++ ⟨lo, hi, tag⟩ :: (T.node c ⟨lo2, hi2, tag2⟩ d).L = (l.L ++ ⟨lo, hi, tag⟩ :: c.L) ++ ⟨lo2, hi2, tag2⟩ :: d.L := by simp [T.L]
        rw [this] at hb
        exact hb.left
      · exact join_O l k lo hi tag p y W hl hk hb h1 h2
theorem join_any (l k : T) (lo hi tag : Int) (p y : Option Addr) (W : World) (hl : IsT W l (.pointer p)) (hk : IsT W k (.pointer y)) (hb : Bd (l.L ++ ⟨lo, hi, tag⟩ :: k.L)) :
    Calls Try.prog 78 #[.pointer p, .agg #[.int .i64 lo, .int .i64 hi, .int .i64 tag], .pointer y] W (TreeOf W (l.L ++ ⟨lo, hi, tag⟩ :: k.L)) := join_ind _ l k lo hi tag p y W rfl hl hk hb
end Go.Proofs.Ytahgfggcpmnnaaa

