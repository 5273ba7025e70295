/- Contracts and lemmas (several texts merged into one). -/
import Derived.Test.YtjbenhmpeceaeaaBJxp1
import Derived.Deep.LoopGhost
import Derived.WalkSmall
import Derived.BigQuiet
import Derived.Deep.QuietTactic
import Derived.Deep.RegionWith
namespace Go.Proofs.Ytjbenhmpeceaeaa
open Go Go.RowKit Gs
/-- a tree with these runs -/
def HasT (W : World) (L : List R) (v : Value) : Prop := ∃ t, IsT W t v ∧ t.L = L

set_option maxHeartbeats 1000000 in
theorem join_L (c d k : T) (lo hi tag lo2 hi2 tag2 : Int) (p y : Option Addr) (W : World) (hl : IsT W (.node c ⟨lo2, hi2, tag2⟩ d) (.pointer p)) (hk : IsT W k (.pointer y)) (hb : Bd ((c.L ++ ⟨lo2, hi2, tag2⟩ :: d.L) ++ ⟨lo, hi, tag⟩ :: k.L)) (hd : k.tall + 1 < (T.node c ⟨lo2, hi2, tag2⟩ d).tall)
    (ih : ∀ (z y : Option Addr) (w : World), IsT w d (.pointer z) → IsT w k (.pointer y) → Calls Try.prog 78 #[.pointer z, .agg #[.int .i64 lo, .int .i64 hi, .int .i64 tag], .pointer y] w (TreeOf w (d.L ++ ⟨lo, hi, tag⟩ :: k.L))) :
    Calls Try.prog 78 #[.pointer p, .agg #[.int .i64 lo, .int .i64 hi, .int .i64 tag], .pointer y] W (TreeOf W ((c.L ++ ⟨lo2, hi2, tag2⟩ :: d.L) ++ ⟨lo, hi, tag⟩ :: k.L)) := by
  have hsz := hb.1
  simp at hsz
  have htc := c.tall_le; have htd := d.tall_le; have htk := k.tall_le
  rw [T.sz_eq] at htc htd htk
  obtain ⟨b, u, v, rfl, hlt, h1, h2, hcs⟩ := hl.open
  obtain ⟨W0, HW, hb0, hs0, hall⟩ := box_later (Ty := 64) (lo := lo) (hi := hi) (tag := tag) hcs
  have HTL : Hid (∀ W', Below W0.heap.size W0 W' → Calls Try.prog 79 #[.pointer (some ⟨b, 0, none⟩)] W' fun e w' => e = .returned (.int .i64 (T.node c ⟨lo2, hi2, tag2⟩ d).tall) ∧ W' = w') := fun W' h => tall_any _ _ _ (IsT.below h (IsT.below hb0 hl))
  have HTK : Hid (∀ W', Below W0.heap.size W0 W' → Calls Try.prog 79 #[.pointer y] W' fun e w' => e = .returned (.int .i64 k.tall) ∧ W' = w') := fun W' h => tall_any _ _ _ (IsT.below h (IsT.below hb0 hk))
  have HIN : Hid (∀ W', Below W0.heap.size W0 W' → Calls Try.prog 78 #[.pointer v, .agg #[.int .i64 lo, .int .i64 hi, .int .i64 tag], .pointer y] W' fun e w' => ∃ g, e = .returned (.pointer (some ⟨g, 0, none⟩)) ∧ Hid (HasT w' (d.L ++ ⟨lo, hi, tag⟩ :: k.L) (.pointer (some ⟨g, 0, none⟩))) ∧ Below W0.heap.size W0 w') := fun W' h =>
    (ih _ _ W' (IsT.below h (IsT.below hb0 h2)) (IsT.below h (IsT.below hb0 hk))).mono fun e w' ⟨g, t, he, ht, hL, hB⟩ => ⟨g, he, ⟨t, ht, hL⟩, h.trans (hB.mono h.size)⟩
  have HOUT : Hid (∀ W' g, Below W0.heap.size W0 W' → Hid (HasT W' (d.L ++ ⟨lo, hi, tag⟩ :: k.L) (.pointer (some ⟨g, 0, none⟩))) → Calls Try.prog 80 #[.pointer u, .agg #[.int .i64 lo2, .int .i64 hi2, .int .i64 tag2], .pointer (some ⟨g, 0, none⟩)] W' fun e w' => ∃ g, e = .returned (.pointer (some ⟨g, 0, none⟩)) ∧ Hid (HasT w' ((c.L ++ ⟨lo2, hi2, tag2⟩ :: d.L) ++ ⟨lo, hi, tag⟩ :: k.L) (.pointer (some ⟨g, 0, none⟩))) ∧ Below W0.heap.size W0 w') := fun W' g h ⟨t, ht, hL⟩ =>
    (balance_any c t lo2 hi2 tag2 _ _ W' (IsT.below h (IsT.below hb0 h1)) ht (by rw [hL]; simpa using hb)).mono fun e w' ⟨g, t, he, ht, hL2, hB⟩ => ⟨g, he, ⟨t, ht, by rw [hL2, hL]; simp⟩, h.trans (hB.mono h.size)⟩
  have HALL := Lib.hid hall
  have HW0 := Lib.hid HW
  have HB0 := Lib.hid hb0
  clear HW hall hl hk h1 h2 hcs hb hb0 ih
  have hq1 : (T.node c ⟨lo2, hi2, tag2⟩ d).tall ≤ 100001 := by simp only [T.tall] at htc htd ⊢; omega
  have hq2 : k.tall ≤ 100001 := by omega
  have hq3 : (k.tall : Int) + 1 < ((T.node c ⟨lo2, hi2, tag2⟩ d).tall : Int) := by omega
  have hq4 : ¬ ((T.node c ⟨lo2, hi2, tag2⟩ d).tall : Int) + 1 < (k.tall : Int) := by omega
  clear hd htc htd htk
  generalize (T.node c ⟨lo2, hi2, tag2⟩ d).tall = th at *
  generalize k.tall = tk at *
  go_enter Try.func78, Try.ntmps78
  go_wp2_with fail
  rw [← HW0.out]
  refine (HTL.out _ (Below.refl _ _)).mono ?_
  rintro e w1 ⟨rfl, rfl⟩
  go_wp2_with fail
  refine (HTK.out _ (Below.refl _ _)).mono ?_
  rintro e w1 ⟨rfl, rfl⟩
  have hs : Below W0.heap.size W0 W0 := Below.refl _ _
  have hs2 := hs.drew
  have hcl := HALL.out _ hs2
  have hc0 := HALL.out _ hs
  unfold Bs Cs at hcl hc0 HALL
  go_wp2_with fail
  go_region_held3 (fun W' : World => ((W'.cell? ⟨W.heap.size, 0, none⟩ = some (.int .i64 lo) ∧ W'.cell? ⟨W.heap.size, 1, none⟩ = some (.int .i64 hi) ∧ W'.cell? ⟨W.heap.size, 2, none⟩ = some (.int .i64 tag)) ∧ W'.cell? ⟨b, 0, none⟩ = some (.pointer u) ∧ W'.cell? ⟨b, 1, none⟩ = some (.int .i64 lo2) ∧ W'.cell? ⟨b, 2, none⟩ = some (.int .i64 hi2) ∧ W'.cell? ⟨b, 3, none⟩ = some (.int .i64 tag2) ∧ W'.cell? ⟨b, 4, none⟩ = some (.pointer v)) ∧ Below W0.heap.size W0 W') (first | (refine And.intro ?_ ?_ <;> assumption) | fail) (first
    | (go_at_call 78; with_reducible refine (HIN.out _ ?h).mono ?_; (case h => assumption); rintro e w' ⟨g, rfl, hgt, hs'⟩; have hc' := HALL.out _ hs')
    | (go_at_call 80; with_reducible refine (HOUT.out _ _ ?h ?r).mono ?_; (case h => assumption); (case r => assumption); rintro e w' ⟨g, rfl, hgt, hs'⟩; have hc' := HALL.out _ hs') | fail)
  all_goals
    have HT := hgt
    have HB := Lib.hid (HB0.out.trans (hs'.mono (Nat.le_of_lt hs0)))
    clear hs hs2 hcl hc0 hgt hs' hc'
    go_wp2_with fail
    go_ret
    obtain ⟨t, ht, hl⟩ := HT.out
    exact ⟨g, t, rfl, ht, hl, HB.out⟩
set_option maxHeartbeats 1000000 in
theorem join_R (c d k : T) (lo hi tag lo2 hi2 tag2 : Int) (p y : Option Addr) (W : World) (hl : IsT W (.node c ⟨lo2, hi2, tag2⟩ d) (.pointer p)) (hk : IsT W k (.pointer y)) (hb : Bd (k.L ++ ⟨lo, hi, tag⟩ :: (c.L ++ ⟨lo2, hi2, tag2⟩ :: d.L))) (hd : k.tall + 1 < (T.node c ⟨lo2, hi2, tag2⟩ d).tall)
    (ih : ∀ (z y : Option Addr) (w : World), IsT w c (.pointer z) → IsT w k (.pointer y) → Calls Try.prog 78 #[.pointer y, .agg #[.int .i64 lo, .int .i64 hi, .int .i64 tag], .pointer z] w (TreeOf w (k.L ++ ⟨lo, hi, tag⟩ :: c.L))) :
    Calls Try.prog 78 #[.pointer y, .agg #[.int .i64 lo, .int .i64 hi, .int .i64 tag], .pointer p] W (TreeOf W (k.L ++ ⟨lo, hi, tag⟩ :: (c.L ++ ⟨lo2, hi2, tag2⟩ :: d.L))) := by
  have hsz := hb.1
  simp at hsz
  have htc := c.tall_le; have htd := d.tall_le; have htk := k.tall_le
  rw [T.sz_eq] at htc htd htk
  obtain ⟨b, u, v, rfl, hlt, h1, h2, hcs⟩ := hl.open
  obtain ⟨W0, HW, hb0, hs0, hall⟩ := box_later (Ty := 64) (lo := lo) (hi := hi) (tag := tag) hcs
  have HTL : Hid (∀ W', Below W0.heap.size W0 W' → Calls Try.prog 79 #[.pointer (some ⟨b, 0, none⟩)] W' fun e w' => e = .returned (.int .i64 (T.node c ⟨lo2, hi2, tag2⟩ d).tall) ∧ W' = w') := fun W' h => tall_any _ _ _ (IsT.below h (IsT.below hb0 hl))
  have HTK : Hid (∀ W', Below W0.heap.size W0 W' → Calls Try.prog 79 #[.pointer y] W' fun e w' => e = .returned (.int .i64 k.tall) ∧ W' = w') := fun W' h => tall_any _ _ _ (IsT.below h (IsT.below hb0 hk))
  have HIN : Hid (∀ W', Below W0.heap.size W0 W' → Calls Try.prog 78 #[.pointer y, .agg #[.int .i64 lo, .int .i64 hi, .int .i64 tag], .pointer u] W' fun e w' => ∃ g, e = .returned (.pointer (some ⟨g, 0, none⟩)) ∧ Hid (HasT w' (k.L ++ ⟨lo, hi, tag⟩ :: c.L) (.pointer (some ⟨g, 0, none⟩))) ∧ Below W0.heap.size W0 w') := fun W' h =>
    (ih _ _ W' (IsT.below h (IsT.below hb0 h1)) (IsT.below h (IsT.below hb0 hk))).mono fun e w' ⟨g, t, he, ht, hL, hB⟩ => ⟨g, he, ⟨t, ht, hL⟩, h.trans (hB.mono h.size)⟩
  have HOUT : Hid (∀ W' g, Below W0.heap.size W0 W' → Hid (HasT W' (k.L ++ ⟨lo, hi, tag⟩ :: c.L) (.pointer (some ⟨g, 0, none⟩))) → Calls Try.prog 80 #[.pointer (some ⟨g, 0, none⟩), .agg #[.int .i64 lo2, .int .i64 hi2, .int .i64 tag2], .pointer v] W' fun e w' => ∃ g, e = .returned (.pointer (some ⟨g, 0, none⟩)) ∧ Hid (HasT w' (k.L ++ ⟨lo, hi, tag⟩ :: (c.L ++ ⟨lo2, hi2, tag2⟩ :: d.L)) (.pointer (some ⟨g, 0, none⟩))) ∧ Below W0.heap.size W0 w') := fun W' g h ⟨t, ht, hL⟩ =>
    (balance_any t d lo2 hi2 tag2 _ _ W' ht (IsT.below h (IsT.below hb0 h2)) (by rw [hL]; simpa using hb)).mono fun e w' ⟨g, t, he, ht, hL2, hB⟩ => ⟨g, he, ⟨t, ht, by rw [hL2, hL]; simp⟩, h.trans (hB.mono h.size)⟩
  have HALL := Lib.hid hall
  have HW0 := Lib.hid HW
  have HB0 := Lib.hid hb0
  clear HW hall hl hk h1 h2 hcs hb hb0 ih
  have hq1 : (T.node c ⟨lo2, hi2, tag2⟩ d).tall ≤ 100001 := by simp only [T.tall] at htc htd ⊢; omega
  have hq2 : k.tall ≤ 100001 := by omega
  have hq3 : (k.tall : Int) + 1 < ((T.node c ⟨lo2, hi2, tag2⟩ d).tall : Int) := by omega
  have hq4 : ¬ ((T.node c ⟨lo2, hi2, tag2⟩ d).tall : Int) + 1 < (k.tall : Int) := by omega
  clear hd htc htd htk
  generalize (T.node c ⟨lo2, hi2, tag2⟩ d).tall = th at *
  generalize k.tall = tk at *
  go_enter Try.func78, Try.ntmps78
  go_wp2_with fail
  rw [← HW0.out]
  refine (HTK.out _ (Below.refl _ _)).mono ?_
  rintro e w1 ⟨rfl, rfl⟩
  go_wp2_with fail
  refine (HTL.out _ (Below.refl _ _)).mono ?_
  rintro e w1 ⟨rfl, rfl⟩
  go_wp2_with fail
  refine (HTL.out _ (Below.refl _ _)).mono ?_
  rintro e w1 ⟨rfl, rfl⟩
  go_wp2_with fail
  refine (HTK.out _ (Below.refl _ _)).mono ?_
  rintro e w1 ⟨rfl, rfl⟩
  have hs : Below W0.heap.size W0 W0 := Below.refl _ _
  have hs2 := hs.drew
  have hcl := HALL.out _ hs2
  have hc0 := HALL.out _ hs
  unfold Bs Cs at hcl hc0 HALL
  go_wp2_with fail
  go_region_held3 (fun W' : World => ((W'.cell? ⟨W.heap.size, 0, none⟩ = some (.int .i64 lo) ∧ W'.cell? ⟨W.heap.size, 1, none⟩ = some (.int .i64 hi) ∧ W'.cell? ⟨W.heap.size, 2, none⟩ = some (.int .i64 tag)) ∧ W'.cell? ⟨b, 0, none⟩ = some (.pointer u) ∧ W'.cell? ⟨b, 1, none⟩ = some (.int .i64 lo2) ∧ W'.cell? ⟨b, 2, none⟩ = some (.int .i64 hi2) ∧ W'.cell? ⟨b, 3, none⟩ = some (.int .i64 tag2) ∧ W'.cell? ⟨b, 4, none⟩ = some (.pointer v)) ∧ Below W0.heap.size W0 W') (first | (refine And.intro ?_ ?_ <;> assumption) | fail) (first
    | (go_at_call 78; with_reducible refine (HIN.out _ ?h).mono ?_; (case h => assumption); rintro e w' ⟨g, rfl, hgt, hs'⟩; have hc' := HALL.out _ hs')
    | (go_at_call 80; with_reducible refine (HOUT.out _ _ ?h ?r).mono ?_; (case h => assumption); (case r => assumption); rintro e w' ⟨g, rfl, hgt, hs'⟩; have hc' := HALL.out _ hs') | fail)
  all_goals
    have HT := hgt
    have HB := Lib.hid (HB0.out.trans (hs'.mono (Nat.le_of_lt hs0)))
    clear hs hs2 hcl hc0 hgt hs' hc'
    go_wp2_with fail
    go_ret
    obtain ⟨t, ht, hl⟩ := HT.out
    exact ⟨g, t, rfl, ht, hl, HB.out⟩
set_option maxHeartbeats 1000000 in
theorem join_O (l k : T) (lo hi tag : Int) (p y : Option Addr) (W : World) (hl : IsT W l (.pointer p)) (hk : IsT W k (.pointer y)) (hb : Bd (l.L ++ ⟨lo, hi, tag⟩ :: k.L)) (h1 : ¬ k.tall + 1 < l.tall) (h2 : ¬ l.tall + 1 < k.tall) :
    Calls Try.prog 78 #[.pointer p, .agg #[.int .i64 lo, .int .i64 hi, .int .i64 tag], .pointer y] W (TreeOf W (l.L ++ ⟨lo, hi, tag⟩ :: k.L)) := by
  have hsz := hb.1
  simp at hsz
  have htl := l.tall_le; have htk := k.tall_le
  rw [T.sz_eq] at htl htk
  have hP : ∀ W', Below W.heap.size W W' → True := fun _ _ => trivial
  obtain ⟨W0, HW, hb0, hs0, hall⟩ := box_later (Ty := 64) (lo := lo) (hi := hi) (tag := tag) hP
  have HTL : Hid (∀ W', Below W0.heap.size W0 W' → Calls Try.prog 79 #[.pointer p] W' fun e w' => e = .returned (.int .i64 l.tall) ∧ W' = w') := fun W' h => tall_any _ _ _ (IsT.below h (IsT.below hb0 hl))
  have HTK : Hid (∀ W', Below W0.heap.size W0 W' → Calls Try.prog 79 #[.pointer y] W' fun e w' => e = .returned (.int .i64 k.tall) ∧ W' = w') := fun W' h => tall_any _ _ _ (IsT.below h (IsT.below hb0 hk))
  have HNN : Hid (∀ W', Below W0.heap.size W0 W' → Calls Try.prog 74 #[.pointer p, .agg #[.int .i64 lo, .int .i64 hi, .int .i64 tag], .pointer y] W' fun e w' => ∃ g t, e = .returned (.pointer (some ⟨g, 0, none⟩)) ∧ IsT w' t (.pointer (some ⟨g, 0, none⟩)) ∧ Hid (t.L = l.L ++ ⟨lo, hi, tag⟩ :: k.L) ∧ Below W0.heap.size W0 w') := fun W' h =>
    (newNode_any l k lo hi tag _ _ W' (IsT.below h (IsT.below hb0 hl)) (IsT.below h (IsT.below hb0 hk)) hb).mono fun e w' ⟨g, he, ht, hB⟩ => ⟨g, _, he, ht, by show _ = _; simp [T.L], h.trans (hB.mono h.size)⟩
  have HALL := Lib.hid hall
  have HW0 := Lib.hid HW
  have HB0 := Lib.hid hb0
  clear HW hall hl hk hb hb0
  have hq1 : l.tall ≤ 100001 := by omega
  have hq2 : k.tall ≤ 100001 := by omega
  have hq3 : ¬ (k.tall : Int) + 1 < (l.tall : Int) := by omega
  have hq4 : ¬ (l.tall : Int) + 1 < (k.tall : Int) := by omega
  clear h1 h2 htl htk
  generalize l.tall = tl at *
  generalize k.tall = tk at *
  go_enter Try.func78, Try.ntmps78
  go_wp2_with fail
  rw [← HW0.out]
  refine (HTL.out _ (Below.refl _ _)).mono ?_
  rintro e w1 ⟨rfl, rfl⟩
  go_wp2_with fail
  refine (HTK.out _ (Below.refl _ _)).mono ?_
  rintro e w1 ⟨rfl, rfl⟩
  go_wp2_with fail
  refine (HTK.out _ (Below.refl _ _)).mono ?_
  rintro e w1 ⟨rfl, rfl⟩
  go_wp2_with fail
  refine (HTL.out _ (Below.refl _ _)).mono ?_
  rintro e w1 ⟨rfl, rfl⟩
  have hs : Below W0.heap.size W0 W0 := Below.refl _ _
  have hc0 := HALL.out _ hs
  unfold Bs at hc0 HALL
  go_wp2_with fail
  refine (HNN.out _ hs).mono ?_
  rintro e w2 ⟨g, t, rfl, hgt, HTE, hB⟩
  have HT := Lib.hid hgt
  have HB := Lib.hid (HB0.out.trans (hB.mono (Nat.le_of_lt hs0)))
  clear hgt hB
  go_wp2_with fail
  go_ret
  exact ⟨g, t, rfl, HT.out, HTE.out, HB.out⟩
theorem join_ind : ∀ n (l k : T) (lo hi tag : Int) (p y : Option Addr) (W : World), l.sz + k.sz = n → IsT W l (.pointer p) → IsT W k (.pointer y) → Bd (l.L ++ ⟨lo, hi, tag⟩ :: k.L) →
    Calls Try.prog 78 #[.pointer p, .agg #[.int .i64 lo, .int .i64 hi, .int .i64 tag], .pointer y] W (TreeOf W (l.L ++ ⟨lo, hi, tag⟩ :: k.L)) := by
  intro n
  induction n using Nat.strongRecOn with
  | _ n ih =>
    intro l k lo hi tag p y W hn hl hk hb
    by_cases h1 : k.tall + 1 < l.tall
    · obtain ⟨c, ⟨lo2, hi2, tag2⟩, d, rfl⟩ := tall_pos (t := l) (by omega)
      refine join_L c d k lo hi tag lo2 hi2 tag2 p y W hl hk hb h1 fun z y w hz hy => ih (d.sz + k.sz) (by simp only [T.sz] at hn; omega) d k lo hi tag z y w rfl hz hy ?_
      simp only [T.L, List.append_assoc, List.cons_append] at hb
      exact hb.right.tail
    · by_cases h2 : l.tall + 1 < k.tall
      · obtain ⟨c, ⟨lo2, hi2, tag2⟩, d, rfl⟩ := tall_pos (t := k) (by omega)
        refine join_R c d l lo hi tag lo2 hi2 tag2 y p W hk hl hb h2 fun z y w hz hy => ih (l.sz + c.sz) (by simp only [T.sz] at hn; omega) l c lo hi tag y z w rfl hy hz ?_
        have : l.L ++ ⟨lo, hi, tag⟩ :: (T.node c ⟨lo2, hi2, tag2⟩ d).L = (l.L ++ ⟨lo, hi, tag⟩ :: c.L) ++ ⟨lo2, hi2, tag2⟩ :: d.L := by simp [T.L]
        rw [this] at hb
        exact hb.left
      · exact join_O l k lo hi tag p y W hl hk hb h1 h2
theorem join_any (l k : T) (lo hi tag : Int) (p y : Option Addr) (W : World) (hl : IsT W l (.pointer p)) (hk : IsT W k (.pointer y)) (hb : Bd (l.L ++ ⟨lo, hi, tag⟩ :: k.L)) :
    Calls Try.prog 78 #[.pointer p, .agg #[.int .i64 lo, .int .i64 hi, .int .i64 tag], .pointer y] W (TreeOf W (l.L ++ ⟨lo, hi, tag⟩ :: k.L)) := join_ind _ l k lo hi tag p y W rfl hl hk hb
end Go.Proofs.Ytjbenhmpeceaeaa
namespace Go.Proofs.Ytjbenhmpeceaeaa
open Go Go.RowKit Gs

theorem isT_nil {W : World} {u : Option Addr} (h : IsT W .nil (.pointer u)) : u = none := by
  have h1 : Value.pointer u = .pointer none := h
  injection h1
/-- the box of a result that is a run -/
theorem zbox (W : World) (Ty : TypeId) : ∃ W0, W0 = W.alloc (.cells #[.int .i64 0, .int .i64 0, .int .i64 0] Ty) ∧ Below W.heap.size W W0 ∧
    (W0.cell? ⟨W.heap.size, 0, none⟩ = some (.int .i64 0) ∧ W0.cell? ⟨W.heap.size, 1, none⟩ = some (.int .i64 0) ∧ W0.cell? ⟨W.heap.size, 2, none⟩ = some (.int .i64 0) ∧ W0.frozen? ⟨W.heap.size, 0, none⟩ = false ∧ W0.frozen? ⟨W.heap.size, 1, none⟩ = false ∧ W0.frozen? ⟨W.heap.size, 2, none⟩ = false) ∧
    ∀ x y z, (((W0.setCell ⟨W.heap.size, 0, none⟩ x).setCell ⟨W.heap.size, 1, none⟩ y).setCell ⟨W.heap.size, 2, none⟩ z).cell? ⟨W.heap.size, 0, none⟩ = some x ∧ (((W0.setCell ⟨W.heap.size, 0, none⟩ x).setCell ⟨W.heap.size, 1, none⟩ y).setCell ⟨W.heap.size, 2, none⟩ z).cell? ⟨W.heap.size, 1, none⟩ = some y ∧ (((W0.setCell ⟨W.heap.size, 0, none⟩ x).setCell ⟨W.heap.size, 1, none⟩ y).setCell ⟨W.heap.size, 2, none⟩ z).cell? ⟨W.heap.size, 2, none⟩ = some z ∧ Below W.heap.size W (((W0.setCell ⟨W.heap.size, 0, none⟩ x).setCell ⟨W.heap.size, 1, none⟩ y).setCell ⟨W.heap.size, 2, none⟩ z) := by
  have hb : Below W.heap.size W (W.alloc (.cells #[.int .i64 0, .int .i64 0, .int .i64 0] Ty)) := (Below.refl _ _).alloc (Nat.le_refl _) _
  have c0 : (W.alloc (.cells #[.int .i64 0, .int .i64 0, .int .i64 0] Ty)).cell? ⟨W.heap.size, 0, none⟩ = some (.int .i64 0) := World.cell?_alloc_at _ _ _ _ rfl
  have c1 : (W.alloc (.cells #[.int .i64 0, .int .i64 0, .int .i64 0] Ty)).cell? ⟨W.heap.size, 1, none⟩ = some (.int .i64 0) := World.cell?_alloc_at _ _ _ _ rfl
  have c2 : (W.alloc (.cells #[.int .i64 0, .int .i64 0, .int .i64 0] Ty)).cell? ⟨W.heap.size, 2, none⟩ = some (.int .i64 0) := World.cell?_alloc_at _ _ _ _ rfl
  refine ⟨_, rfl, hb, ⟨c0, c1, c2, World.frozen?_alloc_at _ _ _ _ rfl, World.frozen?_alloc_at _ _ _ _ rfl, World.frozen?_alloc_at _ _ _ _ rfl⟩, fun x y z => ⟨?_, ?_, ?_, ((hb.setCell (Nat.le_refl _) _).setCell (Nat.le_refl _) _).setCell (Nat.le_refl _) _⟩⟩
  · exact (World.cell?_setCell_other _ _ _ _ (by intro e; cases e)).trans ((World.cell?_setCell_other _ _ _ _ (by intro e; cases e)).trans (World.cell?_setCell_same _ _ _ c0))
  · exact (World.cell?_setCell_other _ _ _ _ (by intro e; cases e)).trans (World.cell?_setCell_same _ _ _ ((World.cell?_setCell_other _ _ _ _ (by intro e; cases e)).trans c1))
  · exact World.cell?_setCell_same _ _ _ ((World.cell?_setCell_other _ _ _ _ (by intro e; cases e)).trans ((World.cell?_setCell_other _ _ _ _ (by intro e; cases e)).trans c2))
theorem last_app (l : List R) {k : List R} (h : k ≠ []) : (l ++ k).getLast? = k.getLast? := by
  rw [List.getLast?_append]
  cases hk : k.getLast? with
  | none => exact absurd (List.getLast?_eq_none_iff.1 hk) h
  | some _ => rfl
theorem T.L_ne (l k : T) (r : R) : (T.node l r k).L ≠ [] := by simp [T.L]
theorem first_any (l k : T) (r : R) (p : Option Addr) (W : World) (h : IsT W (.node l r k) (.pointer p)) : Calls Try.prog 77 #[.pointer p] W fun e w' => ∃ lo hi tag, e = .returned (.agg #[.int .i64 lo, .int .i64 hi, .int .i64 tag]) ∧ Hid ((T.node l r k).L.head? = some ⟨lo, hi, tag⟩) ∧ Below W.heap.size W w' := by
  have HT := Lib.hid h
  clear h
  go_enter Try.func77, Try.ntmps77
  go_wp2_with fail
  obtain ⟨W0, HW, hb0, hg, hput⟩ := zbox W 64
  rw [← HW]
  have HT0 := Lib.hid (IsT.below hb0 HT.out)
  obtain ⟨g0, g1, g2, g3, g4, g5⟩ := hg
  have HPUT := Lib.hid hput
  have HW' := Lib.hid HW
  have HB0 := Lib.hid hb0
  clear HW hput hb0 HT
  go_loopg [0] (T.node l r k).sz (fun n x wr => ∃ (c d : T) (lo hi tag : Int) (q : Option Addr), x = .pointer q ∧ Hid (IsT wr (.node c ⟨lo, hi, tag⟩ d) (.pointer q)) ∧ Hid ((T.node c ⟨lo, hi, tag⟩ d).L.head? = (T.node l r k).L.head?) ∧ Hid (n = (T.node c ⟨lo, hi, tag⟩ d).sz) ∧ W0 = wr)
  case atStart => exact ⟨l, k, r.lo, r.hi, r.tag, p, rfl, HT0, rfl, rfl, rfl⟩
  case round =>
    obtain ⟨c, d, lo, hi, tag, q, rfl, HS, HE, HN, rfl⟩ := hrel
    obtain ⟨b, u, v, rfl, hlt, h1, h2, hcs⟩ := HS.out.open
    obtain ⟨d0, d1, d2, d3, d4⟩ := hcs _ (Below.refl _ _)
    clear hcs hlt HT0
    cases c with
    | nil =>
      obtain rfl := isT_nil h1
      have HR : Hid ((T.node l r k).L.head? = some ⟨lo, hi, tag⟩) := by
        show _ = _
        rw [← HE.out]; simp [T.L]
      clear HS HE HN h1 h2
      obtain ⟨t0, t1, t2, hp⟩ := HPUT.out (.int .i64 lo) (.int .i64 hi) (.int .i64 tag)
      have HP := Lib.hid hp
      clear hp
      go_wp2_with fail
      refine bodyPost_ret (v := .agg #[.int .i64 lo, .int .i64 hi, .int .i64 tag]) (by simp [results, Try.results77, go_sem, t0, t1, t2]) rfl ?_
      exact ⟨lo, hi, tag, rfl, HR, HP.out⟩
    | node c1 r1 c2 =>
      have HT1 := Lib.hid h1
      obtain ⟨b1, x1, y1, e1, _⟩ := h1
      injection e1 with e1
      subst e1
      have HE1 : Hid ((T.node c1 ⟨r1.lo, r1.hi, r1.tag⟩ c2).L.head? = (T.node l r k).L.head?) := by
        show _ = _
        rw [← HE.out]; simp [T.L]
      clear HE h2
      go_wp2_with fail
      go_roundg (T.node c1 r1 c2).sz
      case measure => have := HN.out; simp only [T.sz] at this ⊢; omega
      case rel => exact ⟨c1, c2, r1.lo, r1.hi, r1.tag, _, rfl, HT1, HE1, rfl, rfl⟩
theorem last_any (l k : T) (r : R) (p : Option Addr) (W : World) (h : IsT W (.node l r k) (.pointer p)) : Calls Try.prog 76 #[.pointer p] W fun e w' => ∃ lo hi tag, e = .returned (.agg #[.int .i64 lo, .int .i64 hi, .int .i64 tag]) ∧ Hid ((T.node l r k).L.getLast? = some ⟨lo, hi, tag⟩) ∧ Below W.heap.size W w' := by
  have HT := Lib.hid h
  clear h
  go_enter Try.func76, Try.ntmps76
  go_wp2_with fail
  obtain ⟨W0, HW, hb0, hg, hput⟩ := zbox W 64
  rw [← HW]
  have HT0 := Lib.hid (IsT.below hb0 HT.out)
  obtain ⟨g0, g1, g2, g3, g4, g5⟩ := hg
  have HPUT := Lib.hid hput
  have HW' := Lib.hid HW
  have HB0 := Lib.hid hb0
  clear HW hput hb0 HT
  go_loopg [0] (T.node l r k).sz (fun n x wr => ∃ (c d : T) (lo hi tag : Int) (q : Option Addr), x = .pointer q ∧ Hid (IsT wr (.node c ⟨lo, hi, tag⟩ d) (.pointer q)) ∧ Hid ((T.node c ⟨lo, hi, tag⟩ d).L.getLast? = (T.node l r k).L.getLast?) ∧ Hid (n = (T.node c ⟨lo, hi, tag⟩ d).sz) ∧ W0 = wr)
  case atStart => exact ⟨l, k, r.lo, r.hi, r.tag, p, rfl, HT0, rfl, rfl, rfl⟩
  case round =>
    obtain ⟨c, d, lo, hi, tag, q, rfl, HS, HE, HN, rfl⟩ := hrel
    obtain ⟨b, u, v, rfl, hlt, h1, h2, hcs⟩ := HS.out.open
    obtain ⟨d0, d1, d2, d3, d4⟩ := hcs _ (Below.refl _ _)
    clear hcs hlt HT0
    cases d with
    | nil =>
      obtain rfl := isT_nil h2
      have HR : Hid ((T.node l r k).L.getLast? = some ⟨lo, hi, tag⟩) := by
        show _ = _
        rw [← HE.out]; simp [T.L]
      clear HS HE HN h1 h2
      obtain ⟨t0, t1, t2, hp⟩ := HPUT.out (.int .i64 lo) (.int .i64 hi) (.int .i64 tag)
      have HP := Lib.hid hp
      clear hp
      go_wp2_with fail
      refine bodyPost_ret (v := .agg #[.int .i64 lo, .int .i64 hi, .int .i64 tag]) (by simp [results, Try.results76, go_sem, t0, t1, t2]) rfl ?_
      exact ⟨lo, hi, tag, rfl, HR, HP.out⟩
    | node c1 r1 c2 =>
      have HT1 := Lib.hid h2
      obtain ⟨b1, x1, y1, e1, _⟩ := h2
      injection e1 with e1
      subst e1
      have HE1 : Hid ((T.node c1 ⟨r1.lo, r1.hi, r1.tag⟩ c2).L.getLast? = (T.node l r k).L.getLast?) := by
        show _ = _
        rw [← HE.out]
        exact ((last_app c.L (by simp)).trans (last_app [⟨lo, hi, tag⟩] (T.L_ne c1 c2 r1))).symm
      clear HE h1
      go_wp2_with fail
      go_roundg (T.node c1 r1 c2).sz
      case measure => have := HN.out; simp only [T.sz] at this ⊢; omega
      case rel => exact ⟨c1, c2, r1.lo, r1.hi, r1.tag, _, rfl, HT1, HE1, rfl, rfl⟩
/-- the run that holds the piece -/
theorem at_any (f : Int → Int) (a b : Int) (t : T) (p : Option Addr) (W : World) (piece : Int) (h : IsT W t (.pointer p)) (hc : Gs.Can f a t.L b) (h1 : a ≤ piece) (h2 : piece < b) : Calls Try.prog 45 #[.pointer p, .int .i64 piece] W fun e w' => ∃ l lo hi tag k, e = .returned (.agg #[.int .i64 lo, .int .i64 hi, .int .i64 tag]) ∧ Hid (t.L = l ++ ⟨lo, hi, tag⟩ :: k ∧ lo ≤ piece ∧ piece < hi) ∧ Below W.heap.size W w' := by
  have HT := Lib.hid h
  have HC : Hid (∃ l k, t.L = l ++ t.L ++ k ∧ ∃ a' b', Gs.Can f a' t.L b' ∧ a' ≤ piece ∧ piece < b') := ⟨[], [], by simp, a, b, hc, h1, h2⟩
  clear h hc h1 h2
  go_enter Try.func45, Try.ntmps45
  go_wp2_with fail
  obtain ⟨W0, HW, hb0, hg, hput⟩ := zbox W 64
  rw [← HW]
  have HT0 := Lib.hid (IsT.below hb0 HT.out)
  obtain ⟨g0, g1, g2, g3, g4, g5⟩ := hg
  have HPUT := Lib.hid hput
  have HW' := Lib.hid HW
  clear HW hput hb0 HT
  go_loopg [0] t.sz (fun n x wr => ∃ (s : T) (q : Option Addr), x = .pointer q ∧ Hid (IsT wr s (.pointer q)) ∧ Hid (∃ l k, t.L = l ++ s.L ++ k ∧ ∃ a' b', Gs.Can f a' s.L b' ∧ a' ≤ piece ∧ piece < b') ∧ Hid (n = s.sz) ∧ W0 = wr)
  case atStart => exact ⟨t, p, rfl, HT0, HC, rfl, rfl⟩
  case round =>
    obtain ⟨s, q, rfl, HS, HE, HN, rfl⟩ := hrel
    cases s with
    | nil =>
      exfalso
      obtain ⟨l, k, -, a', b', ⟨hc, -⟩, h1, h2⟩ := HE.out
      simp only [T.L, Fits] at hc
      omega
    | node c r d =>
      obtain ⟨lo, hi, tag⟩ := r
      obtain ⟨b', u, v, rfl, hlt, h1, h2, hcs⟩ := HS.out.open
      obtain ⟨d0, d1, d2, d3, d4⟩ := hcs _ (Below.refl _ _)
      have HU := Lib.hid h1
      have HV := Lib.hid h2
      clear hcs hlt HT0 HC HS h1 h2
      by_cases g1 : piece < lo
      · have HE1 : Hid (∃ l k, t.L = l ++ c.L ++ k ∧ ∃ a' b', Gs.Can f a' c.L b' ∧ a' ≤ piece ∧ piece < b') := by
          obtain ⟨l, k, e, a', b', hc, i1, i2⟩ := HE.out
          have hm := hc.mid
          exact ⟨l, ⟨lo, hi, tag⟩ :: (d.L ++ k), by rw [e]; simp [T.L], a', lo, hm.1, i1, g1⟩
        clear HE
        go_wp2_with fail
        go_roundg c.sz
        case measure => have := HN.out; simp only [T.sz] at this ⊢; omega
        case rel => exact ⟨c, u, rfl, HU, HE1, rfl, rfl⟩
      · by_cases g2 : hi ≤ piece
        · have HE1 : Hid (∃ l k, t.L = l ++ d.L ++ k ∧ ∃ a' b', Gs.Can f a' d.L b' ∧ a' ≤ piece ∧ piece < b') := by
            obtain ⟨l, k, e, a', b', hc, i1, i2⟩ := HE.out
            have hm := hc.mid
            exact ⟨l ++ c.L ++ [⟨lo, hi, tag⟩], k, by rw [e]; simp [T.L], hi, b', hm.2.1, g2, i2⟩
          clear HE
          have g3 : ¬ piece < lo := g1
          have g4 : piece ≥ hi := g2
          go_wp2_with fail
          go_roundg d.sz
          case measure => have := HN.out; simp only [T.sz] at this ⊢; omega
          case rel => exact ⟨d, v, rfl, HV, HE1, rfl, rfl⟩
        · have HR : Hid (∃ l k, t.L = l ++ ⟨lo, hi, tag⟩ :: k ∧ lo ≤ piece ∧ piece < hi) := by
            obtain ⟨l, k, e, _⟩ := HE.out
            exact ⟨l ++ c.L, d.L ++ k, by rw [e]; simp [T.L], by omega, by omega⟩
          clear HE
          have g4 : ¬ piece ≥ hi := by omega
          obtain ⟨t0, t1, t2, hp⟩ := HPUT.out (.int .i64 lo) (.int .i64 hi) (.int .i64 tag)
          have HP := Lib.hid hp
          clear hp
          go_wp2_with fail
          refine bodyPost_ret (v := .agg #[.int .i64 lo, .int .i64 hi, .int .i64 tag]) (by simp [results, Try.results45, go_sem, t0, t1, t2]) rfl ?_
          obtain ⟨l, k, hr⟩ := HR.out
          exact ⟨l, lo, hi, tag, rfl, ⟨k, hr⟩, HP.out⟩
end Go.Proofs.Ytjbenhmpeceaeaa
namespace Go.Proofs.Ytjbenhmpeceaeaa
open Go Go.RowKit Gs

/-- two trees with the runs from a to m, and from m to b -/
def SplitOf (f : Int → Int) (W : World) (a m b : Int) (n : Nat) (e : Ending) (w' : World) : Prop :=
  ∃ x y t1 t2, e = .returned (.tuple #[.pointer x, .pointer y]) ∧ Hid (IsT w' t1 (.pointer x)) ∧ Hid (IsT w' t2 (.pointer y)) ∧ Hid (Gs.Can f a t1.L m ∧ Gs.Can f m t2.L b ∧ t1.sz ≤ n ∧ t2.sz ≤ n) ∧ Below W.heap.size W w'
theorem bd_of {f : Int → Int} {a b : Int} {l : List R} (h : Fits f a l b) (c : Ctx f a b) (hl : l.length ≤ 100000) : Bd l := ⟨hl, h.bd c⟩
theorem two_boxes (W : World) (lo hi tag at' : Int) (Ty : TypeId) (X Y : Nat) (hXY : X = W.heap.size ∧ Y = W.heap.size + 1 ∨ X = W.heap.size + 1 ∧ Y = W.heap.size) :
    ∃ wd, wd = ((W.alloc (.cells #[.int .i64 lo, .int .i64 hi, .int .i64 tag] Ty)).alloc (.cells #[.int .i64 lo, .int .i64 hi, .int .i64 tag] Ty)).drew ∧
      (wd.cell? ⟨X, 1, none⟩ = some (.int .i64 hi) ∧ wd.frozen? ⟨X, 1, none⟩ = false ∧ wd.cell? ⟨Y, 0, none⟩ = some (.int .i64 lo) ∧ wd.frozen? ⟨Y, 0, none⟩ = false ∧ (wd.setCell ⟨X, 1, none⟩ (.int .i64 at')).cell? ⟨Y, 0, none⟩ = some (.int .i64 lo) ∧ (wd.setCell ⟨X, 1, none⟩ (.int .i64 at')).frozen? ⟨Y, 0, none⟩ = false) ∧
      (Below W.heap.size W ((wd.setCell ⟨X, 1, none⟩ (.int .i64 at')).setCell ⟨Y, 0, none⟩ (.int .i64 at')) ∧ ∀ W', Below ((wd.setCell ⟨X, 1, none⟩ (.int .i64 at')).setCell ⟨Y, 0, none⟩ (.int .i64 at')).heap.size ((wd.setCell ⟨X, 1, none⟩ (.int .i64 at')).setCell ⟨Y, 0, none⟩ (.int .i64 at')) W' →
        (W'.cell? ⟨X, 0, none⟩ = some (.int .i64 lo) ∧ W'.cell? ⟨X, 1, none⟩ = some (.int .i64 at') ∧ W'.cell? ⟨X, 2, none⟩ = some (.int .i64 tag)) ∧ (W'.cell? ⟨Y, 0, none⟩ = some (.int .i64 at') ∧ W'.cell? ⟨Y, 1, none⟩ = some (.int .i64 hi) ∧ W'.cell? ⟨Y, 2, none⟩ = some (.int .i64 tag))) := by
  obtain ⟨A, hA⟩ : ∃ A : Obj, A = .cells #[.int .i64 lo, .int .i64 hi, .int .i64 tag] Ty := ⟨_, rfl⟩
  have hb1 : Below W.heap.size W (W.alloc A) := (Below.refl _ _).alloc (Nat.le_refl _) _
  have hb2 : Below (W.alloc A).heap.size (W.alloc A) ((W.alloc A).alloc A) := (Below.refl _ _).alloc (Nat.le_refl _) _
  have s1 : (W.alloc A).heap.size = W.heap.size + 1 := by simp
  have s2 : (((W.alloc A).alloc A).drew).heap.size = W.heap.size + 1 + 1 := by
    show ((W.alloc A).alloc A).heap.size = _; simp
  have key : ∀ Z, Z = W.heap.size ∨ Z = W.heap.size + 1 → (((W.alloc A).alloc A).drew.cell? ⟨Z, 0, none⟩ = some (.int .i64 lo) ∧ ((W.alloc A).alloc A).drew.cell? ⟨Z, 1, none⟩ = some (.int .i64 hi) ∧ ((W.alloc A).alloc A).drew.cell? ⟨Z, 2, none⟩ = some (.int .i64 tag)) ∧ ∀ i, ((W.alloc A).alloc A).drew.frozen? ⟨Z, i, none⟩ = false := by
    rintro Z (rfl | rfl)
    · have hc : ∀ i v, (W.alloc A).cell? ⟨W.heap.size, i, none⟩ = some v → ((W.alloc A).alloc A).drew.cell? ⟨W.heap.size, i, none⟩ = some v := fun i v h => (World.cell?_alloc_past _ _ _ (by simp)).trans h
      refine ⟨⟨hc _ _ ?_, hc _ _ ?_, hc _ _ ?_⟩, fun i => (hb2.frozen (p := ⟨W.heap.size, i, none⟩) (by simp)).trans (by rw [hA]; exact World.frozen?_alloc_at _ _ _ _ rfl)⟩ <;> rw [hA] <;> exact World.cell?_alloc_at _ _ _ _ rfl
    · have e : W.heap.size + 1 = (W.alloc A).heap.size := by simp
      have hc : ∀ B : Obj, B = A → ((W.alloc A).alloc B).drew = ((W.alloc A).alloc A).drew := fun B h => by rw [h]
      rw [← hc _ hA.symm]
      exact ⟨⟨World.cell?_alloc_at _ _ _ _ e, World.cell?_alloc_at _ _ _ _ e, World.cell?_alloc_at _ _ _ _ e⟩, fun i => World.frozen?_alloc_at _ _ _ _ e⟩
  have hX : X = W.heap.size ∨ X = W.heap.size + 1 := by omega
  have hY : Y = W.heap.size ∨ Y = W.heap.size + 1 := by omega
  obtain ⟨⟨x0, x1, x2⟩, xf⟩ := key X hX
  obtain ⟨⟨y0, y1, y2⟩, yf⟩ := key Y hY
  have hne : X ≠ Y := by omega
  have hbd : Below W.heap.size W ((W.alloc A).alloc A).drew := (hb1.trans (hb2.mono (by simp))).drew
  rw [← hA]
  generalize ((W.alloc A).alloc A).drew = wd at *
  have o1 : ∀ i j, (⟨Y, i, none⟩ : Addr) ≠ ⟨X, j, none⟩ := by intro i j e; injection e with e; exact hne e.symm
  have o2 : ∀ i j, (⟨X, i, none⟩ : Addr) ≠ ⟨Y, j, none⟩ := by intro i j e; injection e with e; exact hne e
  have o3 : ∀ (Z i j : Nat), i ≠ j → (⟨Z, i, none⟩ : Addr) ≠ ⟨Z, j, none⟩ := by intro Z i j h e; injection e with _ e; exact h e
  refine ⟨wd, rfl, ⟨x1, xf 1, y0, yf 0, (World.cell?_setCell_other _ _ _ _ (o2 _ _)).trans y0, ?_⟩, (hbd.setCell (by show W.heap.size ≤ X; omega) _).setCell (by show W.heap.size ≤ Y; omega) _, fun W' h => ?_⟩
  · exact (World.frozen?_setCell _ _ _ _).trans (yf 0)
  · have hl : ∀ Z, Z = X ∨ Z = Y → Z < ((wd.setCell ⟨X, 1, none⟩ (.int .i64 at')).setCell ⟨Y, 0, none⟩ (.int .i64 at')).heap.size := by
      intro Z hZ; rw [World.size_setCell, World.size_setCell, s2]; omega
    have lX := hl X (.inl rfl)
    have lY := hl Y (.inr rfl)
    refine ⟨⟨(h.cell (p := ⟨X, 0, none⟩) lX).trans ?_, (h.cell (p := ⟨X, 1, none⟩) lX).trans ?_, (h.cell (p := ⟨X, 2, none⟩) lX).trans ?_⟩, (h.cell (p := ⟨Y, 0, none⟩) lY).trans ?_, (h.cell (p := ⟨Y, 1, none⟩) lY).trans ?_, (h.cell (p := ⟨Y, 2, none⟩) lY).trans ?_⟩
    · exact (World.cell?_setCell_other _ _ _ _ (o1 _ _)).trans ((World.cell?_setCell_other _ _ _ _ (o3 _ _ _ (by decide))).trans x0)
    · exact (World.cell?_setCell_other _ _ _ _ (o1 _ _)).trans (World.cell?_setCell_same _ _ _ x1)
    · exact (World.cell?_setCell_other _ _ _ _ (o1 _ _)).trans ((World.cell?_setCell_other _ _ _ _ (o3 _ _ _ (by decide))).trans x2)
    · exact World.cell?_setCell_same _ _ _ ((World.cell?_setCell_other _ _ _ _ (o2 _ _)).trans y0)
    · exact (World.cell?_setCell_other _ _ _ _ (o3 _ _ _ (by decide))).trans ((World.cell?_setCell_other _ _ _ _ (o2 _ _)).trans y1)
    · exact (World.cell?_setCell_other _ _ _ _ (o3 _ _ _ (by decide))).trans ((World.cell?_setCell_other _ _ _ _ (o2 _ _)).trans y2)

set_option maxHeartbeats 1000000 in
theorem split_lo (f : Int → Int) (c d : T) (lo hi tag a b at' : Int) (p : Option Addr) (W : World) (h : IsT W (.node c ⟨lo, hi, tag⟩ d) (.pointer p)) (hc : Gs.Can f a (T.node c ⟨lo, hi, tag⟩ d).L b) (hx : Ctx f a b) (hz : (T.node c ⟨lo, hi, tag⟩ d).sz ≤ 50000) (g : at' ≤ lo)
    (ih : ∀ q w, IsT w c (.pointer q) → Calls Try.prog 75 #[.pointer q, .int .i64 at'] w (SplitOf f w a (max a (min at' lo)) lo c.sz)) :
    Calls Try.prog 75 #[.pointer p, .int .i64 at'] W (SplitOf f W a (max a (min at' b)) b (T.node c ⟨lo, hi, tag⟩ d).sz) := by
  obtain ⟨m1, m2, m3, m4, m5, m6⟩ := hc.mid
  simp only at m1 m2 m3 m4 m5 m6
  have q1 := m1.le; have q2 := m2.le
  rw [show max a (min at' b) = max a (min at' lo) from by omega]
  obtain ⟨q3, q4⟩ : a ≤ max a (min at' lo) ∧ max a (min at' lo) ≤ lo := by omega
  generalize max a (min at' lo) = m at *
  simp only [T.sz] at hz ⊢
  have hlc := c.sz_eq; have hld := d.sz_eq
  obtain ⟨b0, u, v, rfl, hlt, h1, h2, hcs⟩ := h.open
  have HS : Hid (Calls Try.prog 75 #[.pointer u, .int .i64 at'] W (SplitOf f W a m lo c.sz)) := ih _ _ h1
  have HO := Lib.hid h2
  obtain ⟨d0, d1, d2, d3, d4⟩ := hcs W (Below.refl _ _)
  have HCS := Lib.hid hcs
  have HMK : Hid (∀ t2 : T, Gs.Can f m t2.L lo → Gs.Can f m (t2.L ++ ⟨lo, hi, tag⟩ :: d.L) b) := fun _ h => Can.make (r := ⟨lo, hi, tag⟩) h m2 m3 m4 (fun h => m5 (by have h : m < lo := h; omega)) m6
  have HBD : Hid (∀ t2 : T, Gs.Can f m t2.L lo → t2.sz ≤ c.sz → Bd (t2.L ++ ⟨lo, hi, tag⟩ :: d.L)) := fun t h hs => bd_of (HMK.out t h).1 (hx.sub (by omega) (by omega)) (by have := t.sz_eq; simp; omega)
  have HQ := Lib.hid (And.intro hlc hld)
  have HM1 := Lib.hid m1
  have HM2 := Lib.hid m2
  clear ih h hc hx m1 m2 m3 m4 m5 m6 h1 h2 hcs hlc hld
  have e1 := g
  go_enter Try.func75, Try.ntmps75
  go_wp2_with fail
  refine HS.out.mono ?_
  rintro e w1 ⟨x, y, t1, t2, rfl, HX, HY, HT, hb⟩
  have HB := Lib.hid hb
  have HALL : Hid (∀ W', Below w1.heap.size w1 W' → (W'.cell? ⟨b0, 0, none⟩ = some (.pointer u) ∧ W'.cell? ⟨b0, 1, none⟩ = some (.int .i64 lo) ∧ W'.cell? ⟨b0, 2, none⟩ = some (.int .i64 hi) ∧ W'.cell? ⟨b0, 3, none⟩ = some (.int .i64 tag) ∧ W'.cell? ⟨b0, 4, none⟩ = some (.pointer v))) := fun W' h => HCS.out W' (HB.out.trans (h.mono HB.out.size))
  have HJ : Hid (∀ W', Below w1.heap.size w1 W' → Calls Try.prog 78 #[.pointer y, .agg #[.int .i64 lo, .int .i64 hi, .int .i64 tag], .pointer v] W' fun e w' => ∃ g t, e = .returned (.pointer (some ⟨g, 0, none⟩)) ∧ Hid (IsT w' t (.pointer (some ⟨g, 0, none⟩))) ∧ Hid (t.L = t2.L ++ ⟨lo, hi, tag⟩ :: d.L) ∧ Below w1.heap.size w1 w') := fun W' h =>
    (join_any t2 d lo hi tag _ _ W' (IsT.below h HY.out) (IsT.below h (IsT.below HB.out HO.out)) (HBD.out t2 HT.out.2.1 HT.out.2.2.2)).mono fun e w' ⟨g, t, he, ht, hL, hB⟩ => ⟨g, t, he, ht, hL, h.trans (hB.mono h.size)⟩
  clear hb d0 d1 d2 d3 d4
  have hs : Below w1.heap.size w1 w1 := Below.refl _ _
  have hs2 := hs.drew
  have hcl := HALL.out _ hs2
  have hc0 := HALL.out _ hs
  go_wp2_with fail
  go_region_held3 (fun W' : World => (W'.cell? ⟨b0, 0, none⟩ = some (.pointer u) ∧ W'.cell? ⟨b0, 1, none⟩ = some (.int .i64 lo) ∧ W'.cell? ⟨b0, 2, none⟩ = some (.int .i64 hi) ∧ W'.cell? ⟨b0, 3, none⟩ = some (.int .i64 tag) ∧ W'.cell? ⟨b0, 4, none⟩ = some (.pointer v)) ∧ Below w1.heap.size w1 W') (first | (refine And.intro ?_ ?_ <;> assumption) | fail) (first
    | (go_at_call 78; with_reducible refine (HJ.out _ ?h).mono ?_; (case h => assumption); rintro e w' ⟨g, t, rfl, hgt, hgl, hs'⟩; have hc' := HALL.out _ hs') | fail)
  all_goals
    have HB2 := Lib.hid hs'
    clear hs hs2 hcl hc0 hs' hc'
    go_wp2_with fail
    refine bodyPost_ret (v := .tuple #[.pointer x, .pointer (some ⟨g, 0, none⟩)]) (by simp [results, Try.results75, go_sem]) rfl ?_
    refine ⟨x, _, t1, t, rfl, IsT.below HB2.out HX.out, hgt, ⟨HT.out.1, by rw [hgl.out]; exact HMK.out t2 HT.out.2.1, by have := HT.out.2.2.1; omega, ?_⟩, HB.out.trans (HB2.out.mono HB.out.size)⟩
    have h1 := HT.out.2.2.2; have h2 := HQ.out.2; have h3 := t2.sz_eq; rw [T.sz_eq, hgl.out]; simp; omega
set_option maxHeartbeats 1000000 in
theorem split_hi (f : Int → Int) (c d : T) (lo hi tag a b at' : Int) (p : Option Addr) (W : World) (h : IsT W (.node c ⟨lo, hi, tag⟩ d) (.pointer p)) (hc : Gs.Can f a (T.node c ⟨lo, hi, tag⟩ d).L b) (hx : Ctx f a b) (hz : (T.node c ⟨lo, hi, tag⟩ d).sz ≤ 50000) (g : hi ≤ at')
    (ih : ∀ q w, IsT w d (.pointer q) → Calls Try.prog 75 #[.pointer q, .int .i64 at'] w (SplitOf f w hi (max hi (min at' b)) b d.sz)) :
    Calls Try.prog 75 #[.pointer p, .int .i64 at'] W (SplitOf f W a (max a (min at' b)) b (T.node c ⟨lo, hi, tag⟩ d).sz) := by
  obtain ⟨m1, m2, m3, m4, m5, m6⟩ := hc.mid
  simp only at m1 m2 m3 m4 m5 m6
  have HE1 : Hid (¬ at' ≤ lo) := by show ¬ _; omega
  have q1 := m1.le; have q2 := m2.le
  rw [show max a (min at' b) = max hi (min at' b) from by omega]
  obtain ⟨q3, q4⟩ : hi ≤ max hi (min at' b) ∧ max hi (min at' b) ≤ b := by omega
  generalize max hi (min at' b) = m at *
  simp only [T.sz] at hz ⊢
  have hlc := c.sz_eq; have hld := d.sz_eq
  obtain ⟨b0, u, v, rfl, hlt, h1, h2, hcs⟩ := h.open
  have HS : Hid (Calls Try.prog 75 #[.pointer v, .int .i64 at'] W (SplitOf f W hi m b d.sz)) := ih _ _ h2
  have HO := Lib.hid h1
  obtain ⟨d0, d1, d2, d3, d4⟩ := hcs W (Below.refl _ _)
  have HCS := Lib.hid hcs
  have HMK : Hid (∀ t1 : T, Gs.Can f hi t1.L m → Gs.Can f a (c.L ++ ⟨lo, hi, tag⟩ :: t1.L) m) := fun _ h => Can.make (r := ⟨lo, hi, tag⟩) m1 h m3 m4 m5 (fun h => m6 (by have h : hi < m := h; omega))
  have HBD : Hid (∀ t1 : T, Gs.Can f hi t1.L m → t1.sz ≤ d.sz → Bd (c.L ++ ⟨lo, hi, tag⟩ :: t1.L)) := fun t h hs => bd_of (HMK.out t h).1 (hx.sub (by omega) (by omega)) (by have := t.sz_eq; simp; omega)
  have HQ := Lib.hid (And.intro hlc hld)
  have HM1 := Lib.hid m1
  have HM2 := Lib.hid m2
  clear ih h hc hx m1 m2 m3 m4 m5 m6 h1 h2 hcs hlc hld
  have e1 : ¬ at' ≤ lo := HE1.out
  have e2 : at' ≥ hi := g
  go_enter Try.func75, Try.ntmps75
  go_wp2_with fail
  refine HS.out.mono ?_
  rintro e w1 ⟨x, y, t1, t2, rfl, HX, HY, HT, hb⟩
  have HB := Lib.hid hb
  have HALL : Hid (∀ W', Below w1.heap.size w1 W' → (W'.cell? ⟨b0, 0, none⟩ = some (.pointer u) ∧ W'.cell? ⟨b0, 1, none⟩ = some (.int .i64 lo) ∧ W'.cell? ⟨b0, 2, none⟩ = some (.int .i64 hi) ∧ W'.cell? ⟨b0, 3, none⟩ = some (.int .i64 tag) ∧ W'.cell? ⟨b0, 4, none⟩ = some (.pointer v))) := fun W' h => HCS.out W' (HB.out.trans (h.mono HB.out.size))
  have HJ : Hid (∀ W', Below w1.heap.size w1 W' → Calls Try.prog 78 #[.pointer u, .agg #[.int .i64 lo, .int .i64 hi, .int .i64 tag], .pointer x] W' fun e w' => ∃ g t, e = .returned (.pointer (some ⟨g, 0, none⟩)) ∧ Hid (IsT w' t (.pointer (some ⟨g, 0, none⟩))) ∧ Hid (t.L = c.L ++ ⟨lo, hi, tag⟩ :: t1.L) ∧ Below w1.heap.size w1 w') := fun W' h =>
    (join_any c t1 lo hi tag _ _ W' (IsT.below h (IsT.below HB.out HO.out)) (IsT.below h HX.out) (HBD.out t1 HT.out.1 HT.out.2.2.1)).mono fun e w' ⟨g, t, he, ht, hL, hB⟩ => ⟨g, t, he, ht, hL, h.trans (hB.mono h.size)⟩
  clear hb d0 d1 d2 d3 d4
  have hs : Below w1.heap.size w1 w1 := Below.refl _ _
  have hs2 := hs.drew
  have hcl := HALL.out _ hs2
  have hc0 := HALL.out _ hs
  go_wp2_with fail
  go_region_held3 (fun W' : World => (W'.cell? ⟨b0, 0, none⟩ = some (.pointer u) ∧ W'.cell? ⟨b0, 1, none⟩ = some (.int .i64 lo) ∧ W'.cell? ⟨b0, 2, none⟩ = some (.int .i64 hi) ∧ W'.cell? ⟨b0, 3, none⟩ = some (.int .i64 tag) ∧ W'.cell? ⟨b0, 4, none⟩ = some (.pointer v)) ∧ Below w1.heap.size w1 W') (first | (refine And.intro ?_ ?_ <;> assumption) | fail) (first
    | (go_at_call 78; with_reducible refine (HJ.out _ ?h).mono ?_; (case h => assumption); rintro e w' ⟨g, t, rfl, hgt, hgl, hs'⟩; have hc' := HALL.out _ hs') | fail)
  all_goals
    have HB2 := Lib.hid hs'
    clear hs hs2 hcl hc0 hs' hc'
    go_wp2_with fail
    refine bodyPost_ret (v := .tuple #[.pointer (some ⟨g, 0, none⟩), .pointer y]) (by simp [results, Try.results75, go_sem]) rfl ?_
    refine ⟨_, y, t, t2, rfl, hgt, IsT.below HB2.out HY.out, ⟨by rw [hgl.out]; exact HMK.out t1 HT.out.1, HT.out.2.1, ?_, by have := HT.out.2.2.2; omega⟩, HB.out.trans (HB2.out.mono HB.out.size)⟩
    have h1 := HT.out.2.2.1; have h2 := HQ.out.1; have h3 := t1.sz_eq; rw [T.sz_eq, hgl.out]; simp; omega
set_option maxHeartbeats 1000000 in
theorem split_mid (f : Int → Int) (c d : T) (lo hi tag a b at' : Int) (p : Option Addr) (W : World) (h : IsT W (.node c ⟨lo, hi, tag⟩ d) (.pointer p)) (hc : Gs.Can f a (T.node c ⟨lo, hi, tag⟩ d).L b) (hx : Ctx f a b) (hz : (T.node c ⟨lo, hi, tag⟩ d).sz ≤ 50000) (g1 : lo < at') (g2 : at' < hi) :
    Calls Try.prog 75 #[.pointer p, .int .i64 at'] W (SplitOf f W a (max a (min at' b)) b (T.node c ⟨lo, hi, tag⟩ d).sz) := by
  obtain ⟨m1, m2, m3, m4, m5, m6⟩ := hc.mid
  simp only at m1 m2 m3 m4 m5 m6
  have q1 := m1.le; have q2 := m2.le
  rw [show max a (min at' b) = at' from by omega]
  simp only [T.sz] at hz ⊢
  have hlc := c.sz_eq; have hld := d.sz_eq
  obtain ⟨b0, u, v, rfl, hlt, h1, h2, hcs⟩ := h.open
  obtain ⟨d0, d1, d2, d3, d4⟩ := hcs W (Below.refl _ _)
  have HC1 : Hid (Gs.Can f a (c.L ++ ⟨lo, at', tag⟩ :: T.nil.L) at') := Gs.Can.make (r := ⟨lo, at', tag⟩) m1 (Gs.Can.nil _ _) g1 (fun p p1 p2 => m4 p p1 (by show p < hi; have : p < at' := p2; omega)) m5 (fun h => absurd h (Int.lt_irrefl _))
  have HC2 : Hid (Gs.Can f at' (T.nil.L ++ ⟨at', hi, tag⟩ :: d.L) b) := Gs.Can.make (r := ⟨at', hi, tag⟩) (Gs.Can.nil _ _) m2 g2 (fun p p1 p2 => m4 p (by have : at' ≤ p := p1; omega) p2) (fun h => absurd h (Int.lt_irrefl _)) m6
  have HD1 : Hid (Bd (c.L ++ ⟨lo, at', tag⟩ :: T.nil.L)) := bd_of HC1.out.1 (hx.sub (by omega) (by omega)) (by simp [T.L]; omega)
  have HD2 : Hid (Bd (T.nil.L ++ ⟨at', hi, tag⟩ :: d.L)) := bd_of HC2.out.1 (hx.sub (by omega) (by omega)) (by simp [T.L]; omega)
  have HCS := Lib.hid hcs
  have HU := Lib.hid h1
  have HV := Lib.hid h2
  have HQ := Lib.hid (And.intro hlc hld)
  have HLT := Lib.hid hlt
  clear h hc hx m1 m2 m3 m4 m5 m6 h1 h2 hcs hlc hld
  have e1 : ¬ at' ≤ lo := by omega
  have e2 : ¬ at' ≥ hi := by omega
  go_enter Try.func75, Try.ntmps75
  go_wp2_with fail
  go_region
  · obtain ⟨wd, HWD, hcells, hput⟩ := two_boxes W lo hi tag at' 64 W.heap.size (W.heap.size + 1) (.inl ⟨rfl, rfl⟩)
    rw [← HWD]
    have HWD' := Lib.hid HWD
    obtain ⟨k0, k1, k2, k3, k4, k5⟩ := hcells
    have HPUT := Lib.hid hput
    clear HWD hput d0 d1 d2 d3 d4
    go_wp2_with fail
    obtain ⟨w1, HW1⟩ : ∃ w1, w1 = (wd.setCell ⟨W.heap.size, 1, none⟩ (.int .i64 at')).setCell ⟨W.heap.size + 1, 0, none⟩ (.int .i64 at') := ⟨_, rfl⟩
    rw [← HW1] at HPUT
    rw [← HW1]
    clear HW1 k0 k1 k2 k3 k4 k5
    have HB : Hid (Below W.heap.size W w1) := HPUT.out.1
    have HALL : Hid (∀ W', Below w1.heap.size w1 W' → ((W'.cell? ⟨W.heap.size, 0, none⟩ = some (.int .i64 lo) ∧ W'.cell? ⟨W.heap.size, 1, none⟩ = some (.int .i64 at') ∧ W'.cell? ⟨W.heap.size, 2, none⟩ = some (.int .i64 tag)) ∧ (W'.cell? ⟨W.heap.size + 1, 0, none⟩ = some (.int .i64 at') ∧ W'.cell? ⟨W.heap.size + 1, 1, none⟩ = some (.int .i64 hi) ∧ W'.cell? ⟨W.heap.size + 1, 2, none⟩ = some (.int .i64 tag)) ∧ (W'.cell? ⟨b0, 0, none⟩ = some (.pointer u) ∧ W'.cell? ⟨b0, 1, none⟩ = some (.int .i64 lo) ∧ W'.cell? ⟨b0, 2, none⟩ = some (.int .i64 hi) ∧ W'.cell? ⟨b0, 3, none⟩ = some (.int .i64 tag) ∧ W'.cell? ⟨b0, 4, none⟩ = some (.pointer v)))) := fun W' h => by
      obtain ⟨p1, p2⟩ := HPUT.out.2 W' h
      exact ⟨p1, p2, HCS.out W' (HB.out.trans (h.mono HB.out.size))⟩
    have HJ1 : Hid (∀ W', Below w1.heap.size w1 W' → Calls Try.prog 78 #[.pointer u, .agg #[.int .i64 lo, .int .i64 at', .int .i64 tag], .pointer none] W' fun e w' => ∃ g t, e = .returned (.pointer (some ⟨g, 0, none⟩)) ∧ Hid (IsT w' t (.pointer (some ⟨g, 0, none⟩))) ∧ Hid (t.L = c.L ++ ⟨lo, at', tag⟩ :: T.nil.L) ∧ Below w1.heap.size w1 w') := fun W' h =>
      (join_any c .nil lo at' tag _ _ W' (IsT.below h (IsT.below HB.out HU.out)) rfl HD1.out).mono fun e w' ⟨g, t, he, ht, hL, hB⟩ => ⟨g, t, he, ht, hL, h.trans (hB.mono h.size)⟩
    have HJ2 : Hid (∀ W', Below w1.heap.size w1 W' → Calls Try.prog 78 #[.pointer none, .agg #[.int .i64 at', .int .i64 hi, .int .i64 tag], .pointer v] W' fun e w' => ∃ g t, e = .returned (.pointer (some ⟨g, 0, none⟩)) ∧ Hid (IsT w' t (.pointer (some ⟨g, 0, none⟩))) ∧ Hid (t.L = T.nil.L ++ ⟨at', hi, tag⟩ :: d.L) ∧ Hid (Below W'.heap.size W' w') ∧ Below w1.heap.size w1 w') := fun W' h =>
      (join_any .nil d at' hi tag _ _ W' rfl (IsT.below h (IsT.below HB.out HV.out)) HD2.out).mono fun e w' ⟨g, t, he, ht, hL, hB⟩ => ⟨g, t, he, ht, hL, hB, h.trans (hB.mono h.size)⟩
    have hs : Below w1.heap.size w1 w1 := Below.refl _ _
    have hs2 := hs.drew
    have hcl := HALL.out _ hs2
    have hc0 := HALL.out _ hs
    go_region_held3 (fun W' : World => ((W'.cell? ⟨W.heap.size, 0, none⟩ = some (.int .i64 lo) ∧ W'.cell? ⟨W.heap.size, 1, none⟩ = some (.int .i64 at') ∧ W'.cell? ⟨W.heap.size, 2, none⟩ = some (.int .i64 tag)) ∧ (W'.cell? ⟨W.heap.size + 1, 0, none⟩ = some (.int .i64 at') ∧ W'.cell? ⟨W.heap.size + 1, 1, none⟩ = some (.int .i64 hi) ∧ W'.cell? ⟨W.heap.size + 1, 2, none⟩ = some (.int .i64 tag)) ∧ (W'.cell? ⟨b0, 0, none⟩ = some (.pointer u) ∧ W'.cell? ⟨b0, 1, none⟩ = some (.int .i64 lo) ∧ W'.cell? ⟨b0, 2, none⟩ = some (.int .i64 hi) ∧ W'.cell? ⟨b0, 3, none⟩ = some (.int .i64 tag) ∧ W'.cell? ⟨b0, 4, none⟩ = some (.pointer v))) ∧ Below w1.heap.size w1 W') (first | (refine And.intro ?_ ?_ <;> assumption) | fail) (first
      | (go_at_call 78; with_reducible refine (HJ1.out _ ?h).mono ?_; (case h => assumption); rintro e w' ⟨g1, t1, rfl, hg1, hl1, hs1'⟩; have hc1' := HALL.out _ hs1')
      | (go_at_call 78; with_reducible refine (HJ2.out _ ?h).mono ?_; (case h => assumption); rintro e w' ⟨g2, t2, rfl, hg2, hl2, hb2, hs2'⟩; have hc2' := HALL.out _ hs2') | fail)
    all_goals
      have HB2 := Lib.hid hs2'
      clear hs hs2 hcl hc0 hs1' hs2' hc1' hc2'
      go_wp2_with fail
      refine bodyPost_ret (v := .tuple #[.pointer (some ⟨g1, 0, none⟩), .pointer (some ⟨g2, 0, none⟩)]) (by simp [results, Try.results75, go_sem]) rfl ?_
      refine ⟨_, _, t1, t2, rfl, IsT.below hb2.out hg1.out, hg2, ⟨by rw [hl1.out]; exact HC1.out, by rw [hl2.out]; exact HC2.out, ?_, ?_⟩, HB.out.trans (HB2.out.mono HB.out.size)⟩
      · have h1 := HQ.out.1; rw [T.sz_eq, hl1.out]; simp [T.L]; omega
      · have h1 := HQ.out.2; rw [T.sz_eq, hl2.out]; simp [T.L]; omega
  · obtain ⟨wd, HWD, hcells, hput⟩ := two_boxes W lo hi tag at' 64 (W.heap.size + 1) W.heap.size (.inr ⟨rfl, rfl⟩)
    rw [← HWD]
    have HWD' := Lib.hid HWD
    obtain ⟨k0, k1, k2, k3, k4, k5⟩ := hcells
    have HPUT := Lib.hid hput
    clear HWD hput d0 d1 d2 d3 d4
    go_wp2_with fail
    obtain ⟨w1, HW1⟩ : ∃ w1, w1 = (wd.setCell ⟨W.heap.size + 1, 1, none⟩ (.int .i64 at')).setCell ⟨W.heap.size, 0, none⟩ (.int .i64 at') := ⟨_, rfl⟩
    rw [← HW1] at HPUT
    rw [← HW1]
    clear HW1 k0 k1 k2 k3 k4 k5
    have HB : Hid (Below W.heap.size W w1) := HPUT.out.1
    have HALL : Hid (∀ W', Below w1.heap.size w1 W' → ((W'.cell? ⟨W.heap.size + 1, 0, none⟩ = some (.int .i64 lo) ∧ W'.cell? ⟨W.heap.size + 1, 1, none⟩ = some (.int .i64 at') ∧ W'.cell? ⟨W.heap.size + 1, 2, none⟩ = some (.int .i64 tag)) ∧ (W'.cell? ⟨W.heap.size, 0, none⟩ = some (.int .i64 at') ∧ W'.cell? ⟨W.heap.size, 1, none⟩ = some (.int .i64 hi) ∧ W'.cell? ⟨W.heap.size, 2, none⟩ = some (.int .i64 tag)) ∧ (W'.cell? ⟨b0, 0, none⟩ = some (.pointer u) ∧ W'.cell? ⟨b0, 1, none⟩ = some (.int .i64 lo) ∧ W'.cell? ⟨b0, 2, none⟩ = some (.int .i64 hi) ∧ W'.cell? ⟨b0, 3, none⟩ = some (.int .i64 tag) ∧ W'.cell? ⟨b0, 4, none⟩ = some (.pointer v)))) := fun W' h => by
      obtain ⟨p1, p2⟩ := HPUT.out.2 W' h
      exact ⟨p1, p2, HCS.out W' (HB.out.trans (h.mono HB.out.size))⟩
    have HJ1 : Hid (∀ W', Below w1.heap.size w1 W' → Calls Try.prog 78 #[.pointer u, .agg #[.int .i64 lo, .int .i64 at', .int .i64 tag], .pointer none] W' fun e w' => ∃ g t, e = .returned (.pointer (some ⟨g, 0, none⟩)) ∧ Hid (IsT w' t (.pointer (some ⟨g, 0, none⟩))) ∧ Hid (t.L = c.L ++ ⟨lo, at', tag⟩ :: T.nil.L) ∧ Below w1.heap.size w1 w') := fun W' h =>
      (join_any c .nil lo at' tag _ _ W' (IsT.below h (IsT.below HB.out HU.out)) rfl HD1.out).mono fun e w' ⟨g, t, he, ht, hL, hB⟩ => ⟨g, t, he, ht, hL, h.trans (hB.mono h.size)⟩
    have HJ2 : Hid (∀ W', Below w1.heap.size w1 W' → Calls Try.prog 78 #[.pointer none, .agg #[.int .i64 at', .int .i64 hi, .int .i64 tag], .pointer v] W' fun e w' => ∃ g t, e = .returned (.pointer (some ⟨g, 0, none⟩)) ∧ Hid (IsT w' t (.pointer (some ⟨g, 0, none⟩))) ∧ Hid (t.L = T.nil.L ++ ⟨at', hi, tag⟩ :: d.L) ∧ Hid (Below W'.heap.size W' w') ∧ Below w1.heap.size w1 w') := fun W' h =>
      (join_any .nil d at' hi tag _ _ W' rfl (IsT.below h (IsT.below HB.out HV.out)) HD2.out).mono fun e w' ⟨g, t, he, ht, hL, hB⟩ => ⟨g, t, he, ht, hL, hB, h.trans (hB.mono h.size)⟩
    have hs : Below w1.heap.size w1 w1 := Below.refl _ _
    have hs2 := hs.drew
    have hcl := HALL.out _ hs2
    have hc0 := HALL.out _ hs
    go_region_held3 (fun W' : World => ((W'.cell? ⟨W.heap.size + 1, 0, none⟩ = some (.int .i64 lo) ∧ W'.cell? ⟨W.heap.size + 1, 1, none⟩ = some (.int .i64 at') ∧ W'.cell? ⟨W.heap.size + 1, 2, none⟩ = some (.int .i64 tag)) ∧ (W'.cell? ⟨W.heap.size, 0, none⟩ = some (.int .i64 at') ∧ W'.cell? ⟨W.heap.size, 1, none⟩ = some (.int .i64 hi) ∧ W'.cell? ⟨W.heap.size, 2, none⟩ = some (.int .i64 tag)) ∧ (W'.cell? ⟨b0, 0, none⟩ = some (.pointer u) ∧ W'.cell? ⟨b0, 1, none⟩ = some (.int .i64 lo) ∧ W'.cell? ⟨b0, 2, none⟩ = some (.int .i64 hi) ∧ W'.cell? ⟨b0, 3, none⟩ = some (.int .i64 tag) ∧ W'.cell? ⟨b0, 4, none⟩ = some (.pointer v))) ∧ Below w1.heap.size w1 W') (first | (refine And.intro ?_ ?_ <;> assumption) | fail) (first
      | (go_at_call 78; with_reducible refine (HJ1.out _ ?h).mono ?_; (case h => assumption); rintro e w' ⟨g1, t1, rfl, hg1, hl1, hs1'⟩; have hc1' := HALL.out _ hs1')
      | (go_at_call 78; with_reducible refine (HJ2.out _ ?h).mono ?_; (case h => assumption); rintro e w' ⟨g2, t2, rfl, hg2, hl2, hb2, hs2'⟩; have hc2' := HALL.out _ hs2') | fail)
    all_goals
      have HB2 := Lib.hid hs2'
      clear hs hs2 hcl hc0 hs1' hs2' hc1' hc2'
      go_wp2_with fail
      refine bodyPost_ret (v := .tuple #[.pointer (some ⟨g1, 0, none⟩), .pointer (some ⟨g2, 0, none⟩)]) (by simp [results, Try.results75, go_sem]) rfl ?_
      refine ⟨_, _, t1, t2, rfl, IsT.below hb2.out hg1.out, hg2, ⟨by rw [hl1.out]; exact HC1.out, by rw [hl2.out]; exact HC2.out, ?_, ?_⟩, HB.out.trans (HB2.out.mono HB.out.size)⟩
      · have h1 := HQ.out.1; rw [T.sz_eq, hl1.out]; simp [T.L]; omega
      · have h1 := HQ.out.2; rw [T.sz_eq, hl2.out]; simp [T.L]; omega
theorem split_any (f : Int → Int) (at' : Int) : ∀ (t : T) (a b : Int) (p : Option Addr) (W : World), IsT W t (.pointer p) → Gs.Can f a t.L b → Ctx f a b → t.sz ≤ 50000 →
    Calls Try.prog 75 #[.pointer p, .int .i64 at'] W (SplitOf f W a (max a (min at' b)) b t.sz) := by
  intro t
  induction t with
  | nil =>
    intro a b p W h hc hx hz
    obtain rfl := isT_nil h
    have e : a = b := by have := hc.1; simpa [T.L, Fits] using this
    subst e
    rw [show max a (min at' a) = a from by omega]
    clear h hc hx hz
    go_enter Try.func75, Try.ntmps75
    go_wp2_with fail
    refine bodyPost_ret (v := .tuple #[.pointer none, .pointer none]) (by simp [results, Try.results75, go_sem]) rfl ?_
    exact ⟨none, none, .nil, .nil, rfl, rfl, rfl, ⟨Gs.Can.nil _ _, Gs.Can.nil _ _, Nat.le_refl _, Nat.le_refl _⟩, Below.refl _ _⟩
  | node c r d ihc ihd =>
    intro a b p W h hc hx hz
    obtain ⟨lo, hi, tag⟩ := r
    have hm := hc.mid
    have hz' : c.sz + d.sz + 1 ≤ 50000 := by simp only [T.sz] at hz; omega
    have q1 := hm.1.le; have q2 := hm.2.1.le; have q3 := hm.2.2.1
    simp only at q1 q2 q3
    by_cases g1 : at' ≤ lo
    · exact split_lo f c d lo hi tag a b at' p W h hc hx hz g1 fun q w hq => ihc a lo q w hq hm.1 (hx.sub (by omega) (by omega)) (by omega)
    · by_cases g2 : hi ≤ at'
      · exact split_hi f c d lo hi tag a b at' p W h hc hx hz g2 fun q w hq => ihd hi b q w hq hm.2.1 (hx.sub (by omega) (by omega)) (by omega)
      · exact split_mid f c d lo hi tag a b at' p W h hc hx hz (by omega) (by omega)
end Go.Proofs.Ytjbenhmpeceaeaa
namespace Go.Proofs.Ytjbenhmpeceaeaa
open Go Go.RowKit Gs

/-- the box of a run behind W, in a later world -/
structure Bq (W : World) (lo hi tag : Int) (W' : World) : Prop where
  c0 : W'.cell? ⟨W.heap.size, 0, none⟩ = some (.int .i64 lo)
  c1 : W'.cell? ⟨W.heap.size, 1, none⟩ = some (.int .i64 hi)
  c2 : W'.cell? ⟨W.heap.size, 2, none⟩ = some (.int .i64 tag)
  f0 : W'.frozen? ⟨W.heap.size, 0, none⟩ = false
  f1 : W'.frozen? ⟨W.heap.size, 1, none⟩ = false
  f2 : W'.frozen? ⟨W.heap.size, 2, none⟩ = false
  c22 : W'.cell? ⟨W.heap.size, 22, none⟩ = none
  lt : W.heap.size < W'.heap.size
  bel : Below W.heap.size W W'
section
variable {W W' W2 : World} {lo hi tag : Int}
theorem Bq.next (h : Bq W lo hi tag W') (hb : Below W'.heap.size W' W2) : Bq W lo hi tag W2 :=
  ⟨(hb.cell (p := ⟨W.heap.size, 0, none⟩) h.lt).trans h.c0, (hb.cell (p := ⟨W.heap.size, 1, none⟩) h.lt).trans h.c1, (hb.cell (p := ⟨W.heap.size, 2, none⟩) h.lt).trans h.c2,
   (hb.frozen (p := ⟨W.heap.size, 0, none⟩) h.lt).trans h.f0, (hb.frozen (p := ⟨W.heap.size, 1, none⟩) h.lt).trans h.f1, (hb.frozen (p := ⟨W.heap.size, 2, none⟩) h.lt).trans h.f2, (hb.cell (p := ⟨W.heap.size, 22, none⟩) h.lt).trans h.c22, Nat.lt_of_lt_of_le h.lt hb.size, h.bel.trans (hb.mono h.bel.size)⟩
theorem Bq.drew (h : Bq W lo hi tag W') : Bq W lo hi tag W'.drew := h.next (Below.refl _ _).drew
theorem Bq.drewN (h : Bq W lo hi tag W') (k : Nat) : Bq W lo hi tag (W'.drewN k) := h.next (below_drewN (Below.refl _ _) k)
theorem Bq.new (W : World) (lo hi tag : Int) (Ty : TypeId) : Bq W lo hi tag (W.alloc (.cells #[.int .i64 lo, .int .i64 hi, .int .i64 tag] Ty)) :=
  ⟨World.cell?_alloc_at _ _ _ _ rfl, World.cell?_alloc_at _ _ _ _ rfl, World.cell?_alloc_at _ _ _ _ rfl, World.frozen?_alloc_at _ _ _ _ rfl, World.frozen?_alloc_at _ _ _ _ rfl, World.frozen?_alloc_at _ _ _ _ rfl, World.cell?_alloc_at _ _ _ _ rfl, by simp, (Below.refl _ _).alloc (Nat.le_refl _) _⟩
theorem Bq.put (h : Bq W lo hi tag W') (x : Int) : Bq W x hi tag (W'.setCell ⟨W.heap.size, 0, none⟩ (.int .i64 x)) :=
  ⟨World.cell?_setCell_same _ _ _ h.c0, (World.cell?_setCell_other _ _ _ _ (by intro e; cases e)).trans h.c1, (World.cell?_setCell_other _ _ _ _ (by intro e; cases e)).trans h.c2,
   (World.frozen?_setCell _ _ _ _).trans h.f0, (World.frozen?_setCell _ _ _ _).trans h.f1, (World.frozen?_setCell _ _ _ _).trans h.f2, (World.cell?_setCell_other _ _ _ _ (by intro e; cases e)).trans h.c22, by rw [World.size_setCell]; exact h.lt, h.bel.setCell (Nat.le_refl _) _⟩
theorem Bq.put1 (h : Bq W lo hi tag W') (x : Int) : Bq W lo x tag (W'.setCell ⟨W.heap.size, 1, none⟩ (.int .i64 x)) :=
  ⟨(World.cell?_setCell_other _ _ _ _ (by intro e; cases e)).trans h.c0, World.cell?_setCell_same _ _ _ h.c1, (World.cell?_setCell_other _ _ _ _ (by intro e; cases e)).trans h.c2,
   (World.frozen?_setCell _ _ _ _).trans h.f0, (World.frozen?_setCell _ _ _ _).trans h.f1, (World.frozen?_setCell _ _ _ _).trans h.f2, (World.cell?_setCell_other _ _ _ _ (by intro e; cases e)).trans h.c22, by rw [World.size_setCell]; exact h.lt, h.bel.setCell (Nat.le_refl _) _⟩
theorem Bq.put2 (h : Bq W lo hi tag W') (x : Int) : Bq W lo hi x (W'.setCell ⟨W.heap.size, 2, none⟩ (.int .i64 x)) :=
  ⟨(World.cell?_setCell_other _ _ _ _ (by intro e; cases e)).trans h.c0, (World.cell?_setCell_other _ _ _ _ (by intro e; cases e)).trans h.c1, World.cell?_setCell_same _ _ _ h.c2,
   (World.frozen?_setCell _ _ _ _).trans h.f0, (World.frozen?_setCell _ _ _ _).trans h.f1, (World.frozen?_setCell _ _ _ _).trans h.f2, (World.cell?_setCell_other _ _ _ _ (by intro e; cases e)).trans h.c22, by rw [World.size_setCell]; exact h.lt, h.bel.setCell (Nat.le_refl _) _⟩
end
theorem IsT.set {W : World} {B i : Nat} {u : Value} (h22 : W.cell? ⟨B, 22, none⟩ = none) : ∀ {t : T} {v : Value}, IsT W t v → IsT (W.setCell ⟨B, i, none⟩ u) t v
  | .nil, _, h => h
  | .node _ _ _, _, ⟨b, x, y, hv, hr, hl, hk⟩ => ⟨b, x, y, hv, hr.setOther (a := ⟨B, i, none⟩) (by
      intro e
      have e : b = B := e
      subst e
      have h1 := hr.cell (i := 22) (by decide)
      rw [h22] at h1
      cases h1) _, IsT.set h22 hl, IsT.set h22 hk⟩
/-- a tree that fits f from a to b, with at most n runs -/
def Tr (f : Int → Int) (a b : Int) (n : Nat) (W : World) (p : Option Addr) : Prop := ∃ t, IsT W t (.pointer p) ∧ Gs.Can f a t.L b ∧ t.sz ≤ n
theorem Tr.below {f : Int → Int} {a b : Int} {n : Nat} {W W' : World} {p : Option Addr} (h : Tr f a b n W p) (hb : Below W.heap.size W W') : Tr f a b n W' p := by
  obtain ⟨t, h1, h2⟩ := h
  exact ⟨t, IsT.below hb h1, h2⟩
theorem Tr.set {f : Int → Int} {a b : Int} {n B i : Nat} {W : World} {p : Option Addr} (h : Tr f a b n W p) (h22 : W.cell? ⟨B, 22, none⟩ = none) (u : Value) : Tr f a b n (W.setCell ⟨B, i, none⟩ u) p := by
  obtain ⟨t, h1, h2⟩ := h
  exact ⟨t, IsT.set h22 h1, h2⟩
theorem Tr.le {f : Int → Int} {a b : Int} {n : Nat} {W : World} {p : Option Addr} (h : Tr f a b n W p) : a ≤ b := by
  obtain ⟨t, _, h2, _⟩ := h
  exact h2.le
theorem Tr.mono {f : Int → Int} {a b : Int} {n m : Nat} {W : World} {p : Option Addr} (h : Tr f a b n W p) (hm : n ≤ m) : Tr f a b m W p := by
  obtain ⟨t, h1, h2, h3⟩ := h
  exact ⟨t, h1, h2, by omega⟩
theorem Tr.congr {f g : Int → Int} {a b : Int} {n : Nat} {W : World} {p : Option Addr} (h : Tr f a b n W p) (e : ∀ x, a ≤ x → x < b → f x = g x) : Tr g a b n W p := by
  obtain ⟨t, h1, h2, h3⟩ := h
  exact ⟨t, h1, h2.congr e, h3⟩
/-- the left part is empty, or its last run is known -/
theorem Tr.last {f : Int → Int} {a m : Int} {n : Nat} {W : World} {p : Option Addr} (h : Tr f a m n W p) :
    (p = none ∧ a = m) ∨ ∃ b ylo ytag, p = some ⟨b, 0, none⟩ ∧ (∀ W', Below W.heap.size W W' → Calls Try.prog 76 #[.pointer (some ⟨b, 0, none⟩)] W' fun e w' => e = .returned (.agg #[.int .i64 ylo, .int .i64 m, .int .i64 ytag]) ∧ Below W'.heap.size W' w') ∧
      ylo < m ∧ a ≤ ylo ∧ (∀ x, ylo ≤ x → x < m → f x = ytag) ∧ (a < ylo → f (ylo - 1) ≠ f ylo) := by
  obtain ⟨t, h1, h2, h3⟩ := h
  cases t with
  | nil =>
    have e : a = m := by have := h2.1; simpa [T.L, Fits] using this
    exact .inl ⟨isT_nil h1, e⟩
  | node l r k =>
    obtain ⟨b, u, v, rfl, _⟩ := h1.open
    obtain ⟨y, hy⟩ : ∃ y, (T.node l r k).L.getLast? = some y := ⟨_, List.getLast?_eq_some_getLast (T.L_ne l k r)⟩
    obtain ⟨e1, e2, e3, e4, e5⟩ := h2.last hy
    obtain ⟨ylo, yhi, ytag⟩ := y
    simp only at e1 e2 e3 e4 e5
    subst e1
    refine .inr ⟨b, ylo, ytag, rfl, fun W' hb => (last_any l k r _ W' (IsT.below hb h1)).mono ?_, e2, e3, e4, e5⟩
    rintro e w' ⟨lo, hi, tag, rfl, he, hB⟩
    rw [he.out] at hy
    injection hy with hy
    injection hy with g1 g2 g3
    subst g1; subst g2; subst g3
    exact ⟨rfl, hB⟩
theorem Tr.first {f : Int → Int} {m b' : Int} {n : Nat} {W : World} {p : Option Addr} (h : Tr f m b' n W p) :
    (p = none ∧ m = b') ∨ ∃ b yhi ytag, p = some ⟨b, 0, none⟩ ∧ (∀ W', Below W.heap.size W W' → Calls Try.prog 77 #[.pointer (some ⟨b, 0, none⟩)] W' fun e w' => e = .returned (.agg #[.int .i64 m, .int .i64 yhi, .int .i64 ytag]) ∧ Below W'.heap.size W' w') ∧
      m < yhi ∧ yhi ≤ b' ∧ (∀ x, m ≤ x → x < yhi → f x = ytag) ∧ (yhi < b' → f (yhi - 1) ≠ f yhi) := by
  obtain ⟨t, h1, h2, h3⟩ := h
  cases t with
  | nil =>
    have e : m = b' := by have := h2.1; simpa [T.L, Fits] using this
    exact .inl ⟨isT_nil h1, e⟩
  | node l r k =>
    obtain ⟨b, u, v, rfl, _⟩ := h1.open
    obtain ⟨y, hy⟩ : ∃ y, (T.node l r k).L.head? = some y := by
      cases hh : (T.node l r k).L with
      | nil => exact absurd hh (T.L_ne l k r)
      | cons y z => exact ⟨y, rfl⟩
    obtain ⟨e1, e2, e3, e4, e5⟩ := h2.first hy
    obtain ⟨ylo, yhi, ytag⟩ := y
    simp only at e1 e2 e3 e4 e5
    subst e1
    refine .inr ⟨b, yhi, ytag, rfl, fun W' hb => (first_any l k r _ W' (IsT.below hb h1)).mono ?_, e2, e3, e4, e5⟩
    rintro e w' ⟨lo, hi, tag, rfl, he, hB⟩
    rw [he.out] at hy
    injection hy with hy
    injection hy with g1 g2 g3
    subst g1; subst g2; subst g3
    exact ⟨rfl, hB⟩
/-- split, of a tree that fits -/
theorem Tr.split {f : Int → Int} {a b at' : Int} {n : Nat} {W : World} {p : Option Addr} (h : Tr f a b n W p) (hx : Ctx f a b) (hn : n ≤ 50000) (h1 : a ≤ at') (h2 : at' ≤ b) :
    Calls Try.prog 75 #[.pointer p, .int .i64 at'] W fun e w' => ∃ x y, e = .returned (.tuple #[.pointer x, .pointer y]) ∧ Hid (Tr f a at' n w' x) ∧ Hid (Tr f at' b n w' y) ∧ Below W.heap.size W w' := by
  obtain ⟨t, t1, t2, t3⟩ := h
  refine (split_any f at' t a b p W t1 t2 hx (by omega)).mono ?_
  rintro e w' ⟨x, y, s1, s2, rfl, hX, hY, hT, hB⟩
  have hm : max a (min at' b) = at' := by omega
  rw [hm] at hT
  exact ⟨x, y, rfl, ⟨s1, hX.out, hT.out.1, by have := hT.out.2.2.1; omega⟩, ⟨s2, hY.out, hT.out.2.1, by have := hT.out.2.2.2; omega⟩, hB⟩
/-- join, of trees that fit -/
theorem Tr.join {f : Int → Int} {a b lo hi tag : Int} {n m : Nat} {W : World} {p q : Option Addr} (h : Tr f a lo n W p) (h' : Tr f hi b m W q) (hx : Ctx f a b) (hn : n + m ≤ 90000) (h1 : lo < hi) (h2 : ∀ x, lo ≤ x → x < hi → f x = tag) (h3 : a < lo → f (lo - 1) ≠ f lo) (h4 : hi < b → f (hi - 1) ≠ f hi) :
    Calls Try.prog 78 #[.pointer p, .agg #[.int .i64 lo, .int .i64 hi, .int .i64 tag], .pointer q] W fun e w' => ∃ g, e = .returned (.pointer (some ⟨g, 0, none⟩)) ∧ Hid (Tr f a b (n + m + 1) w' (some ⟨g, 0, none⟩)) ∧ Below W.heap.size W w' := by
  obtain ⟨t, t1, t2, t3⟩ := h
  obtain ⟨s, s1, s2, s3⟩ := h'
  have hm := Gs.Can.make (r := ⟨lo, hi, tag⟩) t2 s2 h1 h2 h3 h4
  refine (join_any t s lo hi tag p q W t1 s1 (bd_of hm.1 hx ?_)).mono ?_
  · have := t.sz_eq; have := s.sz_eq; simp; omega
  · rintro e w' ⟨g, r, rfl, hr, hL, hB⟩
    refine ⟨g, rfl, ⟨r, hr, by rw [hL]; exact hm, ?_⟩, hB⟩
    have := t.sz_eq; have := s.sz_eq
    rw [T.sz_eq, hL]; simp; omega
end Go.Proofs.Ytjbenhmpeceaeaa
namespace Go.Proofs.Ytjbenhmpeceaeaa
open Go Go.RowKit Gs

set_option maxRecDepth 100000 in
set_option maxHeartbeats 1000000 in
theorem glue_NN (f : Int → Int) (a b lo hi tag : Int) (n m : Nat) (p q : Option Addr) (W : World) (hl : Tr f a lo n W p) (hk : Tr f hi b m W q) (hx : Ctx f a b) (hn : n + m ≤ 40000) (h1 : lo < hi) (h2 : ∀ x, lo ≤ x → x < hi → f x = tag)
    (ep : p = none) (ea : a = lo)
    (eq : q = none) (eb : hi = b) :
    Calls Try.prog 68 #[.pointer p, .agg #[.int .i64 lo, .int .i64 hi, .int .i64 tag], .pointer q] W fun e w' => ∃ g, e = .returned (.pointer (some ⟨g, 0, none⟩)) ∧ Hid (Tr f a b (n + m + 1) w' (some ⟨g, 0, none⟩)) ∧ Below W.heap.size W w' := by
  have q1 := hl.le; have q2 := hk.le
  subst ep
  subst eq
  have HF : Hid (∀ x, lo ≤ x → x < hi → f x = tag) := by
    intro x x1 x2
    exact h2 x (by omega) (by omega)
  have HA : Hid (a < lo → f (lo - 1) ≠ f lo) := by
    intro h; omega
  have HZ : Hid (hi < b → f (hi - 1) ≠ f hi) := by
    intro h; omega
  have HL := Lib.hid hl; have HK := Lib.hid hk; have HX := Lib.hid hx
  have HJ : Hid (∀ x y W', Bq W lo hi tag W' → Tr f a lo n W' x → Tr f hi b m W' y → Calls Try.prog 78 #[.pointer x, .agg #[.int .i64 lo, .int .i64 hi, .int .i64 tag], .pointer y] W' fun e w' => ∃ g, e = .returned (.pointer (some ⟨g, 0, none⟩)) ∧ Hid (Tr f a b (n + m + 1) w' (some ⟨g, 0, none⟩)) ∧ Below W.heap.size W w') := fun x y W' h hX hY =>
    (hX.join hY hx (by omega) (by omega) HF.out HA.out HZ.out).mono fun e w' ⟨g, he, ht, hB⟩ => ⟨g, he, ht, h.bel.trans (hB.mono h.bel.size)⟩
  have HBQ : Hid (Bq W lo hi tag (W.alloc (.cells #[.int .i64 lo, .int .i64 hi, .int .i64 tag] 64))) := Bq.new W lo hi tag _
  clear hl hk hx hn h1 h2 q1 q2 ea eb
  go_enter Try.func68, Try.ntmps68
  go_wp2_with fail
  obtain ⟨w1, HW1⟩ : ∃ w1, w1 = W.alloc (.cells #[.int .i64 lo, .int .i64 hi, .int .i64 tag] 64) := ⟨_, rfl⟩
  rw [← HW1] at HBQ ⊢
  clear HW1
  have hq := HBQ.out
  have k2 := hq.c2
  go_quiet (fail)
  rename_i nq
  have hq' := hq.drewN nq
  clear hq k2
  generalize hw : World.drewN _ nq = w2 at hq' ⊢
  clear hw
  have hq := hq'
  clear hq'
  have k2 := hq.c2
  go_wp2_with fail
  go_quiet (fail)
  rename_i nq
  have hq' := hq.drewN nq
  clear hq k2
  generalize hw : World.drewN _ nq = w2 at hq' ⊢
  clear hw
  have hq := hq'
  clear hq'
  have k0 := hq.c0
  have k1 := hq.c1
  have k2 := hq.c2
  go_wp2_with fail
  refine (HJ.out _ _ _ hq (HL.out.below hq.bel) (HK.out.below hq.bel)).mono ?_
  rintro e w' ⟨g, rfl, HG, hb⟩
  have HB := Lib.hid hb
  clear hb hq k0 k1 k2
  go_wp2_with fail
  go_ret
  exact ⟨g, rfl, HG, HB.out⟩
set_option maxRecDepth 100000 in
set_option maxHeartbeats 1000000 in
theorem glue_ND (f : Int → Int) (a b lo hi tag : Int) (n m : Nat) (p q : Option Addr) (W : World) (hl : Tr f a lo n W p) (hk : Tr f hi b m W q) (hx : Ctx f a b) (hn : n + m ≤ 40000) (h1 : lo < hi) (h2 : ∀ x, lo ≤ x → x < hi → f x = tag)
    (ep : p = none) (ea : a = lo)
    (br : Nat) (zhi ztag : Int) (eq : q = some ⟨br, 0, none⟩) (hfirst : ∀ W', Below W.heap.size W W' → Calls Try.prog 77 #[.pointer (some ⟨br, 0, none⟩)] W' fun e w' => e = .returned (.agg #[.int .i64 hi, .int .i64 zhi, .int .i64 ztag]) ∧ Below W'.heap.size W' w') (z1 : hi < zhi) (_z2 : zhi ≤ b) (z3 : ∀ x, hi ≤ x → x < zhi → f x = ztag) (_z4 : zhi < b → f (zhi - 1) ≠ f zhi) (ze : ztag ≠ tag) :
    Calls Try.prog 68 #[.pointer p, .agg #[.int .i64 lo, .int .i64 hi, .int .i64 tag], .pointer q] W fun e w' => ∃ g, e = .returned (.pointer (some ⟨g, 0, none⟩)) ∧ Hid (Tr f a b (n + m + 1) w' (some ⟨g, 0, none⟩)) ∧ Below W.heap.size W w' := by
  have q1 := hl.le; have q2 := hk.le
  subst ep
  subst eq
  have HF : Hid (∀ x, lo ≤ x → x < hi → f x = tag) := by
    intro x x1 x2
    exact h2 x (by omega) (by omega)
  have HA : Hid (a < lo → f (lo - 1) ≠ f lo) := by
    intro h; omega
  have HZ : Hid (hi < b → f (hi - 1) ≠ f hi) := by
    intro _; rw [z3 hi (by omega) (by omega), h2 (hi - 1) (by omega) (by omega)]; exact fun h => ze h.symm
  have HL := Lib.hid hl; have HK := Lib.hid hk; have HX := Lib.hid hx
  have HFS : Hid (∀ u v W', Bq W u v tag W' → Calls Try.prog 77 #[.pointer (some ⟨br, 0, none⟩)] W' fun e w' => e = .returned (.agg #[.int .i64 hi, .int .i64 zhi, .int .i64 ztag]) ∧ Hid (Below W'.heap.size W' w') ∧ Bq W u v tag w') := fun u v W' h => (hfirst W' h.bel).mono fun e w' ⟨he, hB⟩ => ⟨he, hB, h.next hB⟩
  have HJ : Hid (∀ x y W', Bq W lo hi tag W' → Tr f a lo n W' x → Tr f hi b m W' y → Calls Try.prog 78 #[.pointer x, .agg #[.int .i64 lo, .int .i64 hi, .int .i64 tag], .pointer y] W' fun e w' => ∃ g, e = .returned (.pointer (some ⟨g, 0, none⟩)) ∧ Hid (Tr f a b (n + m + 1) w' (some ⟨g, 0, none⟩)) ∧ Below W.heap.size W w') := fun x y W' h hX hY =>
    (hX.join hY hx (by omega) (by omega) HF.out HA.out HZ.out).mono fun e w' ⟨g, he, ht, hB⟩ => ⟨g, he, ht, h.bel.trans (hB.mono h.bel.size)⟩
  have re : (ztag == tag) = false := by exact beq_eq_false_iff_ne.2 ze
  have hfl0 : ∀ (x y z : Int) (w : World), (Instr.field 64 (.agg #[.int .i64 x, .int .i64 y, .int .i64 z]) 0).run Try.prog w = .ok (.int .i64 x) w := fun _ _ _ _ => rfl
  have hfl1 : ∀ (x y z : Int) (w : World), (Instr.field 64 (.agg #[.int .i64 x, .int .i64 y, .int .i64 z]) 1).run Try.prog w = .ok (.int .i64 y) w := fun _ _ _ _ => rfl
  have hfl2 : ∀ (x y z : Int) (w : World), (Instr.field 64 (.agg #[.int .i64 x, .int .i64 y, .int .i64 z]) 2).run Try.prog w = .ok (.int .i64 z) w := fun _ _ _ _ => rfl
  have HBQ : Hid (Bq W lo hi tag (W.alloc (.cells #[.int .i64 lo, .int .i64 hi, .int .i64 tag] 64))) := Bq.new W lo hi tag _
  clear hl hk hx hn h1 h2 q1 q2 ea hfirst z1 _z2 z3 _z4 ze
  go_enter Try.func68, Try.ntmps68
  go_wp2_with fail
  obtain ⟨w1, HW1⟩ : ∃ w1, w1 = W.alloc (.cells #[.int .i64 lo, .int .i64 hi, .int .i64 tag] 64) := ⟨_, rfl⟩
  rw [← HW1] at HBQ ⊢
  clear HW1
  have hq := HBQ.out
  have k2 := hq.c2
  go_quiet (fail)
  rename_i nq
  have hq' := hq.drewN nq
  clear hq k2
  generalize hw : World.drewN _ nq = w2 at hq' ⊢
  clear hw
  have hq := hq'
  clear hq'
  have k2 := hq.c2
  go_wp2_with fail
  go_region_with ((go_at_call 77; with_reducible refine (HFS.out lo hi _ ?h).mono ?_; (case h => (first | assumption | exact Bq.drew (by assumption) | fail)); rintro e w' ⟨rfl, hbf, hq'⟩; have kc' := hq'.c2))
  all_goals
    clear hq k2 kc'
    have hq := hq'
    clear hq'
    have k0 := hq.c0
    have k1 := hq.c1
    have k2 := hq.c2
    go_wp2_with fail
    refine (HJ.out _ _ _ hq (HL.out.below hq.bel) (HK.out.below hq.bel)).mono ?_
    rintro e w' ⟨g, rfl, HG, hb⟩
    have HB := Lib.hid hb
    clear hb hq k0 k1 k2
    go_wp2_with fail
    go_ret
    exact ⟨g, rfl, HG, HB.out⟩
set_option maxRecDepth 100000 in
set_option maxHeartbeats 1000000 in
theorem glue_NS (f : Int → Int) (a b lo hi tag : Int) (n m : Nat) (p q : Option Addr) (W : World) (hl : Tr f a lo n W p) (hk : Tr f hi b m W q) (hx : Ctx f a b) (hn : n + m ≤ 40000) (h1 : lo < hi) (h2 : ∀ x, lo ≤ x → x < hi → f x = tag)
    (ep : p = none) (ea : a = lo)
    (br : Nat) (zhi ztag : Int) (eq : q = some ⟨br, 0, none⟩) (hfirst : ∀ W', Below W.heap.size W W' → Calls Try.prog 77 #[.pointer (some ⟨br, 0, none⟩)] W' fun e w' => e = .returned (.agg #[.int .i64 hi, .int .i64 zhi, .int .i64 ztag]) ∧ Below W'.heap.size W' w') (z1 : hi < zhi) (z2 : zhi ≤ b) (z3 : ∀ x, hi ≤ x → x < zhi → f x = ztag) (z4 : zhi < b → f (zhi - 1) ≠ f zhi) (ze : tag = ztag) :
    Calls Try.prog 68 #[.pointer p, .agg #[.int .i64 lo, .int .i64 hi, .int .i64 tag], .pointer q] W fun e w' => ∃ g, e = .returned (.pointer (some ⟨g, 0, none⟩)) ∧ Hid (Tr f a b (n + m + 1) w' (some ⟨g, 0, none⟩)) ∧ Below W.heap.size W w' := by
  have q1 := hl.le; have q2 := hk.le
  subst ep
  subst eq
  subst ze
  have HF : Hid (∀ x, lo ≤ x → x < zhi → f x = tag) := by
    intro x x1 x2
    by_cases g2 : hi ≤ x
    · exact z3 x g2 x2
    exact h2 x (by omega) (by omega)
  have HA : Hid (a < lo → f (lo - 1) ≠ f lo) := by
    intro h; omega
  have HZ : Hid (zhi < b → f (zhi - 1) ≠ f zhi) := by
    exact z4
  have HL := Lib.hid hl; have HK := Lib.hid hk; have HX := Lib.hid hx
  have HFS : Hid (∀ u v W', Bq W u v tag W' → Calls Try.prog 77 #[.pointer (some ⟨br, 0, none⟩)] W' fun e w' => e = .returned (.agg #[.int .i64 hi, .int .i64 zhi, .int .i64 tag]) ∧ Hid (Below W'.heap.size W' w') ∧ Bq W u v tag w') := fun u v W' h => (hfirst W' h.bel).mono fun e w' ⟨he, hB⟩ => ⟨he, hB, h.next hB⟩
  have HSR : Hid (∀ u v W', Bq W u v tag W' → Calls Try.prog 75 #[.pointer (some ⟨br, 0, none⟩), .int .i64 zhi] W' fun e w' => ∃ x y, e = .returned (.tuple #[.pointer x, .pointer y]) ∧ Hid (Tr f zhi b m w' y) ∧ Hid (Below W'.heap.size W' w') ∧ Bq W u v tag w') := fun u v W' h =>
    ((hk.below h.bel).split (hx.sub (by omega) (by omega)) (by omega) (by omega) z2).mono fun e w' ⟨x, y, he, hX, hY, hB⟩ => ⟨x, y, he, hY, hB, h.next hB⟩
  have HJ : Hid (∀ x y W', Bq W lo zhi tag W' → Tr f a lo n W' x → Tr f zhi b m W' y → Calls Try.prog 78 #[.pointer x, .agg #[.int .i64 lo, .int .i64 zhi, .int .i64 tag], .pointer y] W' fun e w' => ∃ g, e = .returned (.pointer (some ⟨g, 0, none⟩)) ∧ Hid (Tr f a b (n + m + 1) w' (some ⟨g, 0, none⟩)) ∧ Below W.heap.size W w') := fun x y W' h hX hY =>
    (hX.join hY hx (by omega) (by omega) HF.out HA.out HZ.out).mono fun e w' ⟨g, he, ht, hB⟩ => ⟨g, he, ht, h.bel.trans (hB.mono h.bel.size)⟩
  have hfl0 : ∀ (x y z : Int) (w : World), (Instr.field 64 (.agg #[.int .i64 x, .int .i64 y, .int .i64 z]) 0).run Try.prog w = .ok (.int .i64 x) w := fun _ _ _ _ => rfl
  have hfl1 : ∀ (x y z : Int) (w : World), (Instr.field 64 (.agg #[.int .i64 x, .int .i64 y, .int .i64 z]) 1).run Try.prog w = .ok (.int .i64 y) w := fun _ _ _ _ => rfl
  have hfl2 : ∀ (x y z : Int) (w : World), (Instr.field 64 (.agg #[.int .i64 x, .int .i64 y, .int .i64 z]) 2).run Try.prog w = .ok (.int .i64 z) w := fun _ _ _ _ => rfl
  have HBQ : Hid (Bq W lo hi tag (W.alloc (.cells #[.int .i64 lo, .int .i64 hi, .int .i64 tag] 64))) := Bq.new W lo hi tag _
  clear hl hk hx hn h1 h2 q1 q2 ea hfirst z1 z2 z3 z4
  go_enter Try.func68, Try.ntmps68
  go_wp2_with fail
  obtain ⟨w1, HW1⟩ : ∃ w1, w1 = W.alloc (.cells #[.int .i64 lo, .int .i64 hi, .int .i64 tag] 64) := ⟨_, rfl⟩
  rw [← HW1] at HBQ ⊢
  clear HW1
  have hq := HBQ.out
  have k2 := hq.c2
  go_quiet (fail)
  rename_i nq
  have hq' := hq.drewN nq
  clear hq k2
  generalize hw : World.drewN _ nq = w2 at hq' ⊢
  clear hw
  have hq := hq'
  clear hq'
  have k2 := hq.c2
  go_wp2_with fail
  go_region_with ((go_at_call 77; with_reducible refine (HFS.out lo hi _ ?h).mono ?_; (case h => (first | assumption | exact Bq.drew (by assumption) | fail)); rintro e w' ⟨rfl, hbf, hq'⟩; have kc' := hq'.c2))
  all_goals
    clear hq k2 kc'
    have hq := hq'
    clear hq'
    go_wp2_with fail
    refine (HFS.out _ _ _ hq).mono ?_
    rintro e w7 ⟨rfl, hb7, hq3⟩
    clear hq
    have j0 := hq3.c1
    have j1 := hq3.f1
    have hq4 := hq3.put1 zhi
    have j2 := hq4.c1
    go_wp2_with fail
    refine (HSR.out _ _ _ hq4).mono ?_
    rintro e w9 ⟨y', y, rfl, HTY, hb9, hq⟩
    clear j0 j1 j2
    have k0 := hq.c0
    have k1 := hq.c1
    have k2 := hq.c2
    go_wp2_with fail
    refine (HJ.out _ _ _ hq (HL.out.below hq.bel) HTY.out).mono ?_
    rintro e w' ⟨g, rfl, HG, hb⟩
    have HB := Lib.hid hb
    clear hb hq k0 k1 k2
    go_wp2_with fail
    go_ret
    exact ⟨g, rfl, HG, HB.out⟩
end Go.Proofs.Ytjbenhmpeceaeaa
namespace Go.Proofs.Ytjbenhmpeceaeaa
open Go Go.RowKit Gs

set_option maxRecDepth 100000 in
set_option maxHeartbeats 1000000 in
theorem glue_DN (f : Int → Int) (a b lo hi tag : Int) (n m : Nat) (p q : Option Addr) (W : World) (hl : Tr f a lo n W p) (hk : Tr f hi b m W q) (hx : Ctx f a b) (hn : n + m ≤ 40000) (h1 : lo < hi) (h2 : ∀ x, lo ≤ x → x < hi → f x = tag)
    (bl : Nat) (ylo ytag : Int) (ep : p = some ⟨bl, 0, none⟩) (hlast : ∀ W', Below W.heap.size W W' → Calls Try.prog 76 #[.pointer (some ⟨bl, 0, none⟩)] W' fun e w' => e = .returned (.agg #[.int .i64 ylo, .int .i64 lo, .int .i64 ytag]) ∧ Below W'.heap.size W' w') (y1 : ylo < lo) (_y2 : a ≤ ylo) (y3 : ∀ x, ylo ≤ x → x < lo → f x = ytag) (_y4 : a < ylo → f (ylo - 1) ≠ f ylo) (ye : ytag ≠ tag)
    (eq : q = none) (eb : hi = b) :
    Calls Try.prog 68 #[.pointer p, .agg #[.int .i64 lo, .int .i64 hi, .int .i64 tag], .pointer q] W fun e w' => ∃ g, e = .returned (.pointer (some ⟨g, 0, none⟩)) ∧ Hid (Tr f a b (n + m + 1) w' (some ⟨g, 0, none⟩)) ∧ Below W.heap.size W w' := by
  have q1 := hl.le; have q2 := hk.le
  subst ep
  subst eq
  have HF : Hid (∀ x, lo ≤ x → x < hi → f x = tag) := by
    intro x x1 x2
    exact h2 x (by omega) (by omega)
  have HA : Hid (a < lo → f (lo - 1) ≠ f lo) := by
    intro _; rw [y3 (lo - 1) (by omega) (by omega), h2 lo (by omega) (by omega)]; exact ye
  have HZ : Hid (hi < b → f (hi - 1) ≠ f hi) := by
    intro h; omega
  have HL := Lib.hid hl; have HK := Lib.hid hk; have HX := Lib.hid hx
  have HLS : Hid (∀ u v W', Bq W u v tag W' → Calls Try.prog 76 #[.pointer (some ⟨bl, 0, none⟩)] W' fun e w' => e = .returned (.agg #[.int .i64 ylo, .int .i64 lo, .int .i64 ytag]) ∧ Bq W u v tag w') := fun u v W' h => (hlast W' h.bel).mono fun e w' ⟨he, hB⟩ => ⟨he, h.next hB⟩
  have HJ : Hid (∀ x y W', Bq W lo hi tag W' → Tr f a lo n W' x → Tr f hi b m W' y → Calls Try.prog 78 #[.pointer x, .agg #[.int .i64 lo, .int .i64 hi, .int .i64 tag], .pointer y] W' fun e w' => ∃ g, e = .returned (.pointer (some ⟨g, 0, none⟩)) ∧ Hid (Tr f a b (n + m + 1) w' (some ⟨g, 0, none⟩)) ∧ Below W.heap.size W w') := fun x y W' h hX hY =>
    (hX.join hY hx (by omega) (by omega) HF.out HA.out HZ.out).mono fun e w' ⟨g, he, ht, hB⟩ => ⟨g, he, ht, h.bel.trans (hB.mono h.bel.size)⟩
  have le : (ytag == tag) = false := by exact beq_eq_false_iff_ne.2 ye
  have hfl0 : ∀ (x y z : Int) (w : World), (Instr.field 64 (.agg #[.int .i64 x, .int .i64 y, .int .i64 z]) 0).run Try.prog w = .ok (.int .i64 x) w := fun _ _ _ _ => rfl
  have hfl1 : ∀ (x y z : Int) (w : World), (Instr.field 64 (.agg #[.int .i64 x, .int .i64 y, .int .i64 z]) 1).run Try.prog w = .ok (.int .i64 y) w := fun _ _ _ _ => rfl
  have hfl2 : ∀ (x y z : Int) (w : World), (Instr.field 64 (.agg #[.int .i64 x, .int .i64 y, .int .i64 z]) 2).run Try.prog w = .ok (.int .i64 z) w := fun _ _ _ _ => rfl
  have HBQ : Hid (Bq W lo hi tag (W.alloc (.cells #[.int .i64 lo, .int .i64 hi, .int .i64 tag] 64))) := Bq.new W lo hi tag _
  clear hl hk hx hn h1 h2 q1 q2 hlast y1 _y2 y3 _y4 ye eb
  go_enter Try.func68, Try.ntmps68
  go_wp2_with fail
  obtain ⟨w1, HW1⟩ : ∃ w1, w1 = W.alloc (.cells #[.int .i64 lo, .int .i64 hi, .int .i64 tag] 64) := ⟨_, rfl⟩
  rw [← HW1] at HBQ ⊢
  clear HW1
  have hq := HBQ.out
  have k2 := hq.c2
  go_region_with ((go_at_call 76; with_reducible refine (HLS.out lo hi _ ?h).mono ?_; (case h => (first | assumption | exact Bq.drew (by assumption) | fail)); rintro e w' ⟨rfl, hq'⟩; have kc' := hq'.c2))
  all_goals
    clear hq k2 kc'
    have hq := hq'
    clear hq'
    clear le
    have k2 := hq.c2
    go_wp2_with fail
    go_quiet (fail)
    rename_i nq
    have hq' := hq.drewN nq
    clear hq k2
    generalize hw : World.drewN _ nq = w2 at hq' ⊢
    clear hw
    have hq := hq'
    clear hq'
    have k0 := hq.c0
    have k1 := hq.c1
    have k2 := hq.c2
    go_wp2_with fail
    refine (HJ.out _ _ _ hq (HL.out.below hq.bel) (HK.out.below hq.bel)).mono ?_
    rintro e w' ⟨g, rfl, HG, hb⟩
    have HB := Lib.hid hb
    clear hb hq k0 k1 k2
    go_wp2_with fail
    go_ret
    exact ⟨g, rfl, HG, HB.out⟩
set_option maxRecDepth 100000 in
set_option maxHeartbeats 1000000 in
theorem glue_DD (f : Int → Int) (a b lo hi tag : Int) (n m : Nat) (p q : Option Addr) (W : World) (hl : Tr f a lo n W p) (hk : Tr f hi b m W q) (hx : Ctx f a b) (hn : n + m ≤ 40000) (h1 : lo < hi) (h2 : ∀ x, lo ≤ x → x < hi → f x = tag)
    (bl : Nat) (ylo ytag : Int) (ep : p = some ⟨bl, 0, none⟩) (hlast : ∀ W', Below W.heap.size W W' → Calls Try.prog 76 #[.pointer (some ⟨bl, 0, none⟩)] W' fun e w' => e = .returned (.agg #[.int .i64 ylo, .int .i64 lo, .int .i64 ytag]) ∧ Below W'.heap.size W' w') (y1 : ylo < lo) (_y2 : a ≤ ylo) (y3 : ∀ x, ylo ≤ x → x < lo → f x = ytag) (_y4 : a < ylo → f (ylo - 1) ≠ f ylo) (ye : ytag ≠ tag)
    (br : Nat) (zhi ztag : Int) (eq : q = some ⟨br, 0, none⟩) (hfirst : ∀ W', Below W.heap.size W W' → Calls Try.prog 77 #[.pointer (some ⟨br, 0, none⟩)] W' fun e w' => e = .returned (.agg #[.int .i64 hi, .int .i64 zhi, .int .i64 ztag]) ∧ Below W'.heap.size W' w') (z1 : hi < zhi) (_z2 : zhi ≤ b) (z3 : ∀ x, hi ≤ x → x < zhi → f x = ztag) (_z4 : zhi < b → f (zhi - 1) ≠ f zhi) (ze : ztag ≠ tag) :
    Calls Try.prog 68 #[.pointer p, .agg #[.int .i64 lo, .int .i64 hi, .int .i64 tag], .pointer q] W fun e w' => ∃ g, e = .returned (.pointer (some ⟨g, 0, none⟩)) ∧ Hid (Tr f a b (n + m + 1) w' (some ⟨g, 0, none⟩)) ∧ Below W.heap.size W w' := by
  have q1 := hl.le; have q2 := hk.le
  subst ep
  subst eq
  have HF : Hid (∀ x, lo ≤ x → x < hi → f x = tag) := by
    intro x x1 x2
    exact h2 x (by omega) (by omega)
  have HA : Hid (a < lo → f (lo - 1) ≠ f lo) := by
    intro _; rw [y3 (lo - 1) (by omega) (by omega), h2 lo (by omega) (by omega)]; exact ye
  have HZ : Hid (hi < b → f (hi - 1) ≠ f hi) := by
    intro _; rw [z3 hi (by omega) (by omega), h2 (hi - 1) (by omega) (by omega)]; exact fun h => ze h.symm
  have HL := Lib.hid hl; have HK := Lib.hid hk; have HX := Lib.hid hx
  have HLS : Hid (∀ u v W', Bq W u v tag W' → Calls Try.prog 76 #[.pointer (some ⟨bl, 0, none⟩)] W' fun e w' => e = .returned (.agg #[.int .i64 ylo, .int .i64 lo, .int .i64 ytag]) ∧ Bq W u v tag w') := fun u v W' h => (hlast W' h.bel).mono fun e w' ⟨he, hB⟩ => ⟨he, h.next hB⟩
  have HFS : Hid (∀ u v W', Bq W u v tag W' → Calls Try.prog 77 #[.pointer (some ⟨br, 0, none⟩)] W' fun e w' => e = .returned (.agg #[.int .i64 hi, .int .i64 zhi, .int .i64 ztag]) ∧ Hid (Below W'.heap.size W' w') ∧ Bq W u v tag w') := fun u v W' h => (hfirst W' h.bel).mono fun e w' ⟨he, hB⟩ => ⟨he, hB, h.next hB⟩
  have HJ : Hid (∀ x y W', Bq W lo hi tag W' → Tr f a lo n W' x → Tr f hi b m W' y → Calls Try.prog 78 #[.pointer x, .agg #[.int .i64 lo, .int .i64 hi, .int .i64 tag], .pointer y] W' fun e w' => ∃ g, e = .returned (.pointer (some ⟨g, 0, none⟩)) ∧ Hid (Tr f a b (n + m + 1) w' (some ⟨g, 0, none⟩)) ∧ Below W.heap.size W w') := fun x y W' h hX hY =>
    (hX.join hY hx (by omega) (by omega) HF.out HA.out HZ.out).mono fun e w' ⟨g, he, ht, hB⟩ => ⟨g, he, ht, h.bel.trans (hB.mono h.bel.size)⟩
  have le : (ytag == tag) = false := by exact beq_eq_false_iff_ne.2 ye
  have re : (ztag == tag) = false := by exact beq_eq_false_iff_ne.2 ze
  have hfl0 : ∀ (x y z : Int) (w : World), (Instr.field 64 (.agg #[.int .i64 x, .int .i64 y, .int .i64 z]) 0).run Try.prog w = .ok (.int .i64 x) w := fun _ _ _ _ => rfl
  have hfl1 : ∀ (x y z : Int) (w : World), (Instr.field 64 (.agg #[.int .i64 x, .int .i64 y, .int .i64 z]) 1).run Try.prog w = .ok (.int .i64 y) w := fun _ _ _ _ => rfl
  have hfl2 : ∀ (x y z : Int) (w : World), (Instr.field 64 (.agg #[.int .i64 x, .int .i64 y, .int .i64 z]) 2).run Try.prog w = .ok (.int .i64 z) w := fun _ _ _ _ => rfl
  have HBQ : Hid (Bq W lo hi tag (W.alloc (.cells #[.int .i64 lo, .int .i64 hi, .int .i64 tag] 64))) := Bq.new W lo hi tag _
  clear hl hk hx hn h1 h2 q1 q2 hlast y1 _y2 y3 _y4 ye hfirst z1 _z2 z3 _z4 ze
  go_enter Try.func68, Try.ntmps68
  go_wp2_with fail
  obtain ⟨w1, HW1⟩ : ∃ w1, w1 = W.alloc (.cells #[.int .i64 lo, .int .i64 hi, .int .i64 tag] 64) := ⟨_, rfl⟩
  rw [← HW1] at HBQ ⊢
  clear HW1
  have hq := HBQ.out
  have k2 := hq.c2
  go_region_with ((go_at_call 76; with_reducible refine (HLS.out lo hi _ ?h).mono ?_; (case h => (first | assumption | exact Bq.drew (by assumption) | fail)); rintro e w' ⟨rfl, hq'⟩; have kc' := hq'.c2))
  all_goals
    clear hq k2 kc'
    have hq := hq'
    clear hq'
    clear le
    have k2 := hq.c2
    go_wp2_with fail
    go_simp
    go_region_with ((go_at_call 77; with_reducible refine (HFS.out lo hi _ ?h).mono ?_; (case h => (first | assumption | exact Bq.drew (by assumption) | fail)); rintro e w' ⟨rfl, hbf, hq'⟩; have kc' := hq'.c2))
    all_goals
      clear hq k2 kc'
      have hq := hq'
      clear hq'
      have k0 := hq.c0
      have k1 := hq.c1
      have k2 := hq.c2
      go_wp2_with fail
      refine (HJ.out _ _ _ hq (HL.out.below hq.bel) (HK.out.below hq.bel)).mono ?_
      rintro e w' ⟨g, rfl, HG, hb⟩
      have HB := Lib.hid hb
      clear hb hq k0 k1 k2
      go_wp2_with fail
      go_ret
      exact ⟨g, rfl, HG, HB.out⟩
set_option maxRecDepth 100000 in
set_option maxHeartbeats 1000000 in
theorem glue_DS (f : Int → Int) (a b lo hi tag : Int) (n m : Nat) (p q : Option Addr) (W : World) (hl : Tr f a lo n W p) (hk : Tr f hi b m W q) (hx : Ctx f a b) (hn : n + m ≤ 40000) (h1 : lo < hi) (h2 : ∀ x, lo ≤ x → x < hi → f x = tag)
    (bl : Nat) (ylo ytag : Int) (ep : p = some ⟨bl, 0, none⟩) (hlast : ∀ W', Below W.heap.size W W' → Calls Try.prog 76 #[.pointer (some ⟨bl, 0, none⟩)] W' fun e w' => e = .returned (.agg #[.int .i64 ylo, .int .i64 lo, .int .i64 ytag]) ∧ Below W'.heap.size W' w') (y1 : ylo < lo) (_y2 : a ≤ ylo) (y3 : ∀ x, ylo ≤ x → x < lo → f x = ytag) (_y4 : a < ylo → f (ylo - 1) ≠ f ylo) (ye : ytag ≠ tag)
    (br : Nat) (zhi ztag : Int) (eq : q = some ⟨br, 0, none⟩) (hfirst : ∀ W', Below W.heap.size W W' → Calls Try.prog 77 #[.pointer (some ⟨br, 0, none⟩)] W' fun e w' => e = .returned (.agg #[.int .i64 hi, .int .i64 zhi, .int .i64 ztag]) ∧ Below W'.heap.size W' w') (z1 : hi < zhi) (z2 : zhi ≤ b) (z3 : ∀ x, hi ≤ x → x < zhi → f x = ztag) (z4 : zhi < b → f (zhi - 1) ≠ f zhi) (ze : tag = ztag) :
    Calls Try.prog 68 #[.pointer p, .agg #[.int .i64 lo, .int .i64 hi, .int .i64 tag], .pointer q] W fun e w' => ∃ g, e = .returned (.pointer (some ⟨g, 0, none⟩)) ∧ Hid (Tr f a b (n + m + 1) w' (some ⟨g, 0, none⟩)) ∧ Below W.heap.size W w' := by
  have q1 := hl.le; have q2 := hk.le
  subst ep
  subst eq
  subst ze
  have HF : Hid (∀ x, lo ≤ x → x < zhi → f x = tag) := by
    intro x x1 x2
    by_cases g2 : hi ≤ x
    · exact z3 x g2 x2
    exact h2 x (by omega) (by omega)
  have HA : Hid (a < lo → f (lo - 1) ≠ f lo) := by
    intro _; rw [y3 (lo - 1) (by omega) (by omega), h2 lo (by omega) (by omega)]; exact ye
  have HZ : Hid (zhi < b → f (zhi - 1) ≠ f zhi) := by
    exact z4
  have HL := Lib.hid hl; have HK := Lib.hid hk; have HX := Lib.hid hx
  have HLS : Hid (∀ u v W', Bq W u v tag W' → Calls Try.prog 76 #[.pointer (some ⟨bl, 0, none⟩)] W' fun e w' => e = .returned (.agg #[.int .i64 ylo, .int .i64 lo, .int .i64 ytag]) ∧ Bq W u v tag w') := fun u v W' h => (hlast W' h.bel).mono fun e w' ⟨he, hB⟩ => ⟨he, h.next hB⟩
  have HFS : Hid (∀ u v W', Bq W u v tag W' → Calls Try.prog 77 #[.pointer (some ⟨br, 0, none⟩)] W' fun e w' => e = .returned (.agg #[.int .i64 hi, .int .i64 zhi, .int .i64 tag]) ∧ Hid (Below W'.heap.size W' w') ∧ Bq W u v tag w') := fun u v W' h => (hfirst W' h.bel).mono fun e w' ⟨he, hB⟩ => ⟨he, hB, h.next hB⟩
  have HSR : Hid (∀ u v W', Bq W u v tag W' → Calls Try.prog 75 #[.pointer (some ⟨br, 0, none⟩), .int .i64 zhi] W' fun e w' => ∃ x y, e = .returned (.tuple #[.pointer x, .pointer y]) ∧ Hid (Tr f zhi b m w' y) ∧ Hid (Below W'.heap.size W' w') ∧ Bq W u v tag w') := fun u v W' h =>
    ((hk.below h.bel).split (hx.sub (by omega) (by omega)) (by omega) (by omega) z2).mono fun e w' ⟨x, y, he, hX, hY, hB⟩ => ⟨x, y, he, hY, hB, h.next hB⟩
  have HJ : Hid (∀ x y W', Bq W lo zhi tag W' → Tr f a lo n W' x → Tr f zhi b m W' y → Calls Try.prog 78 #[.pointer x, .agg #[.int .i64 lo, .int .i64 zhi, .int .i64 tag], .pointer y] W' fun e w' => ∃ g, e = .returned (.pointer (some ⟨g, 0, none⟩)) ∧ Hid (Tr f a b (n + m + 1) w' (some ⟨g, 0, none⟩)) ∧ Below W.heap.size W w') := fun x y W' h hX hY =>
    (hX.join hY hx (by omega) (by omega) HF.out HA.out HZ.out).mono fun e w' ⟨g, he, ht, hB⟩ => ⟨g, he, ht, h.bel.trans (hB.mono h.bel.size)⟩
  have le : (ytag == tag) = false := by exact beq_eq_false_iff_ne.2 ye
  have hfl0 : ∀ (x y z : Int) (w : World), (Instr.field 64 (.agg #[.int .i64 x, .int .i64 y, .int .i64 z]) 0).run Try.prog w = .ok (.int .i64 x) w := fun _ _ _ _ => rfl
  have hfl1 : ∀ (x y z : Int) (w : World), (Instr.field 64 (.agg #[.int .i64 x, .int .i64 y, .int .i64 z]) 1).run Try.prog w = .ok (.int .i64 y) w := fun _ _ _ _ => rfl
  have hfl2 : ∀ (x y z : Int) (w : World), (Instr.field 64 (.agg #[.int .i64 x, .int .i64 y, .int .i64 z]) 2).run Try.prog w = .ok (.int .i64 z) w := fun _ _ _ _ => rfl
  have HBQ : Hid (Bq W lo hi tag (W.alloc (.cells #[.int .i64 lo, .int .i64 hi, .int .i64 tag] 64))) := Bq.new W lo hi tag _
  clear hl hk hx hn h1 h2 q1 q2 hlast y1 _y2 y3 _y4 ye hfirst z1 z2 z3 z4
  go_enter Try.func68, Try.ntmps68
  go_wp2_with fail
  obtain ⟨w1, HW1⟩ : ∃ w1, w1 = W.alloc (.cells #[.int .i64 lo, .int .i64 hi, .int .i64 tag] 64) := ⟨_, rfl⟩
  rw [← HW1] at HBQ ⊢
  clear HW1
  have hq := HBQ.out
  have k2 := hq.c2
  go_region_with ((go_at_call 76; with_reducible refine (HLS.out lo hi _ ?h).mono ?_; (case h => (first | assumption | exact Bq.drew (by assumption) | fail)); rintro e w' ⟨rfl, hq'⟩; have kc' := hq'.c2))
  all_goals
    clear hq k2 kc'
    have hq := hq'
    clear hq'
    clear le
    have k2 := hq.c2
    go_wp2_with fail
    go_simp
    go_region_with ((go_at_call 77; with_reducible refine (HFS.out lo hi _ ?h).mono ?_; (case h => (first | assumption | exact Bq.drew (by assumption) | fail)); rintro e w' ⟨rfl, hbf, hq'⟩; have kc' := hq'.c2))
    all_goals
      clear hq k2 kc'
      have hq := hq'
      clear hq'
      go_wp2_with fail
      refine (HFS.out _ _ _ hq).mono ?_
      rintro e w7 ⟨rfl, hb7, hq3⟩
      clear hq
      have j0 := hq3.c1
      have j1 := hq3.f1
      have hq4 := hq3.put1 zhi
      have j2 := hq4.c1
      go_wp2_with fail
      refine (HSR.out _ _ _ hq4).mono ?_
      rintro e w9 ⟨y', y, rfl, HTY, hb9, hq⟩
      clear j0 j1 j2
      have k0 := hq.c0
      have k1 := hq.c1
      have k2 := hq.c2
      go_wp2_with fail
      refine (HJ.out _ _ _ hq (HL.out.below hq.bel) HTY.out).mono ?_
      rintro e w' ⟨g, rfl, HG, hb⟩
      have HB := Lib.hid hb
      clear hb hq k0 k1 k2
      go_wp2_with fail
      go_ret
      exact ⟨g, rfl, HG, HB.out⟩
end Go.Proofs.Ytjbenhmpeceaeaa
