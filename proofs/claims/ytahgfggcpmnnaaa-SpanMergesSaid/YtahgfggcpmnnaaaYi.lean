/- The contracts of balance, for all trees, and of join. -/
import Derived.Test.YtahgfggcpmnnaaaYh
namespace Go.Proofs.Ytahgfggcpmnnaaa
open Go Go.RowKit Gs

set_option maxHeartbeats 1000000 in
theorem balance_O (l k : T) (lo hi tag : Int) (p y : Option Addr) (W : World) (hl : IsT W l (.pointer p)) (hk : IsT W k (.pointer y)) (hb : Bd (l.L ++ ⟨lo, hi, tag⟩ :: k.L)) (h1 : (l.tall : Int) - k.tall ≠ 2) (h2 : (l.tall : Int) - k.tall ≠ -2) :
    Calls Try.prog 80 #[.pointer p, .agg #[.int .i64 lo, .int .i64 hi, .int .i64 tag], .pointer y] W (TreeOf W (l.L ++ ⟨lo, hi, tag⟩ :: k.L)) := by
  have hsz := hb.1
  simp at hsz
  have htl := l.tall_le; have htk := k.tall_le
  rw [T.sz_eq] at htl htk
  have hP : ∀ W', Below W.heap.size W W' → True := fun _ _ => trivial
  obtain ⟨W0, HW, hb0, hs0, hall⟩ := box_later (Ty := 64) (lo := lo) (hi := hi) (tag := tag) hP
  have HTL : Hid (∀ W', Below W0.heap.size W0 W' → Calls Try.prog 79 #[.pointer p] W' fun e w' => e = .returned (.int .i64 l.tall) ∧ W' = w') := fun W' h => tall_any _ _ _ (IsT.below h (IsT.below hb0 hl))
  have HTK : Hid (∀ W', Below W0.heap.size W0 W' → Calls Try.prog 79 #[.pointer y] W' fun e w' => e = .returned (.int .i64 k.tall) ∧ W' = w') := fun W' h => tall_any _ _ _ (IsT.below h (IsT.below hb0 hk))
  have HNN : Hid (∀ W', Below W0.heap.size W0 W' → Calls Try.prog 74 #[.pointer p, .agg #[.int .i64 lo, .int .i64 hi, .int .i64 tag], .pointer y] W' fun e w' => ∃ g t, e = .returned (.pointer (some ⟨g, 0, none⟩)) ∧ IsT w' t (.pointer (some ⟨g, 0, none⟩)) ∧ Hid (t.L = l.L ++ ⟨lo, hi, tag⟩ :: k.L) ∧ Below W0.heap.size W0 w') := fun W' h =>
    (newNode_any l k lo hi tag _ _ W' (IsT.below h (IsT.below hb0 hl)) (IsT.below h (IsT.below hb0 hk)) hb).mono fun e w' ⟨g, he, ht, hB⟩ => ⟨g, _, he, ht, by show _ = _; simp [T.L], h.trans (hB.mono h.size)⟩
  have HALL := Lib.hid hall
  have HW0 := Lib.hid HW
  have HB0 := Lib.hid hb0
  clear HW hall hl hk hb hb0
  have he2 : ((l.tall : Int) - k.tall == 2) = false := beq_eq_false_iff_ne.2 h1
  have he3 : ((l.tall : Int) - k.tall == -2) = false := beq_eq_false_iff_ne.2 h2
  clear h1 h2
  generalize l.tall = tl at *
  generalize k.tall = tk at *
  have hq1 : tl ≤ 100001 := by omega
  have hq2 : tk ≤ 100001 := by omega
  go_enter Try.func80, Try.ntmps80
  go_wp2_with fail
  rw [← HW0.out]
  refine (HTL.out _ (Below.refl _ _)).mono ?_
  rintro e w1 ⟨rfl, rfl⟩
  go_wp2_with fail
  refine (HTK.out _ (Below.refl _ _)).mono ?_
  rintro e w1 ⟨rfl, rfl⟩
  have hs : Below W0.heap.size W0 W0 := Below.refl _ _
  have hc0 := HALL.out _ hs
  unfold Bs at hc0 HALL
  go_wp2_with fail
  refine (HNN.out _ hs).mono ?_
  rintro e w2 ⟨g, t, rfl, hgt, HTE, hB⟩
  have HT := Lib.hid hgt
  have HB := Lib.hid (HB0.out.trans (hB.mono (Nat.le_of_lt hs0)))
  clear hgt hB
  go_wp2_with fail
  go_ret
  exact ⟨g, t, rfl, HT.out, HTE.out, HB.out⟩
theorem balance_any (l k : T) (lo hi tag : Int) (p y : Option Addr) (W : World) (hl : IsT W l (.pointer p)) (hk : IsT W k (.pointer y)) (hb : Bd (l.L ++ ⟨lo, hi, tag⟩ :: k.L)) :
    Calls Try.prog 80 #[.pointer p, .agg #[.int .i64 lo, .int .i64 hi, .int .i64 tag], .pointer y] W (TreeOf W (l.L ++ ⟨lo, hi, tag⟩ :: k.L)) := by
  by_cases h1 : (l.tall : Int) - k.tall = 2
  · obtain ⟨c, ⟨lo2, hi2, tag2⟩, d, rfl⟩ := tall_pos (t := l) (by omega)
    have hb' : Bd (c.L ++ ⟨lo2, hi2, tag2⟩ :: (d.L ++ ⟨lo, hi, tag⟩ :: k.L)) := by simpa [T.L] using hb
    by_cases h : d.tall ≤ c.tall
    · exact balance_LL c d k lo hi tag lo2 hi2 tag2 p y W hl hk hb' h1 h
    · exact balance_LR c d k lo hi tag lo2 hi2 tag2 p y W hl hk hb' h1 (by omega)
  · by_cases h2 : (l.tall : Int) - k.tall = -2
    · obtain ⟨c, ⟨lo2, hi2, tag2⟩, d, rfl⟩ := tall_pos (t := k) (by omega)
      have hb' : Bd ((l.L ++ ⟨lo, hi, tag⟩ :: c.L) ++ ⟨lo2, hi2, tag2⟩ :: d.L) := by simpa [T.L] using hb
      by_cases h : c.tall ≤ d.tall
      · exact balance_RR c d l lo hi tag lo2 hi2 tag2 y p W hk hl hb' h2 h
      · exact balance_RL c d l lo hi tag lo2 hi2 tag2 y p W hk hl hb' h2 (by omega)
    · exact balance_O l k lo hi tag p y W hl hk hb h1 h2
end Go.Proofs.Ytahgfggcpmnnaaa
