/- The contracts of raiseLeft, raiseRight. -/
import Derived.Test.YtahgfggcpmnnaaaYf
import Derived.Deep.RegionHeld3
namespace Go.Proofs.Ytahgfggcpmnnaaa
open Go Go.RowKit Gs

/-- the five cells that are read of a node -/
def Cs (b : Nat) (x : Option Addr) (lo hi tag : Int) (y : Option Addr) (W' : World) : Prop :=
  W'.cell? ⟨b, 0, none⟩ = some (.pointer x) ∧ W'.cell? ⟨b, 1, none⟩ = some (.int .i64 lo) ∧ W'.cell? ⟨b, 2, none⟩ = some (.int .i64 hi) ∧ W'.cell? ⟨b, 3, none⟩ = some (.int .i64 tag) ∧ W'.cell? ⟨b, 4, none⟩ = some (.pointer y)
/-- a tree that is no nil, opened -/
theorem IsT.open {W : World} {l k : T} {lo hi tag : Int} {p : Option Addr} (h : IsT W (.node l ⟨lo, hi, tag⟩ k) (.pointer p)) :
    ∃ b x y, p = some ⟨b, 0, none⟩ ∧ b < W.heap.size ∧ IsT W l (.pointer x) ∧ IsT W k (.pointer y) ∧ ∀ W', Below W.heap.size W W' → Cs b x lo hi tag y W' := by
  obtain ⟨b, x, y, e, hr, h1, h2⟩ := h
  obtain ⟨px, rfl⟩ := h1.ptr
  obtain ⟨py, rfl⟩ := h2.ptr
  injection e with e
  refine ⟨b, px, py, e, hr.lt, h1, h2, fun W' hb => ?_⟩
  have hr' := hr.of_block (hb.block b hr.lt)
  exact ⟨hr'.cell (i := 0) (by decide), hr'.cell (i := 1) (by decide), hr'.cell (i := 2) (by decide), hr'.cell (i := 3) (by decide), hr'.cell (i := 4) (by decide)⟩
/-- the box of a run -/
def Bs (B : Nat) (lo hi tag : Int) (W' : World) : Prop := W'.cell? ⟨B, 0, none⟩ = some (.int .i64 lo) ∧ W'.cell? ⟨B, 1, none⟩ = some (.int .i64 hi) ∧ W'.cell? ⟨B, 2, none⟩ = some (.int .i64 tag)
theorem Bs.new (W : World) (lo hi tag : Int) (Ty : TypeId) : Bs W.heap.size lo hi tag (W.alloc (.cells #[.int .i64 lo, .int .i64 hi, .int .i64 tag] Ty)) :=
  ⟨World.cell?_alloc_at _ _ _ _ rfl, World.cell?_alloc_at _ _ _ _ rfl, World.cell?_alloc_at _ _ _ _ rfl⟩
theorem Bs.next {B : Nat} {lo hi tag : Int} {W W' : World} (h : Bs B lo hi tag W) (hB : B < W.heap.size) (hb : Below W.heap.size W W') : Bs B lo hi tag W' :=
  ⟨(hb.cell (p := ⟨B, 0, none⟩) hB).trans h.1, (hb.cell (p := ⟨B, 1, none⟩) hB).trans h.2.1, (hb.cell (p := ⟨B, 2, none⟩) hB).trans h.2.2⟩
/-- what is known in every later world: the node's cells, and the box behind it -/
theorem box_later {W : World} {lo hi tag : Int} {Ty : TypeId} {P : World → Prop} (hP : ∀ W', Below W.heap.size W W' → P W') : ∃ W0, W0 = W.alloc (.cells #[.int .i64 lo, .int .i64 hi, .int .i64 tag] Ty) ∧ Below W.heap.size W W0 ∧ W.heap.size < W0.heap.size ∧ ∀ W', Below W0.heap.size W0 W' → Bs W.heap.size lo hi tag W' ∧ P W' := by
  have hb : Below W.heap.size W (W.alloc (.cells #[.int .i64 lo, .int .i64 hi, .int .i64 tag] Ty)) := (Below.refl _ _).alloc (Nat.le_refl _) _
  exact ⟨_, rfl, hb, by simp, fun W' h => ⟨(Bs.new W lo hi tag Ty).next (by simp) h, hP W' (hb.trans (h.mono (by simp)))⟩⟩
set_option maxHeartbeats 1000000 in
theorem raiseLeft_any (l m k : T) (lo hi tag lo2 hi2 tag2 : Int) (p y : Option Addr) (W : World) (hl : IsT W (.node l ⟨lo2, hi2, tag2⟩ m) (.pointer p)) (hk : IsT W k (.pointer y)) (hb : Bd (l.L ++ ⟨lo2, hi2, tag2⟩ :: (m.L ++ ⟨lo, hi, tag⟩ :: k.L))) :
    Calls Try.prog 82 #[.pointer p, .agg #[.int .i64 lo, .int .i64 hi, .int .i64 tag], .pointer y] W fun e w' => ∃ b, e = .returned (.pointer (some ⟨b, 0, none⟩)) ∧ IsT w' (.node l ⟨lo2, hi2, tag2⟩ (.node m ⟨lo, hi, tag⟩ k)) (.pointer (some ⟨b, 0, none⟩)) ∧ Below W.heap.size W w' := by
  obtain ⟨b, u, v, rfl, hlt, h1, h2, hcs⟩ := hl.open
  obtain ⟨W0, HW, hb0, hsz, hall⟩ := box_later (Ty := 64) (lo := lo) (hi := hi) (tag := tag) hcs
  have HIN : Hid (∀ W', Below W0.heap.size W0 W' → Calls Try.prog 74 #[.pointer v, .agg #[.int .i64 lo, .int .i64 hi, .int .i64 tag], .pointer y] W' fun e w' => ∃ b, e = .returned (.pointer (some ⟨b, 0, none⟩)) ∧ IsT w' (.node m ⟨lo, hi, tag⟩ k) (.pointer (some ⟨b, 0, none⟩)) ∧ Below W0.heap.size W0 w') := fun W' h =>
    (newNode_any m k lo hi tag _ _ W' (IsT.below h (IsT.below hb0 h2)) (IsT.below h (IsT.below hb0 hk)) hb.right.tail).mono fun e w' ⟨b, he, ht, hB⟩ => ⟨b, he, ht, h.trans (hB.mono h.size)⟩
  have HOUT : Hid (∀ W' g, Below W0.heap.size W0 W' → IsT W' (.node m ⟨lo, hi, tag⟩ k) (.pointer (some ⟨g, 0, none⟩)) → Calls Try.prog 74 #[.pointer u, .agg #[.int .i64 lo2, .int .i64 hi2, .int .i64 tag2], .pointer (some ⟨g, 0, none⟩)] W' fun e w' => ∃ b, e = .returned (.pointer (some ⟨b, 0, none⟩)) ∧ IsT w' (.node l ⟨lo2, hi2, tag2⟩ (.node m ⟨lo, hi, tag⟩ k)) (.pointer (some ⟨b, 0, none⟩)) ∧ Below W0.heap.size W0 w') := fun W' g h ht =>
    (newNode_any l _ lo2 hi2 tag2 _ _ W' (IsT.below h (IsT.below hb0 h1)) ht hb).mono fun e w' ⟨b, he, ht, hB⟩ => ⟨b, he, ht, h.trans (hB.mono h.size)⟩
  have HALL := Lib.hid hall
  have HW0 := Lib.hid HW
  have HB0 := Lib.hid hb0
  clear HW hall hl hk h1 h2 hcs hb hb0
  go_enter Try.func82, Try.ntmps82
  go_wp2_with fail
  rw [← HW0.out]
  have hs : Below W0.heap.size W0 W0 := Below.refl _ _
  have hs2 := hs.drew
  have hcl := HALL.out _ hs2
  have hc0 := HALL.out _ hs
  unfold Bs Cs at hcl hc0 HALL
  go_region_held3 (fun W' : World => ((W'.cell? ⟨W.heap.size, 0, none⟩ = some (.int .i64 lo) ∧ W'.cell? ⟨W.heap.size, 1, none⟩ = some (.int .i64 hi) ∧ W'.cell? ⟨W.heap.size, 2, none⟩ = some (.int .i64 tag)) ∧ W'.cell? ⟨b, 0, none⟩ = some (.pointer u) ∧ W'.cell? ⟨b, 1, none⟩ = some (.int .i64 lo2) ∧ W'.cell? ⟨b, 2, none⟩ = some (.int .i64 hi2) ∧ W'.cell? ⟨b, 3, none⟩ = some (.int .i64 tag2) ∧ W'.cell? ⟨b, 4, none⟩ = some (.pointer v)) ∧ Below W0.heap.size W0 W') (first | (refine And.intro ?_ ?_ <;> assumption) | fail) (first
    | (go_at_call 74; with_reducible refine (HIN.out _ ?h).mono ?_; (case h => assumption); rintro e w' ⟨g, rfl, hgt, hs'⟩; have hc' := HALL.out _ hs')
    | (go_at_call 74; with_reducible refine (HOUT.out _ _ ?h ?r).mono ?_; (case h => assumption); (case r => assumption); rintro e w' ⟨g, rfl, hgt, hs'⟩; have hc' := HALL.out _ hs') | fail)
  all_goals
    have HT := Lib.hid hgt
    have HB := Lib.hid (HB0.out.trans (hs'.mono (Nat.le_of_lt hsz)))
    clear hs hs2 hcl hc0 hgt hs' hc'
    go_wp2_with fail
    go_ret
    exact ⟨g, rfl, HT.out, HB.out⟩
set_option maxHeartbeats 1000000 in
theorem raiseRight_any (l m k : T) (lo hi tag lo2 hi2 tag2 : Int) (p y : Option Addr) (W : World) (hl : IsT W (.node m ⟨lo2, hi2, tag2⟩ k) (.pointer p)) (hk : IsT W l (.pointer y)) (hb : Bd ((l.L ++ ⟨lo, hi, tag⟩ :: m.L) ++ ⟨lo2, hi2, tag2⟩ :: k.L)) :
    Calls Try.prog 81 #[.pointer y, .agg #[.int .i64 lo, .int .i64 hi, .int .i64 tag], .pointer p] W fun e w' => ∃ b, e = .returned (.pointer (some ⟨b, 0, none⟩)) ∧ IsT w' (.node (.node l ⟨lo, hi, tag⟩ m) ⟨lo2, hi2, tag2⟩ k) (.pointer (some ⟨b, 0, none⟩)) ∧ Below W.heap.size W w' := by
  obtain ⟨b, u, v, rfl, hlt, h1, h2, hcs⟩ := hl.open
  obtain ⟨W0, HW, hb0, hsz, hall⟩ := box_later (Ty := 64) (lo := lo) (hi := hi) (tag := tag) hcs
  have HIN : Hid (∀ W', Below W0.heap.size W0 W' → Calls Try.prog 74 #[.pointer y, .agg #[.int .i64 lo, .int .i64 hi, .int .i64 tag], .pointer u] W' fun e w' => ∃ b, e = .returned (.pointer (some ⟨b, 0, none⟩)) ∧ IsT w' (.node l ⟨lo, hi, tag⟩ m) (.pointer (some ⟨b, 0, none⟩)) ∧ Below W0.heap.size W0 w') := fun W' h =>
    (newNode_any l m lo hi tag _ _ W' (IsT.below h (IsT.below hb0 hk)) (IsT.below h (IsT.below hb0 h1)) hb.left).mono fun e w' ⟨b, he, ht, hB⟩ => ⟨b, he, ht, h.trans (hB.mono h.size)⟩
  have HOUT : Hid (∀ W' g, Below W0.heap.size W0 W' → IsT W' (.node l ⟨lo, hi, tag⟩ m) (.pointer (some ⟨g, 0, none⟩)) → Calls Try.prog 74 #[.pointer (some ⟨g, 0, none⟩), .agg #[.int .i64 lo2, .int .i64 hi2, .int .i64 tag2], .pointer v] W' fun e w' => ∃ b, e = .returned (.pointer (some ⟨b, 0, none⟩)) ∧ IsT w' (.node (.node l ⟨lo, hi, tag⟩ m) ⟨lo2, hi2, tag2⟩ k) (.pointer (some ⟨b, 0, none⟩)) ∧ Below W0.heap.size W0 w') := fun W' g h ht =>
    (newNode_any _ k lo2 hi2 tag2 _ _ W' ht (IsT.below h (IsT.below hb0 h2)) hb).mono fun e w' ⟨b, he, ht, hB⟩ => ⟨b, he, ht, h.trans (hB.mono h.size)⟩
  have HALL := Lib.hid hall
  have HW0 := Lib.hid HW
  have HB0 := Lib.hid hb0
  clear HW hall hl hk h1 h2 hcs hb hb0
  go_enter Try.func81, Try.ntmps81
  go_wp2_with fail
  rw [← HW0.out]
  have hs : Below W0.heap.size W0 W0 := Below.refl _ _
  have hs2 := hs.drew
  have hcl := HALL.out _ hs2
  have hc0 := HALL.out _ hs
  unfold Bs Cs at hcl hc0 HALL
  go_region_held3 (fun W' : World => ((W'.cell? ⟨W.heap.size, 0, none⟩ = some (.int .i64 lo) ∧ W'.cell? ⟨W.heap.size, 1, none⟩ = some (.int .i64 hi) ∧ W'.cell? ⟨W.heap.size, 2, none⟩ = some (.int .i64 tag)) ∧ W'.cell? ⟨b, 0, none⟩ = some (.pointer u) ∧ W'.cell? ⟨b, 1, none⟩ = some (.int .i64 lo2) ∧ W'.cell? ⟨b, 2, none⟩ = some (.int .i64 hi2) ∧ W'.cell? ⟨b, 3, none⟩ = some (.int .i64 tag2) ∧ W'.cell? ⟨b, 4, none⟩ = some (.pointer v)) ∧ Below W0.heap.size W0 W') (first | (refine And.intro ?_ ?_ <;> assumption) | fail) (first
    | (go_at_call 74; with_reducible refine (HIN.out _ ?h).mono ?_; (case h => assumption); rintro e w' ⟨g, rfl, hgt, hs'⟩; have hc' := HALL.out _ hs')
    | (go_at_call 74; with_reducible refine (HOUT.out _ _ ?h ?r).mono ?_; (case h => assumption); (case r => assumption); rintro e w' ⟨g, rfl, hgt, hs'⟩; have hc' := HALL.out _ hs') | fail)
  all_goals
    have HT := Lib.hid hgt
    have HB := Lib.hid (HB0.out.trans (hs'.mono (Nat.le_of_lt hsz)))
    clear hs hs2 hcl hc0 hgt hs' hc'
    go_wp2_with fail
    go_ret
    exact ⟨g, rfl, HT.out, HB.out⟩
end Go.Proofs.Ytahgfggcpmnnaaa
