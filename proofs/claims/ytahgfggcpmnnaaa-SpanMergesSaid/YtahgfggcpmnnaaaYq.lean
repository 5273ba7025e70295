/- The contracts of glue, for all trees, and of concat. -/
import Derived.Test.YtahgfggcpmnnaaaYn
import Derived.Test.YtahgfggcpmnnaaaYo
import Derived.Test.YtahgfggcpmnnaaaYp
namespace Go.Proofs.Ytahgfggcpmnnaaa
open Go Go.RowKit Gs

theorem Tr.glue {f : Int → Int} {a b lo hi tag : Int} {n m : Nat} {W : World} {p q : Option Addr} (hl : Tr f a lo n W p) (hk : Tr f hi b m W q) (hx : Ctx f a b) (hn : n + m ≤ 40000) (h1 : lo < hi) (h2 : ∀ x, lo ≤ x → x < hi → f x = tag) :
    Calls Try.prog 68 #[.pointer p, .agg #[.int .i64 lo, .int .i64 hi, .int .i64 tag], .pointer q] W fun e w' => ∃ g, e = .returned (.pointer (some ⟨g, 0, none⟩)) ∧ Hid (Tr f a b (n + m + 1) w' (some ⟨g, 0, none⟩)) ∧ Below W.heap.size W w' := by
  rcases hl.last with ⟨ep, ea⟩ | ⟨bl, ylo, ytag, ep, hlast, y1, y2, y3, y4⟩
  · rcases hk.first with ⟨eq, eb⟩ | ⟨br, zhi, ztag, eq, hfirst, z1, z2, z3, z4⟩
    · exact glue_NN f a b lo hi tag n m p q W hl hk hx hn h1 h2 ep ea eq eb
    · by_cases ze : ztag = tag
      · exact glue_NS f a b lo hi tag n m p q W hl hk hx hn h1 h2 ep ea br zhi ztag eq hfirst z1 z2 z3 z4 ze.symm
      · exact glue_ND f a b lo hi tag n m p q W hl hk hx hn h1 h2 ep ea br zhi ztag eq hfirst z1 z2 z3 z4 ze
  · rcases hk.first with ⟨eq, eb⟩ | ⟨br, zhi, ztag, eq, hfirst, z1, z2, z3, z4⟩
    · by_cases ye : ytag = tag
      · exact glue_SN f a b lo hi tag n m p q W hl hk hx hn h1 h2 bl ylo ytag ep hlast y1 y2 y3 y4 ye.symm eq eb
      · exact glue_DN f a b lo hi tag n m p q W hl hk hx hn h1 h2 bl ylo ytag ep hlast y1 y2 y3 y4 ye eq eb
    · by_cases ye : ytag = tag <;> by_cases ze : ztag = tag
      · exact glue_SS f a b lo hi tag n m p q W hl hk hx hn h1 h2 bl ylo ytag ep hlast y1 y2 y3 y4 ye.symm br zhi ztag eq hfirst z1 z2 z3 z4 ze.symm
      · exact glue_SD f a b lo hi tag n m p q W hl hk hx hn h1 h2 bl ylo ytag ep hlast y1 y2 y3 y4 ye.symm br zhi ztag eq hfirst z1 z2 z3 z4 ze
      · exact glue_DS f a b lo hi tag n m p q W hl hk hx hn h1 h2 bl ylo ytag ep hlast y1 y2 y3 y4 ye br zhi ztag eq hfirst z1 z2 z3 z4 ze.symm
      · exact glue_DD f a b lo hi tag n m p q W hl hk hx hn h1 h2 bl ylo ytag ep hlast y1 y2 y3 y4 ye br zhi ztag eq hfirst z1 z2 z3 z4 ze
set_option maxHeartbeats 1000000 in
theorem Tr.concat {f : Int → Int} {a m b : Int} {n k : Nat} {W : World} {p q : Option Addr} (hl : Tr f a m n W p) (hk : Tr f m b k W q) (hx : Ctx f a b) (hn : n + k ≤ 40000) :
    Calls Try.prog 69 #[.pointer p, .pointer q] W fun e w' => ∃ g, e = .returned (.pointer g) ∧ Hid (Tr f a b (n + k + 1) w' g) ∧ Below W.heap.size W w' := by
  have q1 := hl.le; have q2 := hk.le
  rcases hk.first with ⟨rfl, rfl⟩ | ⟨br, zhi, ztag, rfl, hfirst, z1, z2, z3, z4⟩
  · have HL : Hid (Tr f a m (n + k + 1) W p) := hl.mono (by omega)
    clear hl hk hx hn q1 q2
    go_enter Try.func69, Try.ntmps69
    go_wp2_with fail
    go_ret
    exact ⟨p, rfl, HL, Below.refl _ _⟩
  · have HF := Lib.hid hfirst
    have HSP : Hid (∀ W', Below W.heap.size W W' → Calls Try.prog 75 #[.pointer (some ⟨br, 0, none⟩), .int .i64 zhi] W' fun e w' => ∃ x y, e = .returned (.tuple #[.pointer x, .pointer y]) ∧ Hid (Tr f m zhi k w' x) ∧ Hid (Tr f zhi b k w' y) ∧ Below W'.heap.size W' w') := fun W' h =>
      (hk.below h).split (hx.sub q1 (Int.le_refl _)) (by omega) (by omega) z2
    have HG : Hid (∀ W' y, Below W.heap.size W W' → Tr f zhi b k W' y → Calls Try.prog 68 #[.pointer p, .agg #[.int .i64 m, .int .i64 zhi, .int .i64 ztag], .pointer y] W' fun e w' => ∃ g, e = .returned (.pointer (some ⟨g, 0, none⟩)) ∧ Hid (Tr f a b (n + k + 1) w' (some ⟨g, 0, none⟩)) ∧ Below W'.heap.size W' w') := fun W' y h hy =>
      (hl.below h).glue hy hx hn z1 z3
    clear hl hk hx hn q1 q2 hfirst z1 z2 z3 z4
    go_enter Try.func69, Try.ntmps69
    go_wp2_with fail
    refine (HF.out _ (Below.refl _ _)).mono ?_
    rintro e w1 ⟨rfl, hb1⟩
    have HB1 := Lib.hid hb1
    clear hb1
    go_wp2_with fail
    obtain ⟨w2, HW2⟩ : ∃ w2, w2 = w1.alloc (.cells #[.int .i64 m, .int .i64 zhi, .int .i64 ztag] 64) := ⟨_, rfl⟩
    have hq : Bq w1 m zhi ztag w2 := by rw [HW2]; exact Bq.new _ _ _ _ _
    rw [← HW2]
    clear HW2
    have HB2 : Hid (Below W.heap.size W w2) := HB1.out.trans (hq.bel.mono HB1.out.size)
    refine (HSP.out _ HB2.out).mono ?_
    rintro e w3 ⟨x, y, rfl, HX, HY, hb3⟩
    have HB3 : Hid (Below W.heap.size W w3) := HB2.out.trans (hb3.mono HB2.out.size)
    have hq3 := hq.next hb3
    have c0 := hq3.c0; have c1 := hq3.c1; have c2 := hq3.c2
    clear hq hq3 hb3
    go_wp2_with fail
    refine (HG.out _ _ HB3.out HY.out).mono ?_
    rintro e w4 ⟨g, rfl, HG4, hb4⟩
    have HB4 : Hid (Below W.heap.size W w4) := HB3.out.trans (hb4.mono HB3.out.size)
    clear hb4 c0 c1 c2
    go_wp2_with fail
    go_ret
    exact ⟨_, rfl, HG4, HB4.out⟩
end Go.Proofs.Ytahgfggcpmnnaaa
