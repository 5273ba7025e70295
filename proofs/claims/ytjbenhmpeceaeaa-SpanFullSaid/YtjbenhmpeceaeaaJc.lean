/- The contracts of From, the program's and the document's. -/
import Derived.Test.YtjbenhmpeceaeaaJb
import Derived.Maps.AppendAt
import Derived.Laws.OwnMore
namespace Go.Proofs.Ytjbenhmpeceaeaa
open Go Go.RowKit Gs

def good (size : Int) (l : List R) : Prop := 1 ≤ size ∧ size ≤ 1099511627776 ∧ chk 0 (-1) l = some size
/-- what From answers -/
def FromP (size : Int) (l : List R) (q : Option Addr) (s e : Int) (W : World) : Prop :=
  (e = 2 ∧ q = none ∧ s = 0 ∧ ¬ good size l) ∨ (e = 5 ∧ q = none ∧ s = 0 ∧ good size l ∧ 4096 < l.length) ∨ (e = 0 ∧ good size l ∧ l.length ≤ 4096 ∧ s = size ∧ ∃ f, IsM f size W q ∧ Gs.Can f 0 l size)
set_option maxRecDepth 100000 in
set_option maxHeartbeats 4000000 in
theorem From_any {size : Int} {W : World} {v : Value} {l : List R} (hl : IsRo W v l) (hn : l.length ≤ 100000) :
    Calls Try.prog 27 #[.int .i64 size, v] W fun e w' => ∃ q s e2, e = .returned (.tuple #[.agg #[.pointer q, .int .i64 s], .int .i64 e2]) ∧ Hid (FromP size l q s e2 w') ∧ Below W.heap.size W w' := by
  obtain ⟨w0, HW⟩ : ∃ w0, w0 = W.alloc (.cells #[.pointer none, .int .i64 0] 27) := ⟨_, rfl⟩
  have hb : Below W.heap.size W w0 := by rw [HW]; exact alloc_below _ _
  have n1 : Bx W.heap.size [.pointer none, .int .i64 0] w0 := by rw [HW]; exact Bx.new W [.pointer none, .int .i64 0] 27 (by simp)
  have HRO := Lib.hid (hl.below hb)
  have HAR := Lib.hid (areRuns_any (size := size) HRO.out hn)
  obtain ⟨ao, c, rfl, hcap, -⟩ := hl
  obtain ⟨n, hnn⟩ : ∃ n, n = l.length := ⟨_, rfl⟩
  have HN := Lib.hid hnn
  rw [← hnn] at hn HRO HAR hcap ⊢
  have HCAP := Lib.hid hcap
  have H1 := Lib.hid n1; have HB := Lib.hid hb; have HW' := Lib.hid HW
  have HBF : Hid (∀ W' x y, Below W.heap.size W W' → Below W.heap.size W ((W'.setCell ⟨W.heap.size, 0, none⟩ x).setCell ⟨W.heap.size, 1, none⟩ y)) := fun W' x y h => below_put h (Nat.le_refl _) _ _
  have HBAD : Hid (¬ good size l → ∀ W', FromP size l none 0 2 W') := fun h W' => .inl ⟨rfl, rfl, rfl, h⟩
  clear hnn hb HW hcap
  by_cases h1 : size < 1
  · have HX := Lib.hid (HBAD.out (fun h => by have := h.1; omega))
    obtain ⟨x0, x1, x2, x3⟩ := n1.c2
    obtain ⟨u0, u1, -, -⟩ := (n1.two (.pointer none) (.int .i64 0)).c2
    clear n1
    go_enter Try.func27, Try.ntmps27
    go_upto_region 1 with fail
    rw [← HW'.out]
    go_wp2_with fail
    refine bodyPost_ret (v := .tuple #[.agg #[.pointer none, .int .i64 0], .int .i64 2]) (by simp [results, Try.results27, go_sem, u0, u1]) rfl ?_
    first
    | exact ⟨none, 0, 2, rfl, HX.out _, HB.out⟩
    | exact ⟨none, 0, 2, rfl, HX.out _, HBF.out _ _ _ HB.out⟩
  · by_cases h2 : size > 1099511627776
    · have HX := Lib.hid (HBAD.out (fun h => by have := h.2.1; omega))
      obtain ⟨x0, x1, x2, x3⟩ := n1.c2
      obtain ⟨u0, u1, -, -⟩ := (n1.two (.pointer none) (.int .i64 0)).c2
      clear n1
      go_enter Try.func27, Try.ntmps27
      go_upto_region 1 with fail
      rw [← HW'.out]
      go_wp2_with fail
      refine bodyPost_ret (v := .tuple #[.agg #[.pointer none, .int .i64 0], .int .i64 2]) (by simp [results, Try.results27, go_sem, u0, u1]) rfl ?_
      first
      | exact ⟨none, 0, 2, rfl, HX.out _, HB.out⟩
      | exact ⟨none, 0, 2, rfl, HX.out _, HBF.out _ _ _ HB.out⟩
    · have HSZ : Hid (1 ≤ size ∧ size ≤ 1099511627776) := ⟨by omega, by omega⟩
      clear n1
      go_enter Try.func27, Try.ntmps27
      go_upto_region 1 with fail
      rw [← HW'.out]
      go_wp2_with fail
      refine HAR.out.mono ?_
      rintro e w1 ⟨b, rfl, HIF, hb⟩
      have G1 := Lib.hid (H1.out.next hb)
      have HB1 := Lib.hid (HB.out.trans (hb.mono HB.out.size))
      have HRO1 := Lib.hid (HRO.out.below hb)
      clear hb
      obtain ⟨x0, x1, x2, x3⟩ := G1.out.c2
      cases b with
      | false =>
        have HX := Lib.hid (HBAD.out (fun h => by have := HIF.out.2 h.2.2; cases this))
        obtain ⟨u0, u1, -, -⟩ := (G1.out.two (.pointer none) (.int .i64 0)).c2
        go_wp2_with fail
        refine bodyPost_ret (v := .tuple #[.agg #[.pointer none, .int .i64 0], .int .i64 2]) (by simp [results, Try.results27, go_sem, u0, u1]) rfl ?_
        first
        | exact ⟨none, 0, 2, rfl, HX.out _, HB1.out⟩
        | exact ⟨none, 0, 2, rfl, HX.out _, HBF.out _ _ _ HB1.out⟩
      | true =>
        have HG : Hid (good size l) := ⟨HSZ.out.1, HSZ.out.2, HIF.out.1 rfl⟩
        by_cases h3 : 4096 < n
        · have h4 : (n : Int) > 4096 := by omega
          have HX : Hid (∀ W', FromP size l none 0 5 W') := fun W' => .inr (.inl ⟨rfl, rfl, rfl, HG.out, by rw [← HN.out]; exact h3⟩)
          obtain ⟨u0, u1, -, -⟩ := (G1.out.two (.pointer none) (.int .i64 0)).c2
          go_wp2_with fail
          refine bodyPost_ret (v := .tuple #[.agg #[.pointer none, .int .i64 0], .int .i64 5]) (by simp [results, Try.results27, go_sem, u0, u1]) rfl ?_
          first
          | exact ⟨none, 0, 5, rfl, HX.out _, HB1.out⟩
          | exact ⟨none, 0, 5, rfl, HX.out _, HBF.out _ _ _ HB1.out⟩
        · have h4 : ¬ (n : Int) > 4096 := by omega
          obtain ⟨f, hcan, hctx, -⟩ := chk_can HG.out.2.2
          have HCX : Hid (Gs.Can f 0 l size ∧ Ctx f 0 size) := ⟨hcan, Int.le_refl _, HSZ.out.2, hctx⟩
          have HBU := Lib.hid (build_any n l ao c w1 HN.out.symm HCAP.out HRO1.out ⟨by rw [← HN.out]; omega, HCX.out.1.1.bd HCX.out.2⟩)
          clear hcan hctx
          go_wp2_with fail
          refine HBU.out.mono ?_
          rintro e w2 ⟨p, rfl, HT, hb⟩
          have G2 := Lib.hid (G1.out.next hb)
          have HB2 := Lib.hid (HB1.out.trans (hb.mono HB1.out.size))
          clear hb x0 x1 x2 x3
          obtain ⟨x0, x1, x2, x3⟩ := G2.out.c2
          obtain ⟨u0, u1, -, -⟩ := (G2.out.two (.pointer p) (.int .i64 size)).c2
          have HI : Hid (IsM f size w2 p) := by
            obtain ⟨t, t1, t2⟩ := HT.out
            exact ⟨HSZ.out.1, HCX.out.2, t, t2, by rw [t1]; exact HCX.out.1, by rw [T.sz_eq, t1, ← HN.out]; omega⟩
          have HI2 : Hid (IsM f size ((w2.setCell ⟨W.heap.size, 0, none⟩ (.pointer p)).setCell ⟨W.heap.size, 1, none⟩ (.int .i64 size)) p) := ⟨HI.out.lo, HI.out.ctx, (HI.out.tr.set G2.out.c22 _).set (G2.out.put (i := 0) (by simp) (by decide) _).c22 _⟩
          have HX : Hid (FromP size l p size 0 ((w2.setCell ⟨W.heap.size, 0, none⟩ (.pointer p)).setCell ⟨W.heap.size, 1, none⟩ (.int .i64 size))) := .inr (.inr ⟨rfl, HG.out, by rw [← HN.out]; omega, rfl, f, HI2.out, HCX.out.1⟩)
          go_wp2_with fail
          refine bodyPost_ret (v := .tuple #[.agg #[.pointer p, .int .i64 size], .int .i64 0]) (by simp [results, Try.results27, go_sem, u0, u1]) rfl ?_
          exact ⟨p, size, 0, rfl, HX, HBF.out _ _ _ HB2.out⟩
/-- the cells of a list of runs, in a row -/
theorem IsRo.news {W : World} {B o n c : Nat} {l : List R} (h : IsRo W (.slice (some ⟨B, o, none⟩) n c) l) : ∀ j u, (l.flatMap encL)[j]? = some u → W.cell? ((⟨B, o, none⟩ : Addr).add j) = some u := by
  intro j u hj
  have hlt : j < l.length * 3 := by
    rw [← encL_len]
    exact (List.getElem?_eq_some_iff.1 hj).1
  obtain ⟨B', o', e, c0, c1, c2⟩ := h.at' (j := j / 3) (by omega)
  injection e with e
  injection e with e1 e2
  subst e1; subst e2
  obtain ⟨e0, e1, e2⟩ := encL_get l (j / 3) (by omega)
  rw [show (⟨B, o, none⟩ : Addr).add j = ⟨B, o + j, none⟩ by unfold Addr.add; split <;> simp_all]
  have hr : j % 3 = 0 ∨ j % 3 = 1 ∨ j % 3 = 2 := by omega
  rcases hr with hr | hr | hr
  · have ej : j = j / 3 * 3 := by omega
    rw [ej, e0] at hj
    rw [ej]; cases hj; exact c0
  · have ej : j = j / 3 * 3 + 1 := by omega
    rw [ej, e1] at hj
    rw [ej, ← Nat.add_assoc]; cases hj; exact c1
  · have ej : j = j / 3 * 3 + 2 := by omega
    rw [ej, e2] at hj
    rw [ej, ← Nat.add_assoc]; cases hj; exact c2
/-- a copy of a list of runs: an append to an empty list -/
theorem wpList_copyR {w3 : World} {ops : Array Oper} {rest : List Oper} {o : Oper} {a : Go.Act} {Q : Exit → Go.Act → World → Prop} (hgd : o.guard = none) (s x : Operand)
    (ho : o.op = .call { callee := .builtin .append, args := #[s, x], argTypes := #[31, 31] }) {cv : Value} {k : List R} {m : Nat} (hmk : m = k.length)
    (hs : a.eval s = .slice (some ⟨w3.heap.size, 0, none⟩) 0 0) (hx : a.eval x = cv) (hk : IsRo w3 cv k) (hkv : cv = .slice none 0 0 ∨ ∃ a m c, cv = .slice (some a) m c) (hm : m ≤ 100000)
    (h : ∀ a2 c2 w5, w5.ownsRow w3.heap.size 64 3 (.slice a2 m c2) m (k.flatMap encL) → Below w3.heap.size w3 w5 → wpList Try.prog ops Q rest (a.put o.dst (.slice a2 m c2)) w5) : wpList Try.prog ops Q (o :: rest) a (w3.alloc (.cells #[] 64)) := by
  obtain ⟨i0, hi0, hz0, hz1, hz2⟩ := info_parts infoRun
  have hown : (w3.alloc (.cells #[] 64)).ownsRow w3.heap.size 64 3 (.slice (some ⟨w3.heap.size, 0, none⟩) 0 0) 0 [] := World.ownsRow_lit w3 #[] 0 (Nat.le_refl _) (by decide) (by simp)
  have hb := alloc_below w3 (.cells #[] 64)
  rcases hkv with rfl | ⟨a0, m0, c0, rfl⟩
  · have hk0 : m = 0 := hmk.trans hk.len.symm
    subst hk0
    refine wpList_append_nil hgd s x _ ho w3.heap.size _ i0 3 Try.underlying31 hi0 _ 0 [] hs hown hx ?_
    have hk1 : k = [] := List.eq_nil_of_length_eq_zero hmk.symm
    subst hk1
    exact h _ _ _ hown hb
  · have hm0 : m0 = m := hk.len.trans hmk.symm
    subst hm0
    have hnw : ∀ j u, (k.flatMap encL)[j]? = some u → (w3.alloc (.cells #[] 64)).cell? (a0.add j) = some u := by
      by_cases hz : k = []
      · subst hz
        intro j u hj
        simp at hj
      · obtain ⟨B, o', e, _⟩ := hk.at' (j := 0) (List.length_pos_iff.2 hz)
        injection e with e
        subst e
        exact (hk.below hb).news
    refine wpList_append_own_at _ hgd s x _ ho w3.heap.size _ i0 _ 3 24 Try.underlying31 hi0 hz0 hz1 hz2 rfl (by decide) _ 0 [] hs hown a0 m0 c0 (k.flatMap encL) hx (by rw [encL_len, hmk]) hnw (encL_one k) (by rw [Nat.zero_add]; exact Nat.le_trans hm (by decide)) (by omega) hb.size ?_
    intro v' w5 hown' hgrow _ _
    rw [Nat.zero_add, List.nil_append] at hown'
    obtain ⟨a2, c2, rfl⟩ := own_slice hown'
    exact h _ _ _ hown' (hb.grown hgrow hb.size (fun j hj => by cases hj; exact Nat.le_refl _))
/-- what the document's From answers -/
def RFromP (size : Int) (l : List R) (B : Nat) (s : Int) (v : Value) (e : Int) (W : World) : Prop :=
  (e = 2 ∧ s = 0 ∧ v = .slice none 0 0 ∧ ¬ good size l) ∨ (e = 5 ∧ s = 0 ∧ v = .slice none 0 0 ∧ good size l ∧ 4096 < l.length) ∨ (e = 0 ∧ good size l ∧ l.length ≤ 4096 ∧ s = size ∧ IsRs B W v l)
theorem from_dual {size : Int} {l : List R} {B : Nat} {q : Option Addr} {s e s' e' : Int} {v' : Value} {W : World} (h1 : FromP size l q s e W) (h2 : RFromP size l B s' v' e' W) : e = e' ∧ Dual B W q s s' v' := by
  rcases h1 with ⟨rfl, rfl, rfl, h⟩ | ⟨rfl, rfl, rfl, h, h3⟩ | ⟨rfl, h, h3, rfl, f, h4, h5⟩
  · rcases h2 with ⟨rfl, rfl, rfl, _⟩ | ⟨_, _, _, g, _⟩ | ⟨_, g, _⟩
    · exact ⟨rfl, .inl ⟨rfl, rfl, rfl, rfl⟩⟩
    · exact absurd g h
    · exact absurd g h
  · rcases h2 with ⟨_, _, _, g⟩ | ⟨rfl, rfl, rfl, _⟩ | ⟨_, _, g, _⟩
    · exact absurd h g
    · exact ⟨rfl, .inl ⟨rfl, rfl, rfl, rfl⟩⟩
    · omega
  · rcases h2 with ⟨_, _, _, g⟩ | ⟨_, _, _, _, g⟩ | ⟨rfl, _, _, rfl, g⟩
    · exact absurd h g
    · omega
    · exact ⟨rfl, .inr ⟨f, l, h4, h5, g, rfl⟩⟩
theorem RFromP.shape {size : Int} {l : List R} {B : Nat} {s e : Int} {v : Value} {W : World} (h : RFromP size l B s v e W) : ∃ a n c, v = .slice a n c := by
  rcases h with ⟨_, _, h, _⟩ | ⟨_, _, h, _⟩ | ⟨_, _, _, _, ⟨_, _, h, _⟩⟩
  · exact ⟨_, _, _, h⟩
  · exact ⟨_, _, _, h⟩
  · exact ⟨_, _, _, h⟩
theorem RFromP.below {size : Int} {l : List R} {B : Nat} {s e : Int} {v : Value} {W W' : World} (h : RFromP size l B s v e W) (hb : Below W.heap.size W W') : RFromP size l B s v e W' := by
  rcases h with h | h | ⟨h1, h2, h3, h4, h5⟩
  · exact .inl h
  · exact .inr (.inl h)
  · exact .inr (.inr ⟨h1, h2, h3, h4, h5.below hb⟩)
theorem FromP.below {size : Int} {l : List R} {q : Option Addr} {s e : Int} {W W' : World} (h : FromP size l q s e W) (hb : Below W.heap.size W W') : FromP size l q s e W' := by
  rcases h with h | h | ⟨h1, h2, h3, h4, f, h5, h6⟩
  · exact .inl h
  · exact .inr (.inl h)
  · exact .inr (.inr ⟨h1, h2, h3, h4, f, h5.below hb, h6⟩)
end Go.Proofs.Ytjbenhmpeceaeaa
