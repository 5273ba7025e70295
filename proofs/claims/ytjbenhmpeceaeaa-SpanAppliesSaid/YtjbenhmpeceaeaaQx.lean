/- The law SpanApplies: its walk. -/
import Derived.Test.YtjbenhmpeceaeaaQv
import Derived.Test.YtjbenhmpeceaeaaQf
import Derived.Maps.AppendAt
import Derived.Test.YtjbenhmpeceaeaaQt
import Derived.Test.YtjbenhmpeceaeaaZg
namespace Go.Proofs.Ytjbenhmpeceaeaa
open Go Go.RowKit Gs

set_option maxHeartbeats 1000000 in
/-- ref.Changed, of two lists that are the same -/
theorem RChanged_same {W : World} {u v : Value} {L : List Ch} (h1 : IsCs W u L) (h2 : IsCs W v L) (hlen : L.length ≤ 100000) : Calls Try.prog 31 #[u, v] W fun e w' => e = .returned (.bool true) ∧ Hid (Below W.heap.size W w') := by
  have HU := Lib.hid h1; have HV := Lib.hid h2
  obtain ⟨a, c, rfl, -⟩ := h1
  obtain ⟨a', c', rfl, -⟩ := h2
  obtain ⟨n, hn⟩ : ∃ n, n = L.length := ⟨_, rfl⟩
  rw [← hn] at HU HV ⊢
  have hnb : n ≤ 100000 := by omega
  have HN := Lib.hid hn
  clear hn hlen
  go_enter Try.func31, Try.ntmps31
  go_wp2_with fail
  go_loopw [5] (fun iv wr => ∃ j : Nat, j ≤ n ∧ iv = .int .i64 j ∧ Hid (Below W.heap.size W wr)) (fun i _ => n - (intOf i).toNat)
  case atStart => exact ⟨0, by omega, rfl, Below.refl _ _⟩
  case round =>
    obtain ⟨j, hj, rfl, HB⟩ := hrel
    by_cases hlt : j < n
    · have hj2 : (j : Int) < n := by omega
      have hj0 : (0 : Int) ≤ (j : Int) := by omega
      have hjl : j < L.length := by rw [← HN.out]; exact hlt
      obtain ⟨G, o, rfl, c0, c1, c2, c3⟩ := (HU.out.below HB.out).at' hjl
      obtain ⟨G', o', rfl, d0, d1, d2, d3⟩ := (HV.out.below HB.out).at' hjl
      generalize L[j] = x at *
      obtain ⟨xa, xb, xc, xd⟩ := x
      simp only at c0 c1 c2 c3 d0 d1 d2 d3
      go_wp2_with fail
      go_quiet (fail)
      rename_i nq
      have HBn : Hid (Below W.heap.size W (World.drewN wr nq)) := below_drewN HB.out nq
      clear c0 c1 c2 c3 d0 d1 d2 d3
      generalize hw : World.drewN _ nq = w2 at HBn ⊢
      clear hw
      go_wp2_with fail
      go_roundw
      case rel => exact ⟨j + 1, by omega, by go_num, HBn.out⟩
      case measure => simp [intOf]; omega
    · have hj2 : ¬ (j : Int) < n := by omega
      go_wp2_with fail
      go_ret
      exact ⟨rfl, HB.out⟩
theorem RApply_un (v : Value) (W : World) : Calls Try.prog 35 #[.agg #[.int .i64 0, .slice none 0 0], v] W fun e w' => e = .returned (.tuple #[.agg #[.int .i64 0, .slice none 0 0], .int .i64 1]) ∧ Below W.heap.size W w' := by
  obtain ⟨w0, HW⟩ : ∃ w0, w0 = (W.alloc (.cells #[.int .i64 0, .slice none 0 0] 33)).alloc (.cells #[.int .i64 0, .slice none 0 0] 33) := ⟨_, rfl⟩
  have hb : Below W.heap.size W w0 := by rw [HW]; exact (alloc_below _ _).alloc (by simp) _
  have n1 : Bx W.heap.size [.int .i64 0, .slice none 0 0] w0 := by rw [HW]; exact (Bx.new W [.int .i64 0, .slice none 0 0] 33 (by simp)).next (alloc_below _ _)
  have n2 : Bx (W.heap.size + 1) [.int .i64 0, .slice none 0 0] w0 := by
    have := Bx.new (W.alloc (.cells #[.int .i64 0, .slice none 0 0] 33)) [.int .i64 0, .slice none 0 0] 33 (by simp)
    rw [World.size_alloc, ← HW] at this
    exact this
  have HUS : Hid (∀ W', Calls Try.prog 42 #[.agg #[.int .i64 0, .slice none 0 0]] W' fun e w' => e = .returned (.bool false) ∧ Below W'.heap.size W' w') := fun W' => RUsable_any 0 none 0 0 W'
  have H2 := Lib.hid n2; have HB := Lib.hid hb; have HW' := Lib.hid HW
  obtain ⟨m0, m1, -, -⟩ := n1.c2
  clear hb n1 n2 HW
  go_enter Try.func35, Try.ntmps35
  go_upto_region 1 with fail
  rw [← HW'.out]
  go_wp2_with fail
  refine (HUS.out _).mono ?_
  rintro e w1 ⟨rfl, hb⟩
  have G2 := Lib.hid (H2.out.next hb); have HB1 := Lib.hid (HB.out.trans (hb.mono HB.out.size))
  clear hb m0 m1
  obtain ⟨x0, x1, x2, x3⟩ := G2.out.c2
  obtain ⟨u0, u1, -, -⟩ := (G2.out.two (.int .i64 0) (.slice none 0 0)).c2
  go_wp2_with fail
  refine bodyPost_ret (v := .tuple #[.agg #[.int .i64 0, .slice none 0 0], .int .i64 1]) (by simp [results, Try.results35, go_sem, u0, u1]) rfl ?_
  first
  | exact ⟨rfl, HB1.out⟩
  | exact ⟨rfl, below_put HB1.out (by omega) _ _⟩
/-- both Applies -/
theorem both_Apply {base : Nat} {W : World} {p : Option Addr} {z s : Int} {v : Value} {l : List Ch} (h : Dual base W p z s v) (hn : l.length ≤ 100000) : ∃ (CX : Option Addr → Int → Int → World → Prop) (DX : Int → Value → Int → World → Prop),
    Hid (∀ W' cv, Below W.heap.size W W' → IsCs W' cv l → Calls Try.prog 34 #[.agg #[.pointer p, .int .i64 z], cv] W' fun e w' => ∃ q s2 e2, e = .returned (.tuple #[.agg #[.pointer q, .int .i64 s2], .int .i64 e2]) ∧ Hid (CX q s2 e2 w') ∧ Below W'.heap.size W' w') ∧
    Hid (∀ W' cv, Below W.heap.size W W' → IsCs W' cv l → Calls Try.prog 35 #[.agg #[.int .i64 s, v], cv] W' fun e w' => ∃ s' b n c e2, e = .returned (.tuple #[.agg #[.int .i64 s', .slice b n c], .int .i64 e2]) ∧ Hid (DX s' (.slice b n c) e2 w') ∧ Below W'.heap.size W' w') ∧
    Hid (∀ q s2 e2 W1 W2, CX q s2 e2 W1 → Below W1.heap.size W1 W2 → CX q s2 e2 W2) ∧
    Hid (∀ q s2 e2 s' v' e' W1, CX q s2 e2 W1 → DX s' v' e' W1 → e2 = e' ∧ Dual 0 W1 q s2 s' v') := by
  rcases h.open with ⟨rfl, rfl, rfl, rfl⟩ | ⟨f, L, h1, h2, h3, rfl, h5, h6⟩
  · refine ⟨fun q s2 e2 _ => q = none ∧ s2 = 0 ∧ e2 = 1, fun s' v' e' _ => s' = 0 ∧ v' = .slice none 0 0 ∧ e' = 1, fun W' cv _ hc => ?_, fun W' cv _ hc => ?_, fun _ _ _ _ _ h _ => h, ?_⟩
    · obtain ⟨a, c, rfl, -⟩ := hc
      refine (Apply_un 0 a _ c W').mono ?_
      rintro e w' ⟨rfl, hB⟩
      exact ⟨none, 0, 1, rfl, ⟨rfl, rfl, rfl⟩, hB⟩
    · refine (RApply_un cv W').mono ?_
      rintro e w' ⟨rfl, hB⟩
      exact ⟨0, none, 0, 0, 1, rfl, ⟨rfl, rfl, rfl⟩, hB⟩
    · rintro q s2 e2 s' v' e' W1 ⟨rfl, rfl, rfl⟩ ⟨rfl, rfl, rfl⟩
      exact ⟨rfl, .inl ⟨rfl, rfl, rfl, rfl⟩⟩
  · refine ⟨fun q s2 e2 W => ApP s (apF s f l) q s2 e2 W, fun s' v' e' W => RApP s (apF s f l) s' v' e' W, fun W' cv hW hc => Apply_any (h1.below hW) hc hn, fun W' cv hW hc => ?_, fun _ _ _ _ _ h hb => h.below hb, ?_⟩
    · refine (RApply_any (h3.below hW) h2 h1.ctx h1.lo h6 hc hn).mono ?_
      rintro e w' ⟨s', v', e2, rfl, hr, hB⟩
      have hv : ∃ a n c, v' = .slice a n c := by
        rcases hr.out.2 with ⟨_, _, h⟩ | ⟨_, _, _, _, ⟨_, _, h, _⟩⟩
        · exact ⟨_, _, _, h⟩
        · exact ⟨_, _, _, h⟩
      obtain ⟨b, n, c, rfl⟩ := hv
      exact ⟨s', b, n, c, e2, rfl, hr, hB⟩
    · rintro q s2 e2 s' v' e' W1 ⟨g1, g2⟩ ⟨k1, k2⟩
      refine ⟨g1.trans k1.symm, ?_⟩
      rcases g2 with ⟨a1, rfl, rfl⟩ | ⟨a1, rfl, a3⟩
      · rcases k2 with ⟨b1, rfl, rfl⟩ | ⟨b1, _⟩
        · exact .inl ⟨rfl, rfl, rfl, rfl⟩
        · exact absurd (g1.trans (k1.symm.trans b1)) a1
      · rcases k2 with ⟨b1, _⟩ | ⟨b1, rfl, L', b3, b4⟩
        · exact absurd (k1.trans (g1.symm.trans a1)) b1
        · exact .inr ⟨_, L', a3, b3, b4, rfl⟩

def encC (c : Ch) : List Value := [.int .i64 c.lo, .int .i64 c.hi, .int .i64 c.fr, .int .i64 c.tt]
theorem encC_len (l : List Ch) : (l.flatMap encC).length = l.length * 4 := by
  induction l with
  | nil => rfl
  | cons c l ih => rw [List.flatMap_cons, List.length_append, ih]; simp [encC]; omega
theorem encC_one (l : List Ch) : ∀ u ∈ l.flatMap encC, u.oneCell' = true := by
  intro u hu
  obtain ⟨r, _, hr⟩ := List.mem_flatMap.1 hu
  simp only [encC, List.mem_cons, List.not_mem_nil, or_false] at hr
  rcases hr with rfl | rfl | rfl | rfl <;> rfl
theorem encC_get : ∀ (l : List Ch) (j : Nat) (h : j < l.length), (l.flatMap encC)[j * 4]? = some (.int .i64 l[j].lo) ∧ (l.flatMap encC)[j * 4 + 1]? = some (.int .i64 l[j].hi) ∧ (l.flatMap encC)[j * 4 + 2]? = some (.int .i64 l[j].fr) ∧ (l.flatMap encC)[j * 4 + 3]? = some (.int .i64 l[j].tt)
  | r :: l, 0, _ => ⟨rfl, rfl, rfl, rfl⟩
  | r :: l, j + 1, h => by
    have ih := encC_get l j (by simpa using h)
    have e : ∀ i, ((r :: l).flatMap encC)[i + 4]? = (l.flatMap encC)[i]? := fun i => rfl
    rw [show (j + 1) * 4 = j * 4 + 4 by omega, show j * 4 + 4 + 1 = j * 4 + 1 + 4 by omega, show j * 4 + 4 + 2 = j * 4 + 2 + 4 by omega, show j * 4 + 4 + 3 = j * 4 + 3 + 4 by omega, e, e, e, e]
    exact ih
theorem IsCs.of_row {W : World} {base : Nat} {v : Value} {l : List Ch} (h : W.ownsRow base 107 4 v l.length (l.flatMap encC)) : IsCs W v l := by
  have hcs := fun g hg => h.cells (g := g) hg
  have hlt := h.lt
  rcases h.2 with ⟨rfl, h0⟩ | ⟨g, cap, cur, rfl, _⟩
  · exact ⟨none, 0, by rw [h0], fun hp => by omega⟩
  · refine ⟨some ⟨g, 0, none⟩, cap, rfl, fun hp => ⟨g, 0, rfl, (hlt g rfl).2, fun j hj => ?_⟩⟩
    obtain ⟨e0, e1, e2, e3⟩ := encC_get l j hj
    have c0 := hcs g rfl _ _ e0
    have c1 := hcs g rfl _ _ e1
    have c2 := hcs g rfl _ _ e2
    have c3 := hcs g rfl _ _ e3
    rw [add_zero'] at c0 c1 c2 c3
    rw [Nat.zero_add]
    exact ⟨c0, c1, c2, c3⟩
/-- the cells of a list of changes, in a row -/
theorem IsCs.news {W : World} {B o n c : Nat} {l : List Ch} (h : IsCs W (.slice (some ⟨B, o, none⟩) n c) l) : ∀ j u, (l.flatMap encC)[j]? = some u → W.cell? ((⟨B, o, none⟩ : Addr).add j) = some u := by
  intro j u hj
  have hlt : j < l.length * 4 := by
    rw [← encC_len]
    exact (List.getElem?_eq_some_iff.1 hj).1
  obtain ⟨B', o', e, c0, c1, c2, c3⟩ := h.at' (j := j / 4) (by omega)
  injection e with e
  injection e with e1 e2
  subst e1; subst e2
  obtain ⟨e0, e1, e2, e3⟩ := encC_get l (j / 4) (by omega)
  rw [show (⟨B, o, none⟩ : Addr).add j = ⟨B, o + j, none⟩ by unfold Addr.add; split <;> simp_all]
  have hr : j % 4 = 0 ∨ j % 4 = 1 ∨ j % 4 = 2 ∨ j % 4 = 3 := by omega
  rcases hr with hr | hr | hr | hr
  · have ej : j = j / 4 * 4 := by omega
    rw [ej, e0] at hj
    rw [ej]; cases hj; exact c0
  · have ej : j = j / 4 * 4 + 1 := by omega
    rw [ej, e1] at hj
    rw [ej, ← Nat.add_assoc]; cases hj; exact c1
  · have ej : j = j / 4 * 4 + 2 := by omega
    rw [ej, e2] at hj
    rw [ej, ← Nat.add_assoc]; cases hj; exact c2
  · have ej : j = j / 4 * 4 + 3 := by omega
    rw [ej, e3] at hj
    rw [ej, ← Nat.add_assoc]; cases hj; exact c3
theorem infoChange : (Try.prog.info? 107).map (fun i => (i.zero, i.size, i.bytes)) = some (some (.agg #[.int .i64 0, .int .i64 0, .int .i64 0, .int .i64 0]), 4, 32) := by kernel_rfl
theorem IsCs.len {W : World} {a : Option Addr} {n c : Nat} {l : List Ch} (h : IsCs W (.slice a n c) l) : n = l.length := by
  obtain ⟨_, _, hv, _⟩ := h
  injection hv
/-- a copy of a list of changes: an append to an empty list -/
theorem wpList_copyC {w3 : World} {ops : Array Oper} {rest : List Oper} {o : Oper} {a : Go.Act} {Q : Exit → Go.Act → World → Prop} (hgd : o.guard = none) (s x : Operand)
    (ho : o.op = .call { callee := .builtin .append, args := #[s, x], argTypes := #[66, 66] }) {cv : Value} {k : List Ch} {m : Nat} (hmk : m = k.length)
    (hs : a.eval s = .slice (some ⟨w3.heap.size, 0, none⟩) 0 0) (hx : a.eval x = cv) (hk : IsCs w3 cv k) (hkv : cv = .slice none 0 0 ∨ ∃ a m c, cv = .slice (some a) m c) (hm : m ≤ 100000)
    (h : ∀ a2 c2 w5, IsCs w5 (.slice a2 m c2) k → Below w3.heap.size w3 w5 → wpList Try.prog ops Q rest (a.put o.dst (.slice a2 m c2)) w5) : wpList Try.prog ops Q (o :: rest) a (w3.alloc (.cells #[] 107)) := by
  obtain ⟨i0, hi0, hz0, hz1, hz2⟩ := info_parts infoChange
  have hown : (w3.alloc (.cells #[] 107)).ownsRow w3.heap.size 107 4 (.slice (some ⟨w3.heap.size, 0, none⟩) 0 0) 0 [] := World.ownsRow_lit w3 #[] 0 (Nat.le_refl _) (by decide) (by simp)
  have hb := alloc_below w3 (.cells #[] 107)
  rcases hkv with rfl | ⟨a0, m0, c0, rfl⟩
  · have hk0 : m = 0 := hmk.trans hk.len.symm
    subst hk0
    refine wpList_append_nil hgd s x _ ho w3.heap.size _ i0 4 Try.underlying66 hi0 _ 0 [] hs hown hx ?_
    have hk1 : k = [] := List.eq_nil_of_length_eq_zero hmk.symm
    subst hk1
    exact h _ _ _ ⟨_, _, rfl, fun h => absurd h (by simp)⟩ hb
  · have hm0 : m0 = m := hk.len.trans hmk.symm
    subst hm0
    have hnw : ∀ j u, (k.flatMap encC)[j]? = some u → (w3.alloc (.cells #[] 107)).cell? (a0.add j) = some u := by
      by_cases hz : k = []
      · subst hz
        intro j u hj
        simp at hj
      · obtain ⟨B, o', e, _⟩ := hk.at' (j := 0) (List.length_pos_iff.2 hz)
        injection e with e
        subst e
        exact (hk.below hb).news
    refine wpList_append_own_at _ hgd s x _ ho w3.heap.size _ i0 _ 4 32 Try.underlying66 hi0 hz0 hz1 hz2 rfl (by decide) _ 0 [] hs hown a0 m0 c0 (k.flatMap encC) hx (by rw [encC_len, hmk]) hnw (encC_one k) (by rw [Nat.zero_add]; exact Nat.le_trans hm (by decide)) (by omega) hb.size ?_
    intro v' w5 hown' hgrow _ _
    rw [Nat.zero_add, List.nil_append, hmk] at hown'
    have hcs := IsCs.of_row hown'
    have hcs0 := hcs
    obtain ⟨a2, c2, rfl, -⟩ := hcs0
    rw [← hmk] at hcs ⊢
    exact h _ _ _ hcs (hb.grown hgrow hb.size (fun j hj => by cases hj; exact Nat.le_refl _))
set_option maxRecDepth 100000 in
set_option maxHeartbeats 4000000 in
theorem spanApplies_walk (size : Int) (v : Value) (l : List Act) (cv : Value) (k : List Ch) (W : World) (hl : IsAs W v l) (hk : IsCs W cv k) (hkv : cv = .slice none 0 0 ∨ ∃ a m c, cv = .slice (some a) m c) :
    Calls Try.prog 7 #[.int .i64 size, v, cv] W fun e w' => e = .returned (.bool true) ∧ Below W.heap.size W w' := by
  have HAW := Lib.hid (fun W' => awake_any W')
  have HAS := Lib.hid hl
  have HCS := Lib.hid hk
  obtain ⟨ao, c, rfl, -⟩ := hl
  obtain ⟨n, hnn⟩ : ∃ n, n = l.length := ⟨_, rfl⟩
  have HN := Lib.hid hnn
  rw [← hnn] at HAS ⊢
  have hk0 := hk
  obtain ⟨ka, kc, rfl, -⟩ := hk0
  obtain ⟨m, hmm⟩ : ∃ m, m = k.length := ⟨_, rfl⟩
  have HM := Lib.hid hmm
  rw [← hmm] at HCS hkv ⊢
  have HKV := Lib.hid hkv
  have HR : Hid (Below W.heap.size W W) := Below.refl _ _
  clear hnn hmm hk hkv
  by_cases hf : n ≤ 60
  · have HFW : Hid (∀ W', Calls Try.prog 11 #[.slice ao n c] W' fun e w' => e = .returned (.bool true) ∧ W' = w') := fun W' => by
      have := few_any ao n c W'
      rwa [decide_eq_true hf] at this
    by_cases hm60 : (m : Int) > 60
    · go_enter Try.func7, Try.ntmps7
      go_wp2_with fail
      refine (HFW.out _).mono ?_
      rintro e w1 ⟨rfl, rfl⟩
      go_wp2_with fail
      refine (HAW.out _).mono ?_
      rintro e w2 ⟨rfl, hb⟩
      have HB2 := Lib.hid hb
      clear hb
      go_wp2_with fail
      go_ret
      exact ⟨rfl, HB2.out⟩
    · have HPL := Lib.hid (played_any (size := size) HAS.out (by have := HN.out; omega))
      have HMB : Hid (m ≤ 60) := by show _ ≤ _; omega
      go_enter Try.func7, Try.ntmps7
      go_wp2_with fail
      refine (HFW.out _).mono ?_
      rintro e w1 ⟨rfl, rfl⟩
      go_wp2_with fail
      refine HPL.out.mono ?_
      rintro e w2 ⟨p, z, s, v', rfl, hd, hb⟩
      obtain ⟨va, vn, vc, rfl⟩ := hd.out.shape
      obtain ⟨w3, HW3⟩ : ∃ w3, w3 = (w2.alloc (.cells #[.pointer p, .int .i64 z] 27)).alloc (.cells #[.int .i64 s, .slice va vn vc] 33) := ⟨_, rfl⟩
      have b3 : Below w2.heap.size w2 w3 := by rw [HW3]; exact (alloc_below _ _).alloc (by simp) _
      have n2 : Bx w2.heap.size [.pointer p, .int .i64 z] w3 := by rw [HW3]; exact (Bx.new w2 [.pointer p, .int .i64 z] 27 (by simp)).next (alloc_below _ _)
      have n3 : Bx (w2.heap.size + 1) [.int .i64 s, .slice va vn vc] w3 := by
        have := Bx.new (w2.alloc (.cells #[.pointer p, .int .i64 z] 27)) [.int .i64 s, .slice va vn vc] 33 (by simp)
        rw [World.size_alloc, ← HW3] at this
        exact this
      have HD3 := Lib.hid (hd.out.below b3)
      have b03 := hb.trans (b3.mono hb.size)
      have G2 := Lib.hid n2; have G3 := Lib.hid n3
      have HB3 := Lib.hid b03
      have HC3 := Lib.hid (HCS.out.below b03)
      have HW3' := Lib.hid HW3
      clear hb HW3 b3 n2 n3 hd b03
      go_upto_region 4 with fail
      rw [← HW3'.out]
      clear HW3'
      have HMB2 : Hid (m ≤ 100000) := by have := HMB.out; show _ ≤ _; omega
      go_wp2_with (at_builtin; refine wpList_copyC rfl _ _ rfl (w3 := w3) HM.out rfl rfl HC3.out HKV.out HMB2.out ?_)
      intro a2 c2 w5 hcs5 hb5
      have F2 := Lib.hid (G2.out.next hb5); have F3 := Lib.hid (G3.out.next hb5); have HD5 := Lib.hid (HD3.out.below hb5); have HC5 := Lib.hid (HC3.out.below hb5)
      have HCN := Lib.hid hcs5
      have HB5 := Lib.hid (HB3.out.trans (hb5.mono HB3.out.size))
      obtain ⟨CX, DX, HA1, HA2, HCB, HAG⟩ := both_Apply (l := k) HD5.out (by have := HMB.out; have := HM.out; omega)
      clear hb5 hcs5 G2 G3 HD3 HC3 HB3
      obtain ⟨m0, m1, -, -⟩ := F2.out.c2
      go_wp2_with fail
      refine (HA1.out _ _ (Below.refl _ _) HCN.out).mono ?_
      rintro e w6 ⟨q, s2, e2, rfl, HCX, hb⟩
      obtain ⟨w7, HW7⟩ : ∃ w7, w7 = w6.alloc (.cells #[.pointer q, .int .i64 s2] 27) := ⟨_, rfl⟩
      have b7 : Below w6.heap.size w6 w7 := by rw [HW7]; exact alloc_below _ _
      have n7 : Bx w6.heap.size [.pointer q, .int .i64 s2] w7 := by rw [HW7]; exact Bx.new w6 [.pointer q, .int .i64 s2] 27 (by simp)
      have b57 := hb.trans (b7.mono hb.size)
      have K2 := Lib.hid (F2.out.next b57); have K3 := Lib.hid (F3.out.next b57); have K7 := Lib.hid n7
      have HC7 := Lib.hid (HC5.out.below b57); have HCN7 := Lib.hid (HCN.out.below b57); have HD7 := Lib.hid (HD5.out.below b57)
      have HCX7 := Lib.hid (HCB.out _ _ _ _ _ HCX.out b7)
      have HB57 := Lib.hid b57
      have HB7 := Lib.hid (HB5.out.trans (b57.mono HB5.out.size))
      have HW7' := Lib.hid HW7
      clear HW7 b7 n7 b57 hb m0 m1 F2 F3 HC5 HCN HD5 HCX HB5 HA1
      go_upto_region 6 with fail
      rw [← HW7'.out]
      clear HW7'
      obtain ⟨r0, r1, -, -⟩ := K3.out.c2
      go_wp2_with fail
      refine (HA2.out _ _ HB57.out HC7.out).mono ?_
      rintro e w8 ⟨s', b8, n8, c8, e', rfl, HDX, hb⟩
      obtain ⟨he, hdu⟩ := HAG.out _ _ _ _ _ _ _ (HCB.out _ _ _ _ _ HCX7.out hb) HDX.out
      obtain ⟨w9, HW9⟩ : ∃ w9, w9 = w8.alloc (.cells #[.int .i64 s', .slice b8 n8 c8] 33) := ⟨_, rfl⟩
      have b9 : Below w8.heap.size w8 w9 := by rw [HW9]; exact alloc_below _ _
      have n9 : Bx w8.heap.size [.int .i64 s', .slice b8 n8 c8] w9 := by rw [HW9]; exact Bx.new w8 [.int .i64 s', .slice b8 n8 c8] 33 (by simp)
      have b79 := hb.trans (b9.mono hb.size)
      have L2 := Lib.hid (K2.out.next b79); have L3 := Lib.hid (K3.out.next b79); have L7 := Lib.hid (K7.out.next b79); have L9 := Lib.hid n9
      have HC9 := Lib.hid (HC7.out.below b79); have HCN9 := Lib.hid (HCN7.out.below b79); have HD9 := Lib.hid (HD7.out.below b79)
      have HDU := Lib.hid (hdu.below b9)
      have HB9 := Lib.hid (HB7.out.trans (b79.mono HB7.out.size))
      have HW9' := Lib.hid HW9
      subst he
      clear HW9 b9 n9 b79 hb r0 r1 K2 K3 K7 HC7 HCN7 HD7 HB7 HCX7 HDX hdu HA2 HAG HCB HB57
      have HALL : Hid (∀ W', Below w9.heap.size w9 W' → (W'.cell? ⟨w2.heap.size, 0, none⟩ = some (.pointer p) ∧ W'.cell? ⟨w2.heap.size, 1, none⟩ = some (.int .i64 z)) ∧ (W'.cell? ⟨w2.heap.size + 1, 0, none⟩ = some (.int .i64 s) ∧ W'.cell? ⟨w2.heap.size + 1, 1, none⟩ = some (.slice va vn vc)) ∧ (W'.cell? ⟨w6.heap.size, 0, none⟩ = some (.pointer q) ∧ W'.cell? ⟨w6.heap.size, 1, none⟩ = some (.int .i64 s2)) ∧ (W'.cell? ⟨w8.heap.size, 0, none⟩ = some (.int .i64 s') ∧ W'.cell? ⟨w8.heap.size, 1, none⟩ = some (.slice b8 n8 c8))) := fun W' h =>
        ⟨⟨(L2.out.next h).c2.1, (L2.out.next h).c2.2.1⟩, ⟨(L3.out.next h).c2.1, (L3.out.next h).c2.2.1⟩, ⟨(L7.out.next h).c2.1, (L7.out.next h).c2.2.1⟩, ⟨(L9.out.next h).c2.1, (L9.out.next h).c2.2.1⟩⟩
      go_upto_region 7 with fail
      rw [← HW9'.out]
      clear HW9'
      obtain ⟨⟨a0, a1⟩, ⟨a2, a3⟩, ⟨a4, a5⟩, ⟨a6, a7⟩⟩ := HALL.out _ (Below.refl _ _)
      go_wp2_with fail
      refine (same_dual HDU.out).mono ?_
      rintro e x1 ⟨rfl, hb⟩
      have B1 := Lib.hid hb.out
      clear hb a0 a1 a2 a3 a4 a5 a6 a7
      obtain ⟨⟨a0, a1⟩, ⟨a2, a3⟩, ⟨a4, a5⟩, ⟨a6, a7⟩⟩ := HALL.out _ B1.out
      go_wp2_with fail
      refine (same_dual (HD9.out.below B1.out)).mono ?_
      rintro e x2 ⟨rfl, hb⟩
      have B2 := Lib.hid (B1.out.trans (hb.out.mono B1.out.size))
      clear hb a0 a1 a2 a3 a4 a5 a6 a7
      go_wp2_with fail
      refine (RChanged_same (HCN9.out.below B2.out) (HC9.out.below B2.out) (by have := HM.out; have := HMB.out; omega)).mono ?_
      rintro e x3 ⟨rfl, hb⟩
      have B3 := Lib.hid (B2.out.trans (hb.out.mono B2.out.size))
      clear hb
      go_wp2_with fail
      refine (HAW.out _).mono ?_
      rintro e x4 ⟨rfl, hb⟩
      have HF := Lib.hid (HB9.out.trans ((B3.out.trans (hb.mono B3.out.size)).mono HB9.out.size))
      clear hb
      go_wp2_with fail
      go_ret
      exact ⟨rfl, HF.out⟩
  · have HFW : Hid (∀ W', Calls Try.prog 11 #[.slice ao n c] W' fun e w' => e = .returned (.bool false) ∧ W' = w') := fun W' => by
      have := few_any ao n c W'
      rwa [decide_eq_false hf] at this
    go_enter Try.func7, Try.ntmps7
    go_wp2_with fail
    refine (HFW.out _).mono ?_
    rintro e w1 ⟨rfl, rfl⟩
    go_wp2_with fail
    refine (HAW.out _).mono ?_
    rintro e w2 ⟨rfl, hb⟩
    have HB2 := Lib.hid hb
    clear hb
    go_wp2_with fail
    go_ret
    exact ⟨rfl, HB2.out⟩
section
open Go.ChangeShapes Go.WideShapes Go.ChangeAt Go.Deep
theorem four_ch : Try.prog.cellsOf 107 = 4 := by kernel_rfl
section
variable {H : Type} {enc : TypeId × Value → H} {W : World} {base : Nat} {sp : Nat → Bool} {held : Bool}
theorem ch_cells {fuel : Nat} {cs : List Value} {x : DataW H × List MemPlace} (h : DataW.trod enc Try.prog W base sp held fuel 107 cs = some x) :
    ∃ a : Ch, cs[0]? = some (.int .i64 a.lo) ∧ cs[1]? = some (.int .i64 a.hi) ∧ cs[2]? = some (.int .i64 a.fr) ∧ cs[3]? = some (.int .i64 a.tt) ∧ cs.length = 4 := by
  obtain ⟨xs, n, _, _, hl, hx, hg⟩ := DataW.trod_struct Try.underlying107 h
  have hx : xs.length = 4 := hx
  obtain ⟨b0, e0⟩ := fld_int (i := 0) (by omega) (hg 0 _ rfl)
  obtain ⟨b1, e1⟩ := fld_int (i := 1) (by omega) (hg 1 _ rfl)
  obtain ⟨b2, e2⟩ := fld_int (i := 2) (by omega) (hg 2 _ rfl)
  obtain ⟨b3, e3⟩ := fld_int (i := 3) (by omega) (hg 3 _ rfl)
  exact ⟨⟨b0, b1, b2, b3⟩, e0, e1, e2, e3, by rw [hl, four_ch]⟩
/-- a list of changes -/
theorem changes_of {v : Value} {d : DataW H} {p : List MemPlace} (h : DataW.Trod enc Try.prog W 0 (fun _ => true) true 66 v d p) (hv : ∃ a n c, v = .slice a n c) : ∃ l, IsCs W v l ∧ (v = .slice none 0 0 ∨ ∃ a m c, v = .slice (some a) m c) := by
  obtain ⟨a0, len0, cap0, rfl⟩ := hv
  obtain ⟨fuel, hf⟩ := h
  rcases open_slice Try.underlying66 hf with ⟨hcs, _⟩ | ⟨a, len, cap, m, n, D, Pl, hcs, _, hl, _, hm, _, hi⟩
  · simp [Value.cells] at hcs
    obtain ⟨rfl, rfl, rfl⟩ := hcs
    exact ⟨[], ⟨none, 0, rfl, fun h => absurd h (by simp)⟩, .inl rfl⟩
  · simp [Value.cells] at hcs
    obtain ⟨rfl, rfl, rfl⟩ := hcs
    simp only [if_true] at hm
    have hex : ∀ i, i < len0 → ∃ x : Ch, ∀ j, j < 4 → W.cell? ((a.add (i * 4)).add j) = [Value.int .i64 x.lo, .int .i64 x.hi, .int .i64 x.fr, .int .i64 x.tt][j]? := fun i hlt => by
      obtain ⟨cs', hc, ht⟩ := hi i (by omega)
      rw [four_ch] at hc
      obtain ⟨_, hln, hat⟩ := World.cells?_some hc
      obtain ⟨x, e0, e1, e2, e3, _⟩ := ch_cells ht
      refine ⟨x, fun j hj => ?_⟩
      rw [hat j hj]
      have : j = 0 ∨ j = 1 ∨ j = 2 ∨ j = 3 := by omega
      rcases this with rfl | rfl | rfl | rfl
      · exact e0
      · exact e1
      · exact e2
      · exact e3
    obtain ⟨g, hg⟩ : ∃ g : Nat → Ch, ∀ i, i < len0 → ∀ j, j < 4 → W.cell? ((a.add (i * 4)).add j) = [Value.int .i64 (g i).lo, .int .i64 (g i).hi, .int .i64 (g i).fr, .int .i64 (g i).tt][j]? :=
      ⟨fun i => if h : i < len0 then (hex i h).choose else ⟨0, 0, 0, 0⟩, fun i h => by simp only [dif_pos h]; exact (hex i h).choose_spec⟩
    refine ⟨(List.range len0).map g, ⟨some a, cap0, by simp, fun hp => ?_⟩, .inr ⟨_, _, _, rfl⟩⟩
    have hp : 0 < len0 := by simpa using hp
    obtain ⟨b, o, s⟩ := a
    have h00 := hg 0 hp 0 (by decide)
    obtain rfl : s = none := by
      cases s with
      | none => rfl
      | some _ =>
        exfalso
        unfold World.cell? Addr.add at h00
        simp only [if_true] at h00
        split at h00 <;> simp at h00
    refine ⟨b, o, rfl, ?_, fun j hj => ?_⟩
    · have h1 : W.cell? ⟨b, o, none⟩ = some (.int .i64 (g 0).lo) := by simpa [Addr.add] using h00
      exact World.block_lt_of_cell? _ _ h1
    · have hj : j < len0 := by simpa using hj
      have k : ∀ i, i < 4 → W.cell? ⟨b, o + j * 4 + i, none⟩ = [Value.int .i64 (g j).lo, .int .i64 (g j).hi, .int .i64 (g j).fr, .int .i64 (g j).tt][i]? := fun i hi => by
        have := hg j hj i hi
        rwa [addz, addz] at this
      have e : ((List.range len0).map g)[j]'(by simpa using hj) = g j := by simp
      refine ⟨?_, ?_, ?_, ?_⟩
      · rw [e]; exact k 0 (by decide)
      · rw [e]; exact k 1 (by decide)
      · rw [e]; exact k 2 (by decide)
      · rw [e]; exact k 3 (by decide)
end
end
end Go.Proofs.Ytjbenhmpeceaeaa
