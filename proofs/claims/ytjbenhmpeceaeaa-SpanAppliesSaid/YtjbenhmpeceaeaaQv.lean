/- The contract of the document's Apply. -/
import Derived.Test.YtjbenhmpeceaeaaQt
import Derived.Test.YtjbenhmpeceaeaaQr
import Derived.Test.YtjbenhmpeceaeaaQe
namespace Go.Proofs.Ytjbenhmpeceaeaa
open Go Go.RowKit Gs

theorem cnt_full {g : Int → Int} {k : Int} : ∀ {l : List R} {a b : Int}, Fits g a l b → (cnt k l = b - a ↔ ∀ x, a ≤ x → x < b → g x = k)
  | [], a, b, h => by
    have h : a = b := h
    subst h
    exact ⟨fun _ x h1 h2 => absurd h2 (by omega), fun _ => by show 0 = _; omega⟩
  | r :: l, a, b, h => by
    have ih := cnt_full (k := k) h.2.2.2
    have hbd := cb_bd 0 k h.2.2.2
    obtain ⟨h1, h2, h3, h4⟩ := h
    have hle := h4.le
    show (if r.tag = k then r.hi - r.lo else 0) + cnt k l = _ ↔ _
    constructor
    · intro he x x1 x2
      by_cases ht : r.tag = k
      · rw [if_pos ht] at he
        by_cases hx : x < r.hi
        · rw [h3 x (by omega) hx, ht]
        · exact ih.1 (by omega) x (by omega) x2
      · rw [if_neg ht] at he
        omega
    · intro hall
      have ht : r.tag = k := by rw [← h3 a (by omega) (by omega)]; exact hall a (Int.le_refl _) (by omega)
      rw [if_pos ht, ih.2 fun x x1 x2 => hall x (by omega) x2]
      omega
theorem gS_all {g : Int → Int} {lo hi fr tt : Int} (h : ∀ x, lo ≤ x → x < hi → g x = fr) : gS g lo hi fr tt false = put g lo hi tt := by
  funext x
  show (if lo ≤ x ∧ x < hi ∧ (false = true ∨ g x = fr) then tt else g x) = if lo ≤ x ∧ x < hi then tt else g x
  by_cases hx : lo ≤ x ∧ x < hi
  · rw [if_pos hx, if_pos ⟨hx.1, hx.2, .inr (h x hx.1 hx.2)⟩]
  · rw [if_neg hx, if_neg fun h => hx ⟨h.1, h.2.1⟩]
/-- what the document's Apply answers -/
def RApP (size : Int) (r : Int × (Int → Int)) (s : Int) (v : Value) (e : Int) (W : World) : Prop :=
  e = r.1 ∧ ((e ≠ 0 ∧ s = 0 ∧ v = .slice none 0 0) ∨ (e = 0 ∧ s = size ∧ ∃ L, Gs.Can r.2 0 L size ∧ IsRs 0 W v L))
/-- what one change makes of the document's map -/
theorem ru_chK {f : Int → Int} {size : Int} {c : Ch} {L : List R} {B : Nat} {s : Int} {v : Value} {n e : Int} {W : World} (h0 : chE size f c = 0) (hg : gS f c.lo c.hi c.fr c.tt false = put f c.lo c.hi c.tt) (h : RU f size c.lo c.hi c.fr c.tt false L B s v n e W) :
    e = chK size f c ∧ ((e ≠ 0 ∧ s = 0 ∧ v = .slice none 0 0) ∨ (e = 0 ∧ s = size ∧ ∃ L, Gs.Can (put f c.lo c.hi c.tt) 0 L size ∧ IsRs 0 W v L ∧ L.length ≤ 4096)) := by
  obtain ⟨L', hL, h⟩ := h
  rw [hg] at hL
  rcases h with ⟨h1, rfl, rfl, rfl, rfl⟩ | ⟨h1, rfl, rfl, h2, _⟩
  · refine ⟨?_, .inl ⟨by decide, rfl, rfl⟩⟩
    unfold chK
    rw [if_neg (fun h => h h0), if_pos ⟨L', hL, h1⟩]
  · refine ⟨?_, .inr ⟨rfl, rfl, L', hL, h2.mono (Nat.zero_le _), h1⟩⟩
    unfold chK
    rw [if_neg (fun h => h h0), if_neg]
    rintro ⟨K, hK, hk⟩
    have := hK.same hL
    subst this
    omega
set_option maxRecDepth 100000 in
set_option maxHeartbeats 8000000 in
theorem RApply_any {f : Int → Int} {size : Int} {base : Nat} {W : World} {v cv : Value} {L : List R} {l : List Ch} (hrs : IsRs base W v L) (hL : Gs.Can f 0 L size) (hx : Ctx f 0 size) (h1 : 1 ≤ size) (hlen : L.length ≤ 4096) (hl : IsCs W cv l) (hn : l.length ≤ 100000) :
    Calls Try.prog 35 #[.agg #[.int .i64 size, v], cv] W fun e w' => ∃ s v' e2, e = .returned (.tuple #[.agg #[.int .i64 s, v'], .int .i64 e2]) ∧ Hid (RApP size (apF size f l) s v' e2 w') ∧ Below W.heap.size W w' := by
  have HCS := Lib.hid hl
  have hne : 0 < L.length := by
    rcases fits_cut hL.1 with ⟨_, e⟩ | ⟨r, k, rfl⟩
    · omega
    · simp
  obtain ⟨ao, c, rfl, -⟩ := hl
  have hrs0 := hrs
  obtain ⟨va, vc, rfl, -⟩ := hrs0
  obtain ⟨vn, hvn⟩ : ∃ vn, vn = L.length := ⟨_, rfl⟩
  rw [← hvn] at hrs hne ⊢
  obtain ⟨n, hnn⟩ : ∃ n, n = l.length := ⟨_, rfl⟩
  have HN := Lib.hid hnn
  rw [← hnn] at hn HCS ⊢
  obtain ⟨w0, HW⟩ : ∃ w0, w0 = (W.alloc (.cells #[.int .i64 size, .slice va vn vc] 33)).alloc (.cells #[.int .i64 0, .slice none 0 0] 33) := ⟨_, rfl⟩
  have hb : Below W.heap.size W w0 := by rw [HW]; exact (alloc_below _ _).alloc (by simp) _
  have n1 : Bx W.heap.size [.int .i64 size, .slice va vn vc] w0 := by rw [HW]; exact (Bx.new W [.int .i64 size, .slice va vn vc] 33 (by simp)).next (alloc_below _ _)
  have n2 : Bx (W.heap.size + 1) [.int .i64 0, .slice none 0 0] w0 := by
    have := Bx.new (W.alloc (.cells #[.int .i64 size, .slice va vn vc] 33)) [.int .i64 0, .slice none 0 0] 33 (by simp)
    rw [World.size_alloc, ← HW] at this
    exact this
  have HUS : Hid (∀ W', Calls Try.prog 42 #[.agg #[.int .i64 size, .slice va vn vc]] W' fun e w' => e = .returned (.bool true) ∧ Below W'.heap.size W' w') := fun W' => by
    have := RUsable_any size va vn vc W'
    rwa [decide_eq_true hne] at this
  have HRS := Lib.hid ((hrs.mono (Nat.zero_le _)).below hb)
  have HST : Hid (Gs.Can f 0 L size ∧ Ctx f 0 size ∧ L.length ≤ 4096) := ⟨hL, hx, hlen⟩
  have HSZ : Hid (1 ≤ size ∧ size ≤ 1099511627776) := ⟨h1, hx.2.1⟩
  have H1 := Lib.hid n1; have H2 := Lib.hid n2; have HB := Lib.hid hb; have HW' := Lib.hid HW
  obtain ⟨m0, m1, -, -⟩ := n1.c2
  clear hnn hb n1 n2 HW hrs hL hx h1 hlen hne hvn
  go_enter Try.func35, Try.ntmps35
  go_upto_region 1 with fail
  rw [← HW'.out]
  go_wp2_with fail
  refine (HUS.out _).mono ?_
  rintro e w1 ⟨rfl, hb⟩
  have G1 := Lib.hid (H1.out.next hb); have G2 := Lib.hid (H2.out.next hb); have HB1 := Lib.hid (HB.out.trans (hb.mono HB.out.size)); have HRS1 := Lib.hid (HRS.out.below hb)
  clear hb m0 m1 H1 H2 HB HRS HW' HUS
  go_wp2_with fail
  go_loopg [6] n (fun k i wr => ∃ (j : Nat) (va : Option Addr) (vn vc : Nat) (g : Int → Int) (L : List R), Hid (k + j = n) ∧ i = .int .i64 j ∧ Hid (apF size f l = apF size g (l.drop j)) ∧ Hid (IsRs 0 wr (.slice va vn vc) L) ∧ Hid (Gs.Can g 0 L size ∧ Ctx g 0 size ∧ L.length ≤ 4096) ∧ Hid (Bx W.heap.size [.int .i64 size, .slice va vn vc] wr) ∧ Hid (Bx (W.heap.size + 1) [.int .i64 0, .slice none 0 0] wr) ∧ Hid (Below W.heap.size W wr))
  case atStart => exact ⟨0, va, vn, vc, f, L, by show _ = _; omega, rfl, rfl, HRS1, HST, G1, G2, HB1⟩
  case round =>
    obtain ⟨j, va, vn, vc, g, L, HK, rfl, HAP, HRS, HST, F1, F2, HBr⟩ := hrel
    clear HRS1 G1 G2 HB1
    have hjn : j ≤ n := by have := HK.out; omega
    by_cases hlt : j < n
    · have hlt2 : (j : Int) < n := by omega
      have hjl : j < l.length := by have := HN.out; omega
      obtain ⟨B, o, rfl, g0, g1, g2, g3⟩ := (HCS.out.below HBr.out).at' hjl
      have HDR : Hid (l.drop j = l[j] :: l.drop (j + 1)) := List.drop_eq_getElem_cons hjl
      generalize l[j] = a at *
      obtain ⟨alo, ahi, afr, att⟩ := a
      simp only at g0 g1 g2 g3
      obtain ⟨w2, HW2⟩ : ∃ w2, w2 = wr.alloc (.cells #[.int .i64 alo, .int .i64 ahi, .int .i64 afr, .int .i64 att] 107) := ⟨_, rfl⟩
      have b2 : Below wr.heap.size wr w2 := by rw [HW2]; exact alloc_below _ _
      have n3 : Bx wr.heap.size [.int .i64 alo, .int .i64 ahi, .int .i64 afr, .int .i64 att] w2 := by rw [HW2]; exact Bx.new wr [.int .i64 alo, .int .i64 ahi, .int .i64 afr, .int .i64 att] 107 (by simp)
      have K1 := Lib.hid (F1.out.next b2); have K2 := Lib.hid (F2.out.next b2); have K3 := Lib.hid n3
      have HB2 := Lib.hid (HBr.out.trans (b2.mono HBr.out.size))
      have HRS2 := Lib.hid (HRS.out.below b2)
      have HSR : Hid (W.heap.size + 1 < wr.heap.size) := F2.out.lt
      have HW2' := Lib.hid HW2
      have HERR : Hid (∀ e0 : Int, e0 ≠ 0 → chE size g ⟨alo, ahi, afr, att⟩ = e0 → ∀ W', RApP size (apF size f l) 0 (.slice none 0 0) e0 W') := fun e0 h0 he W' => by
        have hk : chK size g ⟨alo, ahi, afr, att⟩ = e0 := by unfold chK; rw [if_pos (by rw [he]; exact h0), he]
        show RApP _ (apF _ _ _) _ _ _ _
        rw [HAP.out, HDR.out, apF_err (by rw [hk]; exact h0), hk]
        exact ⟨rfl, .inl ⟨h0, rfl, rfl⟩⟩
      have HBF : Hid (∀ W' x y, Below W.heap.size W W' → Below W.heap.size W ((W'.setCell ⟨W.heap.size + 1, 0, none⟩ x).setCell ⟨W.heap.size + 1, 1, none⟩ y)) := fun W' x y h => below_put h (by omega) _ _
      clear HW2 n3 b2
      go_upto_region 7 with fail
      rw [← HW2'.out]
      clear g0 g1 g2 g3 HW2'
      obtain ⟨m0, m1, -, -⟩ := K1.out.c2
      have c0 := (K3.out.c 0 _ rfl).1; have c1 := (K3.out.c 1 _ rfl).1; have c2 := (K3.out.c 2 _ rfl).1; have c3 := (K3.out.c 3 _ rfl).1
      by_cases h1 : 0 ≤ alo
      · by_cases h2 : alo < ahi
        · by_cases h3 : ahi ≤ size
          · have HV : Hid (0 ≤ alo ∧ alo < ahi ∧ ahi ≤ size) := ⟨h1, h2, h3⟩
            by_cases ht : isT afr = true
            · have HT1 : Hid (∀ W', Calls Try.prog 51 #[.int .i64 afr] W' fun e w' => e = .returned (.bool true) ∧ W' = w') := fun W' => by
                have := RTag_any afr W'
                rwa [ht] at this
              by_cases ht2 : isT att = true
              · have HT2 : Hid (∀ W', Calls Try.prog 51 #[.int .i64 att] W' fun e w' => e = .returned (.bool true) ∧ W' = w') := fun W' => by
                  have := RTag_any att W'
                  rwa [ht2] at this
                have HTT : Hid (isT afr = true ∧ isT att = true) := ⟨ht, ht2⟩
                obtain ⟨N, hN⟩ : ∃ N, N = cnt afr (clip alo ahi L) := ⟨_, rfl⟩
                have hvn : vn = L.length := by
                  obtain ⟨_, _, hv, _⟩ := HRS.out
                  injection hv with _ h _
                have hL0 : 0 < L.length := by
                  rcases fits_cut HST.out.1.1 with ⟨_, e⟩ | ⟨r, k, rfl⟩
                  · have := HSZ.out; omega
                  · simp
                have HCN : Hid (∀ W', Below w2.heap.size w2 W' → Calls Try.prog 23 #[.agg #[.int .i64 size, .slice va vn vc], .int .i64 alo, .int .i64 ahi, .int .i64 afr] W' fun e w' => e = .returned (.tuple #[.int .i64 N, .int .i64 0]) ∧ Below W'.heap.size W' w') := fun W' hW => by
                  rw [hN]
                  exact RCount_ok (HRS2.out.below hW) HST.out.1 HST.out.2.1 hL0 HST.out.2.2 HV.out.1 (by have := HV.out; omega) HV.out.2.2 HTT.out.1
                have HSW : Hid (∀ W', Below w2.heap.size w2 W' → Calls Try.prog 43 #[.agg #[.int .i64 size, .slice va vn vc], .int .i64 alo, .int .i64 ahi, .int .i64 afr, .int .i64 att, .bool false] W' fun e w' => ∃ s v' n e2, e = .returned (.tuple #[.agg #[.int .i64 s, v'], .int .i64 n, .int .i64 e2]) ∧ Hid (RU g size alo ahi afr att false L W'.heap.size s v' n e2 w') ∧ Below W'.heap.size W' w') := fun W' hW =>
                  RSwap_from (HRS2.out.below hW) HST.out.1 HST.out.2.1 hL0 HST.out.2.2 HV.out.1 (by have := HV.out; omega) HV.out.2.2 HTT.out.2 HTT.out.1
                have HIF : Hid (N = ahi - alo ↔ ∀ x, alo ≤ x → x < ahi → g x = afr) := by
                  rw [hN]
                  exact cnt_full (clip_can HST.out.1 HV.out.1 (by have := HV.out; omega) HV.out.2.2).1
                have hE : chE size g ⟨alo, ahi, afr, att⟩ = open Classical in if ∀ x, alo ≤ x → x < ahi → g x = afr then 0 else 30 := by
                  unfold chE
                  rw [if_neg (by simp; omega), if_pos ⟨ht, ht2⟩]
                have HE := Lib.hid hE
                have hw1 : IntKind.i64.wrap (ahi - alo) = ahi - alo := IntWalk.i64_in _ (by have := HSZ.out; omega)
                clear hN hvn hL0 hE ht ht2
                go_wp2_with fail
                refine (HT1.out _).mono ?_
                rintro e w3 ⟨rfl, rfl⟩
                go_wp2_with fail
                refine (HT2.out _).mono ?_
                rintro e w3 ⟨rfl, rfl⟩
                go_wp2_with fail
                refine (HCN.out _ (Below.refl _ _)).mono ?_
                rintro e w3 ⟨rfl, hb⟩
                have M1 := Lib.hid (K1.out.next hb); have M2' := Lib.hid (K2.out.next hb); have M3 := Lib.hid (K3.out.next hb)
                have HB3 := Lib.hid (HB2.out.trans (hb.mono HB2.out.size))
                have HB23 := Lib.hid hb
                clear hb m0 m1 c0 c1 c2 c3
                obtain ⟨m0, m1, -, -⟩ := M1.out.c2
                have c0 := (M3.out.c 0 _ rfl).1; have c1 := (M3.out.c 1 _ rfl).1; have c2 := (M3.out.c 2 _ rfl).1; have c3 := (M3.out.c 3 _ rfl).1
                by_cases hfull : N = ahi - alo
                · have HALLT := Lib.hid (HIF.out.1 hfull)
                  have HE0 : Hid (chE size g ⟨alo, ahi, afr, att⟩ = 0) := by
                    show chE _ _ _ = 0
                    rw [HE.out, if_pos HALLT.out]
                  clear HIF
                  subst hfull
                  go_wp2_with fail
                  refine (HSW.out _ HB23.out).mono ?_
                  rintro e w4 ⟨s2, v2, n2, e2, rfl, HRU, hb⟩
                  have HHU := Lib.hid (ru_chK (c := ⟨alo, ahi, afr, att⟩) HE0.out (gS_all HALLT.out) HRU.out)
                  have HV2 : Hid (∃ a n c, v2 = .slice a n c) := by
                    rcases HHU.out.2 with ⟨_, _, h⟩ | ⟨_, _, _, _, ⟨_, _, h, _⟩, _⟩
                    · exact ⟨_, _, _, h⟩
                    · exact ⟨_, _, _, h⟩
                  obtain ⟨va2, vn2, vc2, rfl⟩ := HV2.out
                  obtain ⟨w5, HW5⟩ : ∃ w5, w5 = w4.alloc (.cells #[.int .i64 s2, .slice va2 vn2 vc2] 33) := ⟨_, rfl⟩
                  have b5 : Below w4.heap.size w4 w5 := by rw [HW5]; exact alloc_below _ _
                  have n5 : Bx w4.heap.size [.int .i64 s2, .slice va2 vn2 vc2] w5 := by rw [HW5]; exact Bx.new w4 [.int .i64 s2, .slice va2 vn2 vc2] 33 (by simp)
                  have b45 := hb.trans (b5.mono hb.size)
                  have L1 := Lib.hid (M1.out.next b45); have L2 := Lib.hid (M2'.out.next b45); have L5 := Lib.hid n5
                  have HB5 := Lib.hid (HB3.out.trans (b45.mono HB3.out.size))
                  have HLT5 : Hid (W.heap.size + 1 < w4.heap.size) := Nat.lt_of_lt_of_le M2'.out.lt hb.size
                  have HBB5 := Lib.hid b5
                  have HW5' := Lib.hid HW5
                  clear HW5 b5 n5 b45 hb m0 m1 c0 c1 c2 c3 M1 M2' M3 HB3 HRU HV2 h1 h2 h3 hw1
                  go_upto_region 15 with fail
                  rw [← HW5'.out]
                  clear HW5'
                  rcases HHU.out.2 with ⟨h1, rfl, h9⟩ | ⟨rfl, rfl, L', h3, h4, h5⟩
                  · injection h9 with h91 h92 h93
                    subst h91; subst h92; subst h93
                    have HX : Hid (∀ W', RApP size (apF size f l) 0 (.slice none 0 0) e2 W') := fun W' => by
                      show RApP _ (apF _ _ _) _ _ _ _
                      rw [HAP.out, HDR.out, apF_err (by rw [← HHU.out.1]; exact h1)]
                      exact ⟨HHU.out.1, .inl ⟨h1, rfl, rfl⟩⟩
                    have hne : (e2 == 0) = false := beq_eq_false_iff_ne.2 h1
                    obtain ⟨x0, x1, x2, x3⟩ := L2.out.c2
                    obtain ⟨u0, u1, -, -⟩ := (L2.out.two (.int .i64 0) (.slice none 0 0)).c2
                    clear h1
                    go_wp2_with fail
                    refine bodyPost_ret (v := .tuple #[.agg #[.int .i64 0, .slice none 0 0], .int .i64 e2]) (by simp [results, Try.results35, go_sem, u0, u1]) rfl ?_
                    first
                    | exact ⟨0, _, e2, rfl, HX.out _, HB5.out⟩
                    | exact ⟨0, _, e2, rfl, HX.out _, HBF.out _ _ _ HB5.out⟩
                  · have HA2 : Hid (apF s2 f l = apF s2 (put g alo ahi att) (l.drop (j + 1))) := by
                      show _ = _
                      rw [HAP.out, HDR.out, apF_ok HHU.out.1.symm]
                    have HI5 : Hid (IsRs 0 w5 (.slice va2 vn2 vc2) L') := h4.below HBB5.out
                    have HST2 : Hid (Gs.Can (put g alo ahi att) 0 L' s2 ∧ Ctx (put g alo ahi att) 0 s2 ∧ L'.length ≤ 4096) := ⟨h3, put_ctx HST.out.2.1 (of_decide_eq_true HTT.out.2).1 (of_decide_eq_true HTT.out.2).2, h5⟩
                    obtain ⟨p0, p1, -, -⟩ := L5.out.c2
                    obtain ⟨m0, m1, m2, m3⟩ := L1.out.c2
                    clear h3 h4 h5
                    go_wp2_with fail
                    go_roundg (n - (j + 1))
                    case measure => have := HK.out; omega
                    case rel => exact ⟨j + 1, va2, vn2, vc2, _, L', by show _ = _; omega, by go_num, HA2, (HI5.out.apart (.inr fun x e => by rw [L1.out.c2.2.1] at e; cases e)).apart (.inr fun x e => by rw [((L1.out.put (i := 0) (by simp) (by decide) _).c 1 _ rfl).1] at e; cases e), HST2, L1.out.two _ _, (L2.out.other (by omega) _).other (by omega) _, below_put HB5.out (Nat.le_refl _) _ _⟩
                · have HALLT : Hid (¬ ∀ x, alo ≤ x → x < ahi → g x = afr) := fun h => hfull (HIF.out.2 h)
                  have hbe : (N == ahi - alo) = false := beq_eq_false_iff_ne.2 hfull
                  have HX := Lib.hid (HERR.out 30 (by decide) (by rw [HE.out, if_neg HALLT.out]))
                  obtain ⟨x0, x1, x2, x3⟩ := M2'.out.c2
                  obtain ⟨u0, u1, -, -⟩ := (M2'.out.two (.int .i64 0) (.slice none 0 0)).c2
                  go_wp2_with fail
                  refine bodyPost_ret (v := .tuple #[.agg #[.int .i64 0, .slice none 0 0], .int .i64 30]) (by simp [results, Try.results35, go_sem, u0, u1]) rfl ?_
                  first
                  | exact ⟨0, _, 30, rfl, HX.out _, HB3.out⟩
                  | exact ⟨0, _, 30, rfl, HX.out _, HBF.out _ _ _ HB3.out⟩
              · have ht2 := Bool.eq_false_iff.2 ht2
                have HT2 : Hid (∀ W', Calls Try.prog 51 #[.int .i64 att] W' fun e w' => e = .returned (.bool false) ∧ W' = w') := fun W' => by
                  have := RTag_any att W'
                  rwa [ht2] at this
                have HEE : Hid (chE size g ⟨alo, ahi, afr, att⟩ = 2) := by
                  show chE _ _ _ = 2
                  unfold chE
                  rw [if_neg (by simp; omega), if_neg (by simp [ht2])]
                clear ht ht2
                go_wp2_with fail
                refine (HT1.out _).mono ?_
                rintro e w3 ⟨rfl, rfl⟩
                go_wp2_with fail
                refine (HT2.out _).mono ?_
                rintro e w3 ⟨rfl, rfl⟩
                have HX := Lib.hid (HERR.out 2 (by decide) HEE.out)
                obtain ⟨x0, x1, x2, x3⟩ := K2.out.c2
                obtain ⟨u0, u1, -, -⟩ := (K2.out.two (.int .i64 0) (.slice none 0 0)).c2
                go_wp2_with fail
                refine bodyPost_ret (v := .tuple #[.agg #[.int .i64 0, .slice none 0 0], .int .i64 2]) (by simp [results, Try.results35, go_sem, u0, u1]) rfl ?_
                first
                | exact ⟨0, _, 2, rfl, HX.out _, HB2.out⟩
                | exact ⟨0, _, 2, rfl, HX.out _, HBF.out _ _ _ HB2.out⟩
            · have ht := Bool.eq_false_iff.2 ht
              have HT1 : Hid (∀ W', Calls Try.prog 51 #[.int .i64 afr] W' fun e w' => e = .returned (.bool false) ∧ W' = w') := fun W' => by
                have := RTag_any afr W'
                rwa [ht] at this
              have HEE : Hid (chE size g ⟨alo, ahi, afr, att⟩ = 2) := by
                show chE _ _ _ = 2
                unfold chE
                rw [if_neg (by simp; omega), if_neg (by simp [ht])]
              clear ht
              go_wp2_with fail
              refine (HT1.out _).mono ?_
              rintro e w3 ⟨rfl, rfl⟩
              have HX := Lib.hid (HERR.out 2 (by decide) HEE.out)
              obtain ⟨x0, x1, x2, x3⟩ := K2.out.c2
              obtain ⟨u0, u1, -, -⟩ := (K2.out.two (.int .i64 0) (.slice none 0 0)).c2
              go_wp2_with fail
              refine bodyPost_ret (v := .tuple #[.agg #[.int .i64 0, .slice none 0 0], .int .i64 2]) (by simp [results, Try.results35, go_sem, u0, u1]) rfl ?_
              first
              | exact ⟨0, _, 2, rfl, HX.out _, HB2.out⟩
              | exact ⟨0, _, 2, rfl, HX.out _, HBF.out _ _ _ HB2.out⟩
          · have HEE : Hid (chE size g ⟨alo, ahi, afr, att⟩ = 3) := by show chE _ _ _ = 3; unfold chE; rw [if_pos (by simp; omega)]
            have HX := Lib.hid (HERR.out 3 (by decide) HEE.out)
            obtain ⟨x0, x1, x2, x3⟩ := K2.out.c2
            obtain ⟨u0, u1, -, -⟩ := (K2.out.two (.int .i64 0) (.slice none 0 0)).c2
            go_wp2_with fail
            refine bodyPost_ret (v := .tuple #[.agg #[.int .i64 0, .slice none 0 0], .int .i64 3]) (by simp [results, Try.results35, go_sem, u0, u1]) rfl ?_
            first
            | exact ⟨0, _, 3, rfl, HX.out _, HB2.out⟩
            | exact ⟨0, _, 3, rfl, HX.out _, HBF.out _ _ _ HB2.out⟩
        · have HEE : Hid (chE size g ⟨alo, ahi, afr, att⟩ = 3) := by show chE _ _ _ = 3; unfold chE; rw [if_pos (by simp; omega)]
          have HX := Lib.hid (HERR.out 3 (by decide) HEE.out)
          obtain ⟨x0, x1, x2, x3⟩ := K2.out.c2
          obtain ⟨u0, u1, -, -⟩ := (K2.out.two (.int .i64 0) (.slice none 0 0)).c2
          go_wp2_with fail
          refine bodyPost_ret (v := .tuple #[.agg #[.int .i64 0, .slice none 0 0], .int .i64 3]) (by simp [results, Try.results35, go_sem, u0, u1]) rfl ?_
          first
          | exact ⟨0, _, 3, rfl, HX.out _, HB2.out⟩
          | exact ⟨0, _, 3, rfl, HX.out _, HBF.out _ _ _ HB2.out⟩
      · have HEE : Hid (chE size g ⟨alo, ahi, afr, att⟩ = 3) := by show chE _ _ _ = 3; unfold chE; rw [if_pos (by simp; omega)]
        have HX := Lib.hid (HERR.out 3 (by decide) HEE.out)
        obtain ⟨x0, x1, x2, x3⟩ := K2.out.c2
        obtain ⟨u0, u1, -, -⟩ := (K2.out.two (.int .i64 0) (.slice none 0 0)).c2
        go_wp2_with fail
        refine bodyPost_ret (v := .tuple #[.agg #[.int .i64 0, .slice none 0 0], .int .i64 3]) (by simp [results, Try.results35, go_sem, u0, u1]) rfl ?_
        first
        | exact ⟨0, _, 3, rfl, HX.out _, HB2.out⟩
        | exact ⟨0, _, 3, rfl, HX.out _, HBF.out _ _ _ HB2.out⟩
    · have hlt3 : ¬ (j : Int) < n := by omega
      have hdr : l.drop j = [] := List.drop_eq_nil_of_le (by have := HN.out; omega)
      have HF : Hid (apF size f l = (0, g)) := by
        show _ = _
        rw [HAP.out, hdr, apF_nil]
      clear hdr
      obtain ⟨m0, m1, -, -⟩ := F1.out.c2
      obtain ⟨x0, x1, x2, x3⟩ := F2.out.c2
      obtain ⟨u0, u1, -, -⟩ := (F2.out.two (.int .i64 size) (.slice va vn vc)).c2
      have HI9 : Hid (IsRs 0 ((wr.setCell ⟨W.heap.size + 1, 0, none⟩ (.int .i64 size)).setCell ⟨W.heap.size + 1, 1, none⟩ (.slice va vn vc)) (.slice va vn vc) L) := (HRS.out.apart (.inr fun x e => by rw [F2.out.c2.2.1] at e; cases e)).apart (.inr fun x e => by rw [((F2.out.put (i := 0) (by simp) (by decide) _).c 1 _ rfl).1] at e; cases e)
      go_wp2_with fail
      refine bodyPost_ret (v := .tuple #[.agg #[.int .i64 size, .slice va vn vc], .int .i64 0]) (by simp [results, Try.results35, go_sem, u0, u1]) rfl ?_
      exact ⟨size, _, 0, rfl, by rw [HF.out]; exact ⟨rfl, .inr ⟨rfl, rfl, L, HST.out.1, HI9.out⟩⟩, below_put HBr.out (by omega) _ _⟩
end Go.Proofs.Ytjbenhmpeceaeaa
