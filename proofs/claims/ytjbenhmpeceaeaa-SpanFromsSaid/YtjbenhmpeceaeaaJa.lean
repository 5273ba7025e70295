/- The contract of build, of any list of runs. -/
import Derived.Test.YtjbenhmpeceaeaaQl
import Derived.Test.YtjbenhmpeceaeaaZb
namespace Go.Proofs.Ytjbenhmpeceaeaa
open Go Go.RowKit Gs

/-- a list of runs lies at a slice, wherever that begins -/
def IsRo (W : World) (v : Value) (l : List R) : Prop :=
  ∃ ao c, v = .slice ao l.length c ∧ l.length ≤ c ∧ (0 < l.length → ∃ B o, ao = some ⟨B, o, none⟩ ∧ B < W.heap.size ∧ ∀ j (h : j < l.length),
    W.cell? ⟨B, o + j * 3, none⟩ = some (.int .i64 l[j].lo) ∧ W.cell? ⟨B, o + j * 3 + 1, none⟩ = some (.int .i64 l[j].hi) ∧ W.cell? ⟨B, o + j * 3 + 2, none⟩ = some (.int .i64 l[j].tag))
theorem IsRo.below {W W' : World} {v : Value} {l : List R} (h : IsRo W v l) (hb : Below W.heap.size W W') : IsRo W' v l := by
  obtain ⟨ao, c, hv, hc, h⟩ := h
  refine ⟨ao, c, hv, hc, fun hp => ?_⟩
  obtain ⟨B, o, e, hB, hc⟩ := h hp
  refine ⟨B, o, e, Nat.lt_of_lt_of_le hB hb.size, fun j hj => ?_⟩
  obtain ⟨h0, h1, h2⟩ := hc j hj
  exact ⟨(hb.cell (p := ⟨B, _, none⟩) hB).trans h0, (hb.cell (p := ⟨B, _, none⟩) hB).trans h1, (hb.cell (p := ⟨B, _, none⟩) hB).trans h2⟩
/-- a tree of these runs -/
def TrOf (L : List R) (W : World) (p : Option Addr) : Prop := ∃ t : T, t.L = L ∧ IsT W t (.pointer p)
theorem TrOf.below {L : List R} {W W' : World} {p : Option Addr} (h : TrOf L W p) (hb : Below W.heap.size W W') : TrOf L W' p := by
  obtain ⟨t, h1, h2⟩ := h
  exact ⟨t, h1, IsT.below hb h2⟩
set_option maxHeartbeats 2000000 in
theorem build_any : ∀ (n : Nat) (l : List R) (a : Option Addr) (c : Nat) (W : World), l.length = n → n ≤ c → IsRo W (.slice a n c) l → Bd l →
    Calls Try.prog 56 #[.slice a n c] W fun e w' => ∃ p, e = .returned (.pointer p) ∧ Hid (TrOf l w' p) ∧ Below W.heap.size W w' := by
  intro n
  induction n using Nat.strongRecOn with
  | _ n ih =>
    intro l a c W hn hc hro hbd
    by_cases h0 : n = 0
    · subst h0
      refine (build_empty a c W).mono ?_
      rintro e w' ⟨rfl, rfl⟩
      exact ⟨none, rfl, ⟨.nil, (List.eq_nil_of_length_eq_zero hn).symm, rfl⟩, Below.refl _ _⟩
    · obtain ⟨_, _, hv, _, hcs⟩ := hro
      injection hv with hv1 hv2 hv3
      subst hv1
      obtain ⟨B, o, rfl, hB, hcs⟩ := hcs (by omega)
      obtain ⟨md, hmd⟩ : ∃ md, md = n / 2 := ⟨_, rfl⟩
      have hml : md < l.length := by omega
      obtain ⟨L1, hL1⟩ : ∃ L1, L1 = l.take md := ⟨_, rfl⟩
      obtain ⟨L2, hL2⟩ : ∃ L2, L2 = l.drop (md + 1) := ⟨_, rfl⟩
      obtain ⟨⟨rlo, rhi, rtag⟩, hr⟩ : ∃ r, r = l[md] := ⟨_, rfl⟩
      have hsp : l = L1 ++ ⟨rlo, rhi, rtag⟩ :: L2 := by rw [hL1, hL2, hr, ← List.drop_eq_getElem_cons hml, List.take_append_drop]
      have HSP := Lib.hid hsp
      have HBD := Lib.hid hbd
      have hlen : l.length ≤ 100000 := hbd.1
      have hl1 : L1.length = md := by rw [hL1, List.length_take]; omega
      have hl2 : L2.length = n - (md + 1) := by rw [hL2, List.length_drop]; omega
      have HC : Hid (∀ W', Below W.heap.size W W' → W'.cell? ⟨B, o + md * 3, none⟩ = some (.int .i64 rlo) ∧ W'.cell? ⟨B, o + md * 3 + 1, none⟩ = some (.int .i64 rhi) ∧ W'.cell? ⟨B, o + md * 3 + 2, none⟩ = some (.int .i64 rtag)) := fun W' hW => by
        obtain ⟨c0, c1, c2⟩ := hcs md hml
        rw [← hr] at c0 c1 c2
        exact ⟨(hW.cell (p := ⟨B, _, none⟩) hB).trans c0, (hW.cell (p := ⟨B, _, none⟩) hB).trans c1, (hW.cell (p := ⟨B, _, none⟩) hB).trans c2⟩
      have HL : Hid (∀ W', Below W.heap.size W W' → Calls Try.prog 56 #[.slice (some ⟨B, o, none⟩) md c] W' fun e w' => ∃ p, e = .returned (.pointer p) ∧ Hid (TrOf L1 w' p) ∧ Below W'.heap.size W' w' ∧ Below W.heap.size W w') := fun W' hW => (ih md (by omega) L1 _ c W' hl1 (by omega) (IsRo.below ⟨_, c, by rw [hl1], by omega, fun _ => ⟨B, o, rfl, hB, fun j hj => by
          have hj2 : j < l.length := by omega
          have e : L1[j] = l[j] := by subst hL1; rw [List.getElem_take]
          rw [e]
          exact hcs j hj2⟩⟩ hW) ⟨by omega, fun r hr => hbd.2 r (by rw [hsp]; simp [hr])⟩).mono fun e w' ⟨p, he, ht, hb⟩ => ⟨p, he, ht, hb, hW.trans (hb.mono hW.size)⟩
      obtain ⟨rp, hrp⟩ : ∃ rp : Option Addr, rp = if c = md + 1 then some ⟨B, o, none⟩ else some ⟨B, o + (md + 1) * 3, none⟩ := ⟨_, rfl⟩
      have HR : Hid (∀ W', Below W.heap.size W W' → Calls Try.prog 56 #[.slice rp (n - (md + 1)) (c - (md + 1))] W' fun e w' => ∃ p, e = .returned (.pointer p) ∧ Hid (TrOf L2 w' p) ∧ Below W'.heap.size W' w' ∧ Below W.heap.size W w') := fun W' hW => (ih (n - (md + 1)) (by omega) L2 _ (c - (md + 1)) W' hl2 (by omega) (IsRo.below ⟨_, c - (md + 1), by rw [hl2], by omega, fun hz => ⟨B, o + (md + 1) * 3, by rw [hrp, if_neg (by omega)], hB, fun j hj => by
          have hj2 : md + 1 + j < l.length := by omega
          have e : L2[j] = l[md + 1 + j] := by subst hL2; rw [List.getElem_drop]
          rw [e]
          have := hcs (md + 1 + j) hj2
          rw [show o + (md + 1) * 3 + j * 3 = o + (md + 1 + j) * 3 by omega]
          exact this⟩⟩ hW) ⟨by omega, fun r hr => hbd.2 r (by rw [hsp]; simp [hr])⟩).mono fun e w' ⟨p, he, ht, hb⟩ => ⟨p, he, ht, hb, hW.trans (hb.mono hW.size)⟩
      have HNN : Hid (∀ W' p1 p2, Below W.heap.size W W' → Hid (TrOf L1 W' p1) → Hid (TrOf L2 W' p2) → Calls Try.prog 74 #[.pointer p1, .agg #[.int .i64 rlo, .int .i64 rhi, .int .i64 rtag], .pointer p2] W' fun e w' => ∃ g, e = .returned (.pointer (some ⟨g, 0, none⟩)) ∧ Hid (TrOf l w' (some ⟨g, 0, none⟩)) ∧ Below W.heap.size W w') := fun W' p1 p2 hW h1 h2 => by
        obtain ⟨t1, e1, i1⟩ := h1.out
        obtain ⟨t2, e2, i2⟩ := h2.out
        refine (newNode_any t1 t2 rlo rhi rtag _ _ W' i1 i2 (by rw [e1, e2, ← HSP.out]; exact HBD.out)).mono ?_
        rintro e w' ⟨g, rfl, hi, hb⟩
        exact ⟨g, rfl, ⟨_, by show t1.L ++ ⟨rlo, rhi, rtag⟩ :: t2.L = l; rw [e1, e2]; exact HSP.out.symm, hi⟩, hW.trans (hb.mono hW.size)⟩
      have HTB : Hid (∀ L W' W'' p, Hid (TrOf L W' p) → Below W'.heap.size W' W'' → Hid (TrOf L W'' p)) := fun L W' W'' p h hb => h.out.below hb
      have hrp2 := hrp.symm
      clear hrp
      have hq : (n : Int).tdiv 2 = (md : Int) := by rw [hmd]; exact Int.ofNat_tdiv n 2 |>.symm ▸ rfl
      have hq2 : (n : Int) / 2 = (md : Int) := by omega
      have hw0 : IntKind.i64.wrap (md : Int) = (md : Int) := IntWalk.i64_in _ (by omega)
      have hw1 : IntKind.i64.wrap ((md : Int) + 1) = (md : Int) + 1 := IntWalk.i64_in _ (by omega)
      have hp0 : (0 : Int) ≤ (md : Int) := by omega
      have hp1 : (md : Int) ≤ (c : Int) := by omega
      have hp2 : (md : Int) < (n : Int) := by omega
      have hp3 : (0 : Int) ≤ (md : Int) + 1 := by omega
      have hp4 : (md : Int) + 1 ≤ (n : Int) := by omega
      have hp5 : (n : Int) ≤ (c : Int) := by omega
      have hnz : ((n : Int) == 0) = false := beq_eq_false_iff_ne.2 (by omega)
      have hs : Below W.heap.size W W := Below.refl _ _
      have hs2 := hs.drew
      have hcl := HC.out _ hs2
      have hc0 := HC.out _ hs
      clear hcs hmd hml hL1 hL2 hr hsp hbd hlen hl1 hl2 ih hn hv2 hv3 h0
      go_enter Try.func56, Try.ntmps56
      go_wp2_with fail
      go_region_held3 (fun W' : World => W'.cell? ⟨B, o + md * 3, none⟩ = some (.int .i64 rlo) ∧ W'.cell? ⟨B, o + md * 3 + 1, none⟩ = some (.int .i64 rhi) ∧ W'.cell? ⟨B, o + md * 3 + 2, none⟩ = some (.int .i64 rtag)) (first | assumption | fail) (first
        | (go_at_call 56; with_reducible refine (HL.out _ ?h).mono ?_; (case h => assumption); rintro e w' ⟨p1, rfl, ht1, hb1, hs1'⟩; have hc1' := HC.out _ hs1')
        | (go_at_call 56; with_reducible refine (HR.out _ ?h).mono ?_; (case h => assumption); rintro e w' ⟨p2, rfl, ht2, hb2, hs2'⟩; have hc2' := HC.out _ hs2')
        | (go_at_call 74; with_reducible refine (HNN.out _ _ _ ?h ?r1 ?r2).mono ?_; (case h => assumption); (case r1 => (first | assumption | exact HTB.out _ _ _ _ ht1 hb2 | fail)); (case r2 => (first | assumption | exact HTB.out _ _ _ _ ht2 hb1 | fail)); rintro e w' ⟨g, rfl, hgt, hs3'⟩; have hc3' := HC.out _ hs3') | fail)
      all_goals
        have HBF := Lib.hid hs3'
        go_wp2_with fail
        go_ret
        exact ⟨_, rfl, hgt, HBF.out⟩
end Go.Proofs.Ytjbenhmpeceaeaa
