/- Contracts and lemmas (several texts merged into one). -/
import Derived.Test.YtgblfobomiiofaaTSer7
import Derived.Test.YtgblfobomiiofaaTSer8
import Derived.Test.YtgblfobomiiofaaTSer9
import Derived.Laws.DeepStrings4
import Derived.Laws.Strings
import Derived.Test.YtgblfobomiiofaaRows
import Derived.ProofKit
import Derived.OpenShut
import Derived.ShutString
import Derived.Carry
import Derived.Deep.Slices
import Derived.Deep.Fields
import Derived.ChangeSame
namespace Go.Proofs.Ytgblfobomiiofaa
open Go Go.RowKit Go.Shelf Gw Go.Maps

/-- a valid scheme -/
def ValidS (s : Sch) : Prop := WellF s ∧ 1 ≤ totS s ∧ totS s ≤ 1099511627776
/-- the serial of a body -/
def serB (al : ByteArray) (ck : Bool) (u : List Nat) : ByteArray := ⟨(if ck then signs al u ++ signs al [lcN al.size (chk (ncN al.size) al.size u)] else signs al u).toArray⟩
theorem text_any {R n : Nat} {al : ByteArray} {ck : Bool} {w : World} {bv : Value} {u : List Nat} (h : Ser R al n ck w) (h1 : 2 ≤ al.size) (h2 : al.size ≤ 36) (hv : IsIs w bv (asI u)) (hu : ∀ x ∈ u, x < al.size) (hl : u.length ≤ 500) :
    Calls Try.prog 48 #[.pointer (some ⟨R, 0, none⟩), bv] w (fun e w' => e = .returned (.string (serB al ck u)) ∧ Hid (Below w.heap.size w w')) := by
  cases ck with
  | false => exact text_no h hv hu hl
  | true => exact text_yes h h1 h2 hv hu hl
/-- what Check answers -/
def CheckP (s : Sch) (W : World) (e : Ending) (W' : World) : Prop :=
  Below W.heap.size W W' ∧ ((¬ WellF s ∧ e = .returned (.int .i64 20)) ∨ (WellF s ∧ ¬ (1 ≤ totS s ∧ totS s ≤ 1099511627776) ∧ e = .returned (.int .i64 3)) ∨ (ValidS s ∧ e = .returned (.int .i64 0)))
set_option maxRecDepth 100000 in
set_option maxHeartbeats 1000000 in
theorem Check_any {s : Sch} {bv : Value} {w : World} (hv : IsSs w bv s.bl) : Calls Try.prog 20 #[schV s bv] w (CheckP s w) := by
  obtain ⟨w1, hw1⟩ : ∃ w1, w1 = w.alloc (.cells #[.string s.al, .int .i64 s.len, bv, .bool s.ck] 24) := ⟨_, rfl⟩
  have hb1 : Below w.heap.size w w1 := by rw [hw1]; exact below_al _ _
  have H4 : Hid (B4 w.heap.size (.string s.al) (.int .i64 s.len) bv (.bool s.ck) w1) := by rw [hw1]; exact B4.new _ _ _ _ _ _
  have HNS := Lib.hid (newSeries_any (s := s) (hv.below hb1))
  have HB1 := Lib.hid hb1
  have HW1 := Lib.hid hw1
  obtain ⟨bo, bc, rfl, -⟩ := hv
  obtain ⟨al, len, bl, ck⟩ := s
  unfold schV at HNS ⊢
  dsimp only at *
  clear hw1 hb1
  have k0 := H4.out.c0; have k1 := H4.out.c1; have k2 := H4.out.c2; have k3 := H4.out.c3
  go_enter Try.func20, Try.ntmps20
  go_upto_region 1 with fail
  rw [← HW1.out]
  have HFIN : Hid (∀ (v e : Value) (E : Int) (w2 : World), Below w1.heap.size w1 w2 → Below w.heap.size w w2) := fun v e E w2 h => HB1.out.trans (h.mono HB1.out.size)
  go_cut [4] from 3 to 9 (fun s4 wz => ∃ E : Int, s4 = .int .i64 E ∧ Hid (CheckP ⟨al, len, bl, ck⟩ w (.returned (.int .i64 E)) wz))
  case first =>
    go_wp2_with (first
      | (go_at_call 46; (with_reducible refine HNS.out.mono ?_); rintro e w2 ⟨hb2, hN⟩; obtain ⟨pv, E, rfl, HCP⟩ : ∃ pv E, e = .returned (.tuple #[pv, .int .i64 E]) ∧ Hid (CheckP ⟨al, len, bl, ck⟩ w (.returned (.int .i64 E)) w2) := (by
          have hb := HB1.out.trans (hb2.mono HB1.out.size)
          rcases hN with ⟨hn, rfl⟩ | ⟨hn, hm, rfl⟩ | ⟨hn, hm1, hm2, x, rfl, _⟩
          · exact ⟨_, _, rfl, hb, .inl ⟨hn, rfl⟩⟩
          · exact ⟨_, _, rfl, hb, .inr (.inl ⟨hn, hm, rfl⟩)⟩
          · exact ⟨_, _, rfl, hb, .inr (.inr ⟨⟨hn, hm1, hm2⟩, rfl⟩)⟩); clear hb2 hN)
      | fail)
    go_meet
    case rel => exact ⟨E, rfl, HCP⟩
  case rest =>
    obtain ⟨E, rfl, HCP⟩ := hcut
    apply_assumption
    go_wp2_with fail
    go_ret
    exact HCP.out
end Go.Proofs.Ytgblfobomiiofaa
namespace Go.Proofs.Ytgblfobomiiofaa
open Go Go.RowKit Go.Shelf Gw Go.Maps

theorem run_autoA {A : Nat} {bans L : List (List Nat)} : ∀ {u : List Nat} (st : Nat), (∀ v ∈ u, v < A) → run (autoA A bans L) st u = run (auto bans L) st u
  | [], _, _ => rfl
  | v :: u, st, h => by
    unfold run
    have e : autoA A bans L st v = auto bans L st v := by unfold autoA; rw [if_pos (h v (by simp))]
    rw [e]
    cases auto bans L st v with
    | none => rfl
    | some j => exact run_autoA j (fun x hx => h x (by simp [hx]))
theorem allow_run {A : Nat} {bans : List (List Nat)} (hb : ∀ b ∈ bans, b ≠ []) {u : List Nat} (h : ∀ v ∈ u, v < A) : (run (autoA A bans (treeL bans)) 0 u).isSome = decide (AllowW bans u) := by
  rw [run_autoA 0 h, ← stOf_nil (treeL_nodes bans), run_auto (treeL_nodes bans) u [] (allow_nil hb)]
  by_cases c : AllowW bans u <;> simp [c]
/-- what newSeries answers, as two values -/
def NewQ (s : Sch) (W : World) (pv : Value) (E : Int) (W' : World) : Prop :=
  Below W.heap.size W W' ∧ ((¬ WellF s ∧ pv = .pointer none ∧ E = 20) ∨ (WellF s ∧ ¬ (1 ≤ totS s ∧ totS s ≤ 1099511627776) ∧ pv = .pointer none ∧ E = 3) ∨
    (ValidS s ∧ E = 0 ∧ ∃ x : SI, pv = .pointer (some ⟨x.R, 0, none⟩) ∧ SerF x s W' ∧ W.heap.size ≤ x.km))
theorem newQ_of {s : Sch} {W W1 W' : World} {e : Ending} (hb : Below W.heap.size W W1) (h : NewP s W1 e W') : ∃ pv E, e = .returned (.tuple #[pv, .int .i64 E]) ∧ Hid (NewQ s W pv E W') := by
  obtain ⟨hb2, h⟩ := h
  have hB := hb.trans (hb2.mono hb.size)
  rcases h with ⟨hn, rfl⟩ | ⟨hn, hm, rfl⟩ | ⟨hn, hm1, hm2, x, rfl, h1, h2⟩
  · exact ⟨_, _, rfl, hB, .inl ⟨hn, rfl, rfl⟩⟩
  · exact ⟨_, _, rfl, hB, .inr (.inl ⟨hn, hm, rfl, rfl⟩)⟩
  · exact ⟨_, _, rfl, hB, .inr (.inr ⟨⟨hn, hm1, hm2⟩, rfl, x, rfl, h1, Nat.le_trans hb.size h2⟩)⟩
theorem bans_ne {s : Sch} (h : WellF s) : ∀ b ∈ bansS s, b ≠ [] := fun b hb e => by
  obtain ⟨t, ht, rfl⟩ := List.mem_map.1 hb
  obtain ⟨k, hk, rfl⟩ := List.mem_iff_getElem.1 ht
  have h1 := (h.2.2.2.1.2 k hk).1
  have h2 := wordN_len s.al s.bl[k]
  rw [e] at h2
  simp at h2
  omega
/-- the automaton lets through what no banned string occurs in -/
theorem allow_fS {s : Sch} (h : WellF s) {u : List Nat} (hu : ∀ v ∈ u, v < s.al.size) : (run (fS s) 0 u).isSome = decide (AllowW (bansS s) u) := allow_run (bans_ne h) hu
/-- what Complete answers -/
def CompP (s : Sch) (t : ByteArray) (W : World) (e : Ending) (W' : World) : Prop :=
  Below W.heap.size W W' ∧ ((¬ WellF s ∧ e = .returned (.tuple #[.string ⟨#[]⟩, .int .i64 20])) ∨ (WellF s ∧ ¬ (1 ≤ totS s ∧ totS s ≤ 1099511627776) ∧ e = .returned (.tuple #[.string ⟨#[]⟩, .int .i64 3])) ∨
    (ValidS s ∧ ¬ (t.size = nS s ∧ OfA t s.al) ∧ e = .returned (.tuple #[.string ⟨#[]⟩, .int .i64 4])) ∨
    (ValidS s ∧ (t.size = nS s ∧ OfA t s.al) ∧ ¬ AllowW (bansS s) (wordN s.al t) ∧ e = .returned (.tuple #[.string ⟨#[]⟩, .int .i64 21])) ∨
    (ValidS s ∧ (t.size = nS s ∧ OfA t s.al) ∧ AllowW (bansS s) (wordN s.al t) ∧ e = .returned (.tuple #[.string (serB s.al s.ck (wordN s.al t)), .int .i64 0])))
set_option maxRecDepth 100000 in
set_option maxHeartbeats 2000000 in
theorem Complete_any {s : Sch} {bv : Value} {t : ByteArray} {w : World} (hv : IsSs w bv s.bl) : Calls Try.prog 26 #[schV s bv, .string t] w (CompP s t w) := by
  obtain ⟨w1, hw1⟩ : ∃ w1, w1 = w.alloc (.cells #[.string s.al, .int .i64 s.len, bv, .bool s.ck] 24) := ⟨_, rfl⟩
  have hb1 : Below w.heap.size w w1 := by rw [hw1]; exact below_al _ _
  have H4 : Hid (B4 w.heap.size (.string s.al) (.int .i64 s.len) bv (.bool s.ck) w1) := by rw [hw1]; exact B4.new _ _ _ _ _ _
  have HNS := Lib.hid (newSeries_any (s := s) (hv.below hb1))
  have HB1 := Lib.hid hb1
  have HW1 := Lib.hid hw1
  obtain ⟨bo, bc, rfl, -⟩ := hv
  obtain ⟨al, len, bl, ck⟩ := s
  unfold schV at HNS ⊢
  dsimp only at *
  clear hw1 hb1
  have k0 := H4.out.c0; have k1 := H4.out.c1; have k2 := H4.out.c2; have k3 := H4.out.c3
  go_enter Try.func26, Try.ntmps26
  go_upto_region 1 with fail
  rw [← HW1.out]
  go_cut [6, 7] from 6 to 14 (fun s6 s7 wz => ∃ E : Int, s7 = .int .i64 E ∧ Hid (NewQ ⟨al, len, bl, ck⟩ w s6 E wz))
  case first =>
    go_wp2_with (first
      | (go_at_call 46; (with_reducible refine HNS.out.mono ?_); rintro e w2 hN; obtain ⟨pv, E, rfl, HNQ⟩ := newQ_of HB1.out hN; clear hN)
      | fail)
    go_meet
    case rel => exact ⟨E, rfl, HNQ⟩
  case rest =>
    obtain ⟨E, rfl, HNQ⟩ := hcut
    apply_assumption
    rcases HNQ.out with ⟨hb, ⟨hn, rfl, rfl⟩ | ⟨hn, hm, rfl, rfl⟩ | ⟨hV, rfl, x, rfl, hF, hk⟩⟩
    · have HN := Lib.hid hn
      have HBB := Lib.hid hb
      clear hn hb HNQ
      go_wp2_with fail
      refine bodyPost_ret (v := .tuple #[.string ⟨#[]⟩, .int .i64 20]) (by simp [results, Try.results26, go_sem]) rfl ?_
      exact ⟨HBB.out, .inl ⟨HN.out, rfl⟩⟩
    · have HN := Lib.hid (And.intro hn hm)
      have HBB := Lib.hid hb
      clear hn hm hb HNQ
      go_wp2_with fail
      refine bodyPost_ret (v := .tuple #[.string ⟨#[]⟩, .int .i64 3]) (by simp [results, Try.results26, go_sem]) rfl ?_
      exact ⟨HBB.out, .inr (.inl ⟨HN.out.1, HN.out.2, rfl⟩)⟩
    · obtain ⟨n, hn⟩ : ∃ n : Nat, len = n := ⟨len.toNat, by have := hV.1.2.1; dsimp only at this; omega⟩
      subst hn
      have hn16 : n ≤ 16 := by have := hV.1.2.2.1; dsimp only at this; omega
      have HV := Lib.hid hV
      have HF := Lib.hid hF
      have HBB := Lib.hid hb
      have r1 : wc.cell? ⟨x.R, 1, none⟩ = some (.int .i64 (n : Int)) := hF.ct.se.se.c1
      have HRW := Lib.hid (readWord_any (s := t) (sz := n) hF.ct.se.se hV.1.1.ascii (by omega))
      have hA1 : 2 ≤ al.size := hV.1.1.1
      have hA2 : al.size ≤ 36 := hV.1.1.2.1
      clear hV hF hb HNQ hk k0 k1 k2 k3
      go_upto_region 5 with (first
        | (go_at_call 51; (with_reducible refine HRW.out.mono ?_); rintro e w3 hW; obtain ⟨wv, bb, rfl, HWQ⟩ : ∃ wv bb, e = .returned (.tuple #[wv, .bool bb]) ∧ Hid (Below wc.heap.size wc w3 ∧ ((bb = false ∧ ¬ (t.size = n ∧ OfA t al)) ∨ (bb = true ∧ (t.size = n ∧ OfA t al) ∧ ∃ a c, wv = .slice a n c ∧ IsIs w3 (.slice a n c) (asI (wordN al t)) ∧ (∀ j, (Value.slice a n c).ownBlock = some j → wc.heap.size ≤ j)))) := (by
            rcases hW with ⟨h5, a, c, rfl, h6, h7⟩ | ⟨h5, rfl, h7⟩
            · have hlen : (asI (wordN al t)).length = n := by rw [asI_len, wordN_len]; exact h5.1
              exact ⟨_, _, rfl, h7, .inr ⟨rfl, h5, a, c, rfl, IsIs.of_row (by rw [hlen]; exact h6), fun j hj => (h6.lt j hj).1⟩⟩
            · exact ⟨_, _, rfl, h7, .inl ⟨rfl, h5⟩⟩); clear hW)
        | fail)
      rcases HWQ.out with ⟨hb3, ⟨rfl, hno⟩ | ⟨rfl, hyes, a, c, rfl, hIs, hob⟩⟩
      · have HNO := Lib.hid hno
        have HB3 := Lib.hid (HBB.out.trans (hb3.mono HBB.out.size))
        clear hno hb3 HWQ
        go_wp2_with fail
        refine bodyPost_ret (v := .tuple #[.string ⟨#[]⟩, .int .i64 4]) (by simp [results, Try.results26, go_sem]) rfl ?_
        exact ⟨HB3.out, .inr (.inr (.inl ⟨HV.out, HNO.out, rfl⟩))⟩
      · have HYES := Lib.hid hyes
        have HB3 := Lib.hid (HBB.out.trans (hb3.mono HBB.out.size))
        have HF3 := Lib.hid (HF.out.below hb3)
        have HIS := Lib.hid hIs
        have huA := wordN_lt hyes.2
        have hul : (wordN al t).length ≤ 500 := by rw [wordN_len]; omega
        have HUA := Lib.hid huA
        have HAL := Lib.hid (allows_any HF3.out.ct.se hA1 hA2 (fS_lt HV.out.1) hIs huA hul)
        obtain ⟨bq, hbq⟩ : ∃ bq, bq = (run (fS ⟨al, (n : Int), bl, ck⟩) 0 (wordN al t)).isSome := ⟨_, rfl⟩
        have hbq2 := hbq
        rw [allow_fS HV.out.1 huA] at hbq2
        rw [← hbq] at HAL
        have HBQ := Lib.hid hbq2
        have HTX := Lib.hid (fun (V : World) (hV : Below w3.heap.size w3 V) => text_any (HF3.out.below hV).ct.se.se hA1 hA2 (hIs.below hV) huA hul)
        clear hyes hb3 HWQ hIs huA hul hbq hbq2 hob
        cases bq with
        | false =>
          have HNA : Hid (¬ AllowW (bansS ⟨al, (n : Int), bl, ck⟩) (wordN al t)) := fun h => by have := HBQ.out; rw [decide_eq_true h] at this; cases this
          clear HBQ
          go_wp2_with (first
            | (go_at_call 53; (with_reducible refine HAL.out.mono ?_); rintro e w4 ⟨rfl, HB4⟩)
            | fail)
          refine bodyPost_ret (v := .tuple #[.string ⟨#[]⟩, .int .i64 21]) (by simp [results, Try.results26, go_sem]) rfl ?_
          exact ⟨HB3.out.trans (HB4.out.mono HB3.out.size), .inr (.inr (.inr (.inl ⟨HV.out, HYES.out, HNA.out, rfl⟩)))⟩
        | true =>
          have hna : AllowW (bansS ⟨al, (n : Int), bl, ck⟩) (wordN al t) := of_decide_eq_true HBQ.out.symm
          have HNA := Lib.hid hna
          clear hna
          clear HBQ
          obtain ⟨sr, hsr⟩ : ∃ sr, sr = serB al ck (wordN al t) := ⟨_, rfl⟩
          rw [← hsr] at HTX
          have HSR := Lib.hid hsr
          clear hsr
          go_wp2_with (first
            | (go_at_call 53; (with_reducible refine HAL.out.mono ?_); rintro e w4 ⟨rfl, HB4⟩; have HTX4 := Lib.hid (HTX.out _ HB4.out))
            | (go_at_call 48; (with_reducible refine HTX4.out.mono ?_); rintro e w5 ⟨rfl, HB5⟩)
            | fail)
          refine bodyPost_ret (v := .tuple #[.string sr, .int .i64 0]) (by simp [results, Try.results26, go_sem]) rfl ?_
          have h34 := HB3.out.trans (HB4.out.mono HB3.out.size)
          exact ⟨h34.trans (HB5.out.mono h34.size), .inr (.inr (.inr (.inr ⟨HV.out, HYES.out, HNA.out, by rw [HSR.out]⟩)))⟩
end Go.Proofs.Ytgblfobomiiofaa
namespace Go.Proofs.Ytgblfobomiiofaa
open Go Go.RowKit Go.Shelf Gw Go.Maps

/-- the serials' bodies in order -/
def wordsS (s : Sch) : List (List Nat) := wordsAt (fS s) s.al.size (nS s) none (freeS s) 0 0 s.al.size
theorem nS_le (s : Sch) : nS s ≤ (freeS s).length := by rw [free_len]; exact le_szN _ _
theorem totS_words (s : Sch) : totS s = (wordsS s).length := cntK_words (nS_le s) _ _ _ _ (by omega)
theorem SerF.kmlt {x : SI} {s : Sch} {W : World} (h : SerF x s W) : x.km < W.heap.size := by
  obtain ⟨g, h1, _⟩ := h.ct.mp
  exact h1.lt
theorem wordsS_mem {s : Sch} {u : List Nat} (h : u ∈ wordsS s) : u.length = nS s ∧ (∀ v ∈ u, v < s.al.size) ∧ (run (fS s) 0 u).isSome = true := by
  have h1 := words_len_n (nS_le s) h (Nat.zero_le _)
  obtain ⟨_, h2, h3, _⟩ := mem_words.1 h
  exact ⟨by omega, h2, h3⟩
theorem total_S {x : SI} {s : Sch} (hV : ValidS s) {W : World} (h : SerF x s W) : Calls Try.prog 47 #[.pointer (some ⟨x.R, 0, none⟩)] W fun e W' => e = .returned (.int .i64 (totS s : Int)) ∧ Hid (SerF x s W') ∧ Hid (W.grownBy W' (some x.km)) := by
  refine (total_any hV.1.1.1 hV.1.1.2.1 (by have := hV.1.2.2.1; unfold nS; omega) (nS_le s) (fS_lt hV.1) h.ct h.c4).mono ?_
  rintro e W' ⟨rfl, h5, h6⟩
  have e1 : min (cntK (fS s) s.al.size (nS s) none (freeS s) (nS s) 0 s.al.size) tooM = totS s := by
    have h3 : cntK (fS s) s.al.size (nS s) none (freeS s) (nS s) 0 s.al.size = totS s := rfl
    have := hV.2.2
    rw [h3]; unfold tooM; omega
  exact ⟨by rw [e1], ⟨h5.out, h6.out.cell h.c4 (fun e => h5.out.nK.1 (Option.some.inj e))⟩, h6⟩
/-- pick of the counter of all serials -/
theorem pick_S {x : SI} {s : Sch} (hV : ValidS s) {W : World} (h : SerF x s W) {K : Nat} (hK : K < totS s) {g : Nat} (hI : IsIs W (.slice (some ⟨g, 0, none⟩) (szN (nS s) s.ck) (szN (nS s) s.ck)) (List.replicate (szN (nS s) s.ck) (-1))) (hg : g ≠ x.km) :
    Calls Try.prog 49 #[.pointer (some ⟨x.R, 0, none⟩), .slice (some ⟨g, 0, none⟩) (szN (nS s) s.ck) (szN (nS s) s.ck), cntV x.bL x.bR x.bK x.bM x.bC, .int .i64 (K : Int)] W
      fun e W' => ∃ v u, e = .returned v ∧ (wordsS s)[K]? = some u ∧ IsIs W' v (asI u) ∧ (∀ j, v.ownBlock = some j → W.heap.size ≤ j) ∧ SerF x s W' ∧ W.grownBy W' (some x.km) := by
  refine (pick_any hV.1.1.1 hV.1.1.2.1 (by have := hV.1.2.1; unfold nS; omega) (by have := hV.1.2.2.1; unfold nS; omega) (fS_lt hV.1) (nS_le s) h.ct (by rw [totS_words] at hK; exact hK) (by have := hV.2.2; unfold tooM; omega) (by rw [free_asM]; exact hI) (fun j hj => by have hj2 : some g = some j := hj; injection hj2 with hj2; rw [← hj2]; exact hg)).mono ?_
  rintro e W' ⟨v, u, rfl, h1, h2, h3, h4, h5⟩
  refine ⟨v, u, rfl, h1, IsIs.of_row (by rw [asI_len, h2]; exact h3.out), fun j hj => (h3.out.lt j hj).1, ⟨h4.out, h5.out.cell h.c4 (fun e => h4.out.nK.1 (Option.some.inj e))⟩, h5.out⟩
/-- what Text answers -/
def TextP (s : Sch) (N : Int) (W : World) (e : Ending) (W' : World) : Prop :=
  Below W.heap.size W W' ∧ ((¬ WellF s ∧ e = .returned (.tuple #[.string ⟨#[]⟩, .int .i64 20])) ∨ (WellF s ∧ ¬ (1 ≤ totS s ∧ totS s ≤ 1099511627776) ∧ e = .returned (.tuple #[.string ⟨#[]⟩, .int .i64 3])) ∨
    (ValidS s ∧ ¬ (0 ≤ N ∧ N < totS s) ∧ e = .returned (.tuple #[.string ⟨#[]⟩, .int .i64 3])) ∨
    (ValidS s ∧ ∃ (K : Nat) (u : List Nat), N = K ∧ K < totS s ∧ (wordsS s)[K]? = some u ∧ e = .returned (.tuple #[.string (serB s.al s.ck u), .int .i64 0])))
set_option maxRecDepth 100000 in
set_option maxHeartbeats 4000000 in
theorem Text_any {s : Sch} {bv : Value} {N : Int} {w : World} (hv : IsSs w bv s.bl) : Calls Try.prog 24 #[schV s bv, .int .i64 N] w (TextP s N w) := by
  obtain ⟨w1, hw1⟩ : ∃ w1, w1 = w.alloc (.cells #[.string s.al, .int .i64 s.len, bv, .bool s.ck] 24) := ⟨_, rfl⟩
  have hb1 : Below w.heap.size w w1 := by rw [hw1]; exact below_al _ _
  have H4 : Hid (B4 w.heap.size (.string s.al) (.int .i64 s.len) bv (.bool s.ck) w1) := by rw [hw1]; exact B4.new _ _ _ _ _ _
  have HNS := Lib.hid (newSeries_any (s := s) (hv.below hb1))
  have HB1 := Lib.hid hb1
  have HW1 := Lib.hid hw1
  obtain ⟨bo, bc, rfl, -⟩ := hv
  obtain ⟨al, len, bl, ck⟩ := s
  unfold schV at HNS ⊢
  dsimp only at *
  clear hw1 hb1
  have k0 := H4.out.c0; have k1 := H4.out.c1; have k2 := H4.out.c2; have k3 := H4.out.c3
  go_enter Try.func24, Try.ntmps24
  go_upto_region 1 with fail
  rw [← HW1.out]
  go_cut [6, 7] from 6 to 12 (fun s6 s7 wz => ∃ E : Int, s7 = .int .i64 E ∧ Hid (NewQ ⟨al, len, bl, ck⟩ w s6 E wz))
  case first =>
    go_wp2_with (first
      | (go_at_call 46; (with_reducible refine HNS.out.mono ?_); rintro e w2 hN; obtain ⟨pv, E, rfl, HNQ⟩ := newQ_of HB1.out hN; clear hN)
      | fail)
    go_meet
    case rel => exact ⟨E, rfl, HNQ⟩
  case rest =>
    obtain ⟨E, rfl, HNQ⟩ := hcut
    apply_assumption
    rcases HNQ.out with ⟨hb, ⟨hn, rfl, rfl⟩ | ⟨hn, hm, rfl, rfl⟩ | ⟨hV, rfl, x, rfl, hF, hk⟩⟩
    · have HN := Lib.hid hn
      have HBB := Lib.hid hb
      clear hn hb HNQ
      go_wp2_with fail
      refine bodyPost_ret (v := .tuple #[.string ⟨#[]⟩, .int .i64 20]) (by simp [results, Try.results24, go_sem]) rfl ?_
      exact ⟨HBB.out, .inl ⟨HN.out, rfl⟩⟩
    · have HN := Lib.hid (And.intro hn hm)
      have HBB := Lib.hid hb
      clear hn hm hb HNQ
      go_wp2_with fail
      refine bodyPost_ret (v := .tuple #[.string ⟨#[]⟩, .int .i64 3]) (by simp [results, Try.results24, go_sem]) rfl ?_
      exact ⟨HBB.out, .inr (.inl ⟨HN.out.1, HN.out.2, rfl⟩)⟩
    · obtain ⟨n, hn⟩ : ∃ n : Nat, len = n := ⟨len.toNat, by have := hV.1.2.1; dsimp only at this; omega⟩
      subst hn
      have hn1 : 1 ≤ n := by have := hV.1.2.1; dsimp only at this; omega
      have hn16 : n ≤ 16 := by have := hV.1.2.2.1; dsimp only at this; omega
      have HV := Lib.hid hV
      have HF := Lib.hid hF
      have HBB := Lib.hid hb
      have HK := Lib.hid hk
      have hA1 : 2 ≤ al.size := hV.1.1.1
      have hA2 : al.size ≤ 36 := hV.1.1.2.1
      clear hV hF hb HNQ hk k0 k1 k2 k3
      have HTO := Lib.hid (total_S HV.out HF.out)
      obtain ⟨R, hR⟩ : ∃ R, R = x.R := ⟨_, rfl⟩
      rw [← hR] at HTO ⊢
      have HR := Lib.hid hR
      clear hR
      obtain ⟨T, hT⟩ : ∃ T, T = totS ⟨al, (n : Int), bl, ck⟩ := ⟨_, rfl⟩
      rw [← hT] at HTO
      have HT := Lib.hid hT
      clear hT
      by_cases p1 : N < 0
      · have HP : Hid (¬ (0 ≤ N ∧ N < T)) := fun h => by omega
        go_wp2_with fail
        refine bodyPost_ret (v := .tuple #[.string ⟨#[]⟩, .int .i64 3]) (by simp [results, Try.results24, go_sem]) rfl ?_
        exact ⟨HBB.out, .inr (.inr (.inl ⟨HV.out, by rw [← HT.out]; exact HP.out, rfl⟩))⟩
      by_cases p2 : N ≥ (T : Int)
      · have HP : Hid (¬ (0 ≤ N ∧ N < T)) := fun h => by omega
        go_wp2_with (first
          | (go_at_call 47; (with_reducible refine HTO.out.mono ?_); rintro e w3 ⟨rfl, HF3, HG3⟩)
          | fail)
        refine bodyPost_ret (v := .tuple #[.string ⟨#[]⟩, .int .i64 3]) (by simp [results, Try.results24, go_sem]) rfl ?_
        exact ⟨HBB.out.grown HG3.out HBB.out.size (fun j hj => by cases hj; exact HK.out), .inr (.inr (.inl ⟨HV.out, by rw [← HT.out]; exact HP.out, rfl⟩))⟩
      obtain ⟨K, rfl⟩ : ∃ K : Nat, N = K := ⟨N.toNat, by omega⟩
      have HKT : Hid (K < T) := by show _ < _; omega
      obtain ⟨z, hz⟩ : ∃ z, z = szN n ck := ⟨_, rfl⟩
      have HZ := Lib.hid hz
      clear hz
      obtain ⟨cV, hcV⟩ : ∃ cV, cV = cntV x.bL x.bR x.bK x.bM x.bC := ⟨_, rfl⟩
      have HCV := Lib.hid hcV
      clear hcV
      go_upto_region 6 with (first
        | (go_at_call 47; (with_reducible refine HTO.out.mono ?_); rintro e w3 ⟨rfl, HF3, HG3⟩)
        | fail)
      have HB3 := Lib.hid (HBB.out.grown HG3.out HBB.out.size (fun j hj => by cases hj; exact HK.out))
      have hbd : Hid (Below w3.heap.size w3 w3.drew) := below_dr w3 1
      have HPK : Hid (∀ (V : World) (g : Nat), w3.heap.size ≤ g → IsIs V (.slice (some ⟨g, 0, none⟩) z z) (List.replicate z (-1)) → Below w3.heap.size w3 V → Calls Try.prog 49 #[.pointer (some ⟨R, 0, none⟩), .slice (some ⟨g, 0, none⟩) z z, cV, .int .i64 (K : Int)] V
          fun e W' => ∃ v u, e = .returned v ∧ (wordsS ⟨al, (n : Int), bl, ck⟩)[K]? = some u ∧ IsIs W' v (asI u) ∧ (∀ j, v.ownBlock = some j → V.heap.size ≤ j) ∧ SerF x ⟨al, (n : Int), bl, ck⟩ W' ∧ V.grownBy W' (some x.km)) := fun V g hg hI hV => by
        rw [HR.out, HZ.out, HCV.out]
        rw [HZ.out] at hI
        have := HF3.out.kmlt
        exact pick_S HV.out (HF3.out.below hV) (by rw [← HT.out]; exact HKT.out) hI (by omega)
      have c43 : w3.drew.cell? ⟨R, 4, none⟩ = some cV := by rw [HR.out, HCV.out]; exact HF3.out.c4
      have hR3 : R < w3.drew.heap.size := World.block_lt_of_cell? _ _ c43
      have HANd : Hid (Calls Try.prog 50 #[.pointer (some ⟨R, 0, none⟩)] w3.drew fun e w' => ∃ g, w3.heap.size ≤ g ∧ e = .returned (.slice (some ⟨g, 0, none⟩) z z) ∧ Hid (IsIs w' (.slice (some ⟨g, 0, none⟩) z z) (List.replicate z (-1))) ∧ Hid (Below w3.drew.heap.size w3.drew w')) := by rw [HR.out, HZ.out]; exact anything_at (HF3.out.below (below_dr w3 1)).ct.se.se hn1 hn16
      have HTX := Lib.hid (fun (V : World) (v : Value) (u : List Nat) (hF : SerF x ⟨al, (n : Int), bl, ck⟩ V) (hI : IsIs V v (asI u)) (hw : u ∈ wordsS ⟨al, (n : Int), bl, ck⟩) => text_any hF.ct.se.se hA1 hA2 hI (wordsS_mem hw).2.1 (by rw [(wordsS_mem hw).1]; show n ≤ 500; omega))
      rw [← HR.out] at HTX
      clear HTO
      go_region_with (first
        | (go_at_call 50; (with_reducible refine HANd.out.mono ?_); rintro e w4 ⟨g, hg, rfl, HI4, HB4⟩; have hB34 := Lib.hid (hbd.out.trans HB4.out); have c44 := (HB4.out.cell (p := ⟨R, 4, none⟩) hR3).trans c43; have HPK4 := Lib.hid (HPK.out w4 g hg HI4.out hB34.out))
        | (go_at_call 49; (with_reducible refine HPK4.out.mono ?_); rintro e w5 ⟨v, u, rfl, hwu, hIu, hvo, hF5, hG5⟩; have HWU := Lib.hid hwu; have HF5 := Lib.hid hF5; have HG5 := Lib.hid hG5; have HTX5 := Lib.hid (HTX.out w5 v u hF5 hIu (List.mem_of_getElem? hwu)); clear hwu hIu hvo hF5 hG5)
        | (go_at_call 48; (with_reducible refine HTX5.out.mono ?_); rintro e w6 ⟨rfl, HB6⟩)
        | fail)
      all_goals go_wp2_with fail
      all_goals refine bodyPost_ret (v := .tuple #[.string (serB al ck u), .int .i64 0]) (by simp [results, Try.results24, go_sem]) rfl ?_
      all_goals
        have hb4 := HB3.out.trans (hB34.out.mono HB3.out.size)
        have hb5 := hb4.grown HG5.out hb4.size (fun j hj => by cases hj; exact HK.out)
        exact ⟨hb5.trans (HB6.out.mono hb5.size), .inr (.inr (.inr ⟨HV.out, K, u, rfl, by rw [← HT.out]; exact HKT.out, HWU.out, rfl⟩))⟩
end Go.Proofs.Ytgblfobomiiofaa
namespace Go.Proofs.Ytgblfobomiiofaa
open Go Go.RowKit Go.Shelf Gw Go.Maps

theorem below_S {x : SI} {s : Sch} (hV : ValidS s) {W : World} (h : SerF x s W) {g : Nat} (hI : IsIs W (.slice (some ⟨g, 0, none⟩) (szN (nS s) s.ck) (szN (nS s) s.ck)) (List.replicate (szN (nS s) s.ck) (-1))) (hg : g ≠ x.km) {bv : Value} {u : List Nat} (hu : IsIs W bv (asI u)) (hbe : ∀ j, bv.ownBlock = some j → j ≠ x.km) (hul : u.length = nS s) (huA : ∀ v ∈ u, v < s.al.size) (hur : (run (fS s) 0 u).isSome = true) :
    Calls Try.prog 55 #[.pointer (some ⟨x.R, 0, none⟩), .slice (some ⟨g, 0, none⟩) (szN (nS s) s.ck) (szN (nS s) s.ck), cntV x.bL x.bR x.bK x.bM x.bC, bv] W
      fun e W' => e = .returned (.int .i64 ((bel (wordsS s) u : Nat) : Int)) ∧ Hid (SerF x s W') ∧ Hid (W.grownBy W' (some x.km)) := by
  refine (below_any hV.1.1.1 hV.1.1.2.1 (by have := hV.1.2.1; unfold nS; omega) (by have := hV.1.2.2.1; unfold nS; omega) (fS_lt hV.1) (nS_le s) h.ct (by have h3 := hV.2.2; rw [totS_words] at h3; exact h3) (by rw [free_asM]; exact hI) (fun j hj => by have hj2 : some g = some j := hj; injection hj2 with hj2; rw [← hj2]; exact hg) hu hbe hul huA hur).mono ?_
  rintro e W' ⟨rfl, h4, h5⟩
  exact ⟨rfl, ⟨h4.out, h5.out.cell h.c4 (fun e => h4.out.nK.1 (Option.some.inj e))⟩, h5⟩
/-- what Number answers -/
def NumP (s : Sch) (t : ByteArray) (W : World) (e : Ending) (W' : World) : Prop :=
  Below W.heap.size W W' ∧ ((¬ WellF s ∧ e = .returned (.tuple #[.int .i64 0, .int .i64 20])) ∨ (WellF s ∧ ¬ (1 ≤ totS s ∧ totS s ≤ 1099511627776) ∧ e = .returned (.tuple #[.int .i64 0, .int .i64 3])) ∨
    (ValidS s ∧ ¬ (t.size = szN (nS s) s.ck ∧ OfA t s.al) ∧ e = .returned (.tuple #[.int .i64 0, .int .i64 4])) ∨
    (ValidS s ∧ (t.size = szN (nS s) s.ck ∧ OfA t s.al) ∧ ¬ AllowW (bansS s) ((wordN s.al t).take (nS s)) ∧ e = .returned (.tuple #[.int .i64 0, .int .i64 21])) ∨
    (ValidS s ∧ (t.size = szN (nS s) s.ck ∧ OfA t s.al) ∧ AllowW (bansS s) ((wordN s.al t).take (nS s)) ∧ endsB s.al.size (nS s) s.ck (wordN s.al t) = false ∧ e = .returned (.tuple #[.int .i64 0, .int .i64 22])) ∨
    (ValidS s ∧ (t.size = szN (nS s) s.ck ∧ OfA t s.al) ∧ AllowW (bansS s) ((wordN s.al t).take (nS s)) ∧ endsB s.al.size (nS s) s.ck (wordN s.al t) = true ∧ e = .returned (.tuple #[.int .i64 ((bel (wordsS s) ((wordN s.al t).take (nS s)) : Nat) : Int), .int .i64 0])))
set_option maxRecDepth 100000 in
set_option maxHeartbeats 4000000 in
theorem Number_any {s : Sch} {bv : Value} {t : ByteArray} {w : World} (hv : IsSs w bv s.bl) : Calls Try.prog 25 #[schV s bv, .string t] w (NumP s t w) := by
  obtain ⟨w1, hw1⟩ : ∃ w1, w1 = w.alloc (.cells #[.string s.al, .int .i64 s.len, bv, .bool s.ck] 24) := ⟨_, rfl⟩
  have hb1 : Below w.heap.size w w1 := by rw [hw1]; exact below_al _ _
  have H4 : Hid (B4 w.heap.size (.string s.al) (.int .i64 s.len) bv (.bool s.ck) w1) := by rw [hw1]; exact B4.new _ _ _ _ _ _
  have HNS := Lib.hid (newSeries_any (s := s) (hv.below hb1))
  have HB1 := Lib.hid hb1
  have HW1 := Lib.hid hw1
  obtain ⟨bo, bc, rfl, -⟩ := hv
  obtain ⟨al, len, bl, ck⟩ := s
  unfold schV at HNS ⊢
  dsimp only at *
  clear hw1 hb1
  have k0 := H4.out.c0; have k1 := H4.out.c1; have k2 := H4.out.c2; have k3 := H4.out.c3
  go_enter Try.func25, Try.ntmps25
  go_upto_region 1 with fail
  rw [← HW1.out]
  go_cut [6, 7] from 6 to 15 (fun s6 s7 wz => ∃ E : Int, s7 = .int .i64 E ∧ Hid (NewQ ⟨al, len, bl, ck⟩ w s6 E wz))
  case first =>
    go_wp2_with (first
      | (go_at_call 46; (with_reducible refine HNS.out.mono ?_); rintro e w2 hN; obtain ⟨pv, E, rfl, HNQ⟩ := newQ_of HB1.out hN; clear hN)
      | fail)
    go_meet
    case rel => exact ⟨E, rfl, HNQ⟩
  case rest =>
    obtain ⟨E, rfl, HNQ⟩ := hcut
    apply_assumption
    rcases HNQ.out with ⟨hb, ⟨hn, rfl, rfl⟩ | ⟨hn, hm, rfl, rfl⟩ | ⟨hV, rfl, x, rfl, hF, hk⟩⟩
    · have HN := Lib.hid hn
      have HBB := Lib.hid hb
      clear hn hb HNQ
      go_wp2_with fail
      refine bodyPost_ret (v := .tuple #[.int .i64 0, .int .i64 20]) (by simp [results, Try.results25, go_sem]) rfl ?_
      exact ⟨HBB.out, .inl ⟨HN.out, rfl⟩⟩
    · have HN := Lib.hid (And.intro hn hm)
      have HBB := Lib.hid hb
      clear hn hm hb HNQ
      go_wp2_with fail
      refine bodyPost_ret (v := .tuple #[.int .i64 0, .int .i64 3]) (by simp [results, Try.results25, go_sem]) rfl ?_
      exact ⟨HBB.out, .inr (.inl ⟨HN.out.1, HN.out.2, rfl⟩)⟩
    · obtain ⟨n, hn⟩ : ∃ n : Nat, len = n := ⟨len.toNat, by have := hV.1.2.1; dsimp only at this; omega⟩
      subst hn
      have hn1 : 1 ≤ n := by have := hV.1.2.1; dsimp only at this; omega
      have hn16 : n ≤ 16 := by have := hV.1.2.2.1; dsimp only at this; omega
      have HV := Lib.hid hV
      have HF := Lib.hid hF
      have HBB := Lib.hid hb
      have HK := Lib.hid hk
      have hA1 : 2 ≤ al.size := hV.1.1.1
      have hA2 : al.size ≤ 36 := hV.1.1.2.1
      clear hV hF hb HNQ hk k0 k1 k2 k3
      obtain ⟨R, hR⟩ : ∃ R, R = x.R := ⟨_, rfl⟩
      have HSE : Hid (Ser R al n ck wc) := by rw [hR]; exact HF.out.ct.se.se
      have HSZ := Lib.hid (size_any HSE.out hn16)
      obtain ⟨z, hz⟩ : ∃ z, z = szN n ck := ⟨_, rfl⟩
      have hz20 : z ≤ 20 := by rw [hz]; unfold szN; split <;> omega
      have hnz : n ≤ z := by rw [hz]; exact le_szN _ _
      have HRW := Lib.hid (readWord_any (s := t) (sz := z) HSE.out HV.out.1.1.ascii hz20)
      rw [← hR]
      rw [← hz] at HSZ
      have HZ := Lib.hid hz
      have HR := Lib.hid hR
      clear hR hz
      go_upto_region 5 with (first
        | (go_at_call 52; (with_reducible refine HSZ.out.mono ?_); rintro e w3 ⟨rfl, rfl⟩)
        | (go_at_call 51; (with_reducible refine HRW.out.mono ?_); rintro e w3 hW; obtain ⟨wv, bb, rfl, HWQ⟩ : ∃ wv bb, e = .returned (.tuple #[wv, .bool bb]) ∧ Hid (Below wc.heap.size wc w3 ∧ ((bb = false ∧ ¬ (t.size = z ∧ OfA t al)) ∨ (bb = true ∧ (t.size = z ∧ OfA t al) ∧ ∃ a c, wv = .slice a z c ∧ z ≤ c ∧ IsIs w3 (.slice a z c) (asI (wordN al t)) ∧ (∀ j, (Value.slice a z c).ownBlock = some j → wc.heap.size ≤ j)))) := (by
            rcases hW with ⟨h5, a, c, rfl, h6, h7⟩ | ⟨h5, rfl, h7⟩
            · have hlen : (asI (wordN al t)).length = z := by rw [asI_len, wordN_len]; exact h5.1
              have hzc : z ≤ c := by
                rcases h6.2 with ⟨h8, h9⟩ | ⟨g, cap, cur, h8, _, _, h9, _⟩
                · injection h8 with _ h8 h10; omega
                · injection h8 with _ _ h10; omega
              exact ⟨_, _, rfl, h7, .inr ⟨rfl, h5, a, c, rfl, hzc, IsIs.of_row (by rw [hlen]; exact h6), fun j hj => (h6.lt j hj).1⟩⟩
            · exact ⟨_, _, rfl, h7, .inl ⟨rfl, h5⟩⟩); clear hW)
        | fail)
      rcases HWQ.out with ⟨hb3, ⟨rfl, hno⟩ | ⟨rfl, hyes, a, c, rfl, hzc, hIs, hob⟩⟩
      · have HNO := Lib.hid hno
        have HB3 := Lib.hid (HBB.out.trans (hb3.mono HBB.out.size))
        clear hno hb3 HWQ
        go_wp2_with fail
        refine bodyPost_ret (v := .tuple #[.int .i64 0, .int .i64 4]) (by simp [results, Try.results25, go_sem]) rfl ?_
        exact ⟨HB3.out, .inr (.inr (.inl ⟨HV.out, by rw [HZ.out] at HNO; exact HNO.out, rfl⟩))⟩
      · have HYES := Lib.hid hyes
        have HB3 := Lib.hid (HBB.out.trans (hb3.mono HBB.out.size))
        have HF3 := Lib.hid (HF.out.below hb3)
        have HC3 := Lib.hid hb3.size
        have hwl : (wordN al t).length = z := by rw [wordN_len]; exact hyes.1
        have huA := wordN_lt hyes.2
        have huA2 : ∀ v ∈ (wordN al t).take n, v < al.size := fun v hv => huA v (List.mem_of_mem_take hv)
        obtain ⟨B, o, e0, d0⟩ := hIs.at' (j := 0) (by rw [asI_len, hwl]; omega)
        subst e0
        have hsl := fun W => slice_hi2 (g := B) (o := o) (m := z) (c := c) (n := n) (by omega) (by omega) W
        have hIt : IsIs w3 (.slice (some ⟨B, o, none⟩) n c) (asI ((wordN al t).take n)) := by rw [← asI_take]; exact hIs.take (by rw [asI_len, hwl]; exact hnz)
        have htl : ((wordN al t).take n).length = n := by rw [List.length_take, hwl]; omega
        have HAL := Lib.hid (allows_any HF3.out.ct.se hA1 hA2 (fS_lt HV.out.1) hIt huA2 (by rw [htl]; omega))
        obtain ⟨bq, hbq⟩ : ∃ bq, bq = (run (fS ⟨al, (n : Int), bl, ck⟩) 0 ((wordN al t).take n)).isSome := ⟨_, rfl⟩
        have hbq2 := hbq
        rw [allow_fS HV.out.1 huA2] at hbq2
        rw [← hbq, ← HR.out] at HAL
        have HBQ := Lib.hid hbq2
        have HBR := Lib.hid hbq
        have r1 : w3.cell? ⟨R, 1, none⟩ = some (.int .i64 (n : Int)) := by rw [HR.out]; exact HF3.out.ct.se.se.c1
        have HEW := Lib.hid (fun (V : World) (hV : Below w3.heap.size w3 V) => endsWell_any (HF3.out.below hV).ct.se.se hA1 hA2 hn16 (hIs.below hV) HZ.out (by rw [hwl]) hzc huA)
        obtain ⟨eq, heq⟩ : ∃ eq, eq = endsB al.size n ck (wordN al t) := ⟨_, rfl⟩
        have HEW2 : Hid (∀ V, Below w3.heap.size w3 V → Calls Try.prog 54 #[.pointer (some ⟨R, 0, none⟩), .slice (some ⟨B, o, none⟩) z c] V fun e w' => e = .returned (.bool eq) ∧ Hid (Below V.heap.size V w')) := by rw [heq, HR.out]; exact HEW.out
        have HEQ := Lib.hid heq
        have HIT := Lib.hid hIt
        have HOB : Hid (∀ j, (Value.slice (some ⟨B, o, none⟩) n c).ownBlock = some j → wc.heap.size ≤ j) := hob
        have HTL := Lib.hid htl
        have HUA2 := Lib.hid huA2
        clear hyes hb3 HWQ hIs huA hbq hbq2 hob heq hIt htl huA2 hwl d0 HEW
        cases bq with
        | false =>
          have hna : ¬ AllowW (bansS ⟨al, (n : Int), bl, ck⟩) ((wordN al t).take n) := fun h => by have := HBQ.out; rw [decide_eq_true h] at this; cases this
          have HNA := Lib.hid hna
          clear HBQ hna
          go_wp2_with (first
            | (go_at_call 53; (with_reducible refine HAL.out.mono ?_); rintro e w4 ⟨rfl, HB4⟩)
            | fail)
          refine bodyPost_ret (v := .tuple #[.int .i64 0, .int .i64 21]) (by simp [results, Try.results25, go_sem]) rfl ?_
          exact ⟨HB3.out.trans (HB4.out.mono HB3.out.size), .inr (.inr (.inr (.inl ⟨HV.out, by rw [HZ.out] at HYES; exact HYES.out, HNA.out, rfl⟩)))⟩
        | true =>
          have hna : AllowW (bansS ⟨al, (n : Int), bl, ck⟩) ((wordN al t).take n) := of_decide_eq_true HBQ.out.symm
          have HNA := Lib.hid hna
          clear HBQ hna
          cases eq with
          | false =>
            go_wp2_with (first
              | (go_at_call 53; (with_reducible refine HAL.out.mono ?_); rintro e w4 ⟨rfl, HB4⟩; have HEW4 := Lib.hid (HEW2.out _ HB4.out))
              | (go_at_call 54; (with_reducible refine HEW4.out.mono ?_); rintro e w5 ⟨rfl, HB5⟩)
              | fail)
            refine bodyPost_ret (v := .tuple #[.int .i64 0, .int .i64 22]) (by simp [results, Try.results25, go_sem]) rfl ?_
            have h34 := HB3.out.trans (HB4.out.mono HB3.out.size)
            exact ⟨h34.trans (HB5.out.mono h34.size), .inr (.inr (.inr (.inr (.inl ⟨HV.out, by rw [HZ.out] at HYES; exact HYES.out, HNA.out, HEQ.out.symm, rfl⟩))))⟩
          | true =>
            obtain ⟨cV, hcV⟩ : ∃ cV, cV = cntV x.bL x.bR x.bK x.bM x.bC := ⟨_, rfl⟩
            have HCV := Lib.hid hcV
            clear hcV
            go_upto_region 12 with (first
              | (go_at_call 53; (with_reducible refine HAL.out.mono ?_); rintro e w4 ⟨rfl, HB4⟩; have HEW4 := Lib.hid (HEW2.out _ HB4.out))
              | (go_at_call 54; (with_reducible refine HEW4.out.mono ?_); rintro e w5 ⟨rfl, HB5⟩)
              | fail)
            have hb35 := HB4.out.trans (HB5.out.mono HB4.out.size)
            have HB35 := Lib.hid hb35
            have HF5 := Lib.hid (HF3.out.below hb35)
            have HBW := Lib.hid (HB3.out.trans (hb35.mono HB3.out.size))
            have hbd : Hid (Below w5.heap.size w5 w5.drew) := below_dr w5 1
            obtain ⟨nb, hnb⟩ : ∃ nb, nb = bel (wordsS ⟨al, (n : Int), bl, ck⟩) ((wordN al t).take n) := ⟨_, rfl⟩
            have HNB := Lib.hid hnb
            have hs35 : w3.heap.size ≤ w5.heap.size := hb35.size
            have hc3 : wc.heap.size ≤ w3.heap.size := HC3.out
            have HBL : Hid (∀ (V : World) (g : Nat), w5.heap.size ≤ g → IsIs V (.slice (some ⟨g, 0, none⟩) z z) (List.replicate z (-1)) → Below w5.heap.size w5 V → Calls Try.prog 55 #[.pointer (some ⟨R, 0, none⟩), .slice (some ⟨g, 0, none⟩) z z, cV, .slice (some ⟨B, o, none⟩) n c] V
                fun e W' => e = .returned (.int .i64 (nb : Int)) ∧ Hid (SerF x ⟨al, (n : Int), bl, ck⟩ W') ∧ Hid (V.grownBy W' (some x.km))) := fun V g hg hI hV => by
              rw [HR.out, HZ.out, HCV.out, hnb]
              rw [HZ.out] at hI
              have h8 := HF5.out.kmlt
              have h9 := HF.out.kmlt
              exact below_S HV.out (HF5.out.below hV) hI (by omega) ((HIT.out.below hb35).below hV) (fun j hj e => by have := HOB.out j hj; omega) HTL.out HUA2.out HBR.out.symm
            have c43 : w5.drew.cell? ⟨R, 4, none⟩ = some cV := by rw [HR.out, HCV.out]; exact HF5.out.c4
            have hR3 : R < w5.drew.heap.size := World.block_lt_of_cell? _ _ c43
            have HANd : Hid (Calls Try.prog 50 #[.pointer (some ⟨R, 0, none⟩)] w5.drew fun e w' => ∃ g, w5.heap.size ≤ g ∧ e = .returned (.slice (some ⟨g, 0, none⟩) z z) ∧ Hid (IsIs w' (.slice (some ⟨g, 0, none⟩) z z) (List.replicate z (-1))) ∧ Hid (Below w5.drew.heap.size w5.drew w')) := by rw [HR.out, HZ.out]; exact anything_at (HF5.out.below (below_dr w5 1)).ct.se.se hn1 hn16
            clear hnb hb35 HEW2 HAL r1
            go_region_with (first
              | (go_at_call 50; (with_reducible refine HANd.out.mono ?_); rintro e w6 ⟨g, hg, rfl, HI6, HB6⟩; have hB56 := Lib.hid (hbd.out.trans HB6.out); have c46 := (HB6.out.cell (p := ⟨R, 4, none⟩) hR3).trans c43; have HBL6 := Lib.hid (HBL.out w6 g hg HI6.out hB56.out))
              | (go_at_call 55; (with_reducible refine HBL6.out.mono ?_); rintro e w7 ⟨rfl, HF7, HG7⟩)
              | fail)
            all_goals go_wp2_with fail
            all_goals refine bodyPost_ret (v := .tuple #[.int .i64 (nb : Int), .int .i64 0]) (by simp [results, Try.results25, go_sem]) rfl ?_
            all_goals
              have hb6 := HBW.out.trans (hB56.out.mono HBW.out.size)
              exact ⟨hb6.grown HG7.out hb6.size (fun j hj => by cases hj; exact HK.out), .inr (.inr (.inr (.inr (.inr ⟨HV.out, by rw [HZ.out] at HYES; exact HYES.out, HNA.out, HEQ.out.symm, by rw [HNB.out]; rfl⟩))))⟩
end Go.Proofs.Ytgblfobomiiofaa
namespace Go.Proofs.Ytgblfobomiiofaa
open Go Go.RowKit Go.Shelf Gw Go.Maps

/-- the scheme of the self-test -/
def s0 : Sch := ⟨⟨#[48, 49]⟩, 3, [⟨#[49, 49]⟩], false⟩
theorem s0_alpha : GoodA s0.al := by
  unfold GoodA OkB
  decide +kernel
theorem s0_bans : GoodB s0.bl s0.al := by
  unfold GoodB OkBan OfA
  decide +kernel
theorem s0_well : WellF s0 := ⟨s0_alpha, by decide, by decide, s0_bans, fun h => by cases h⟩
theorem s0_tot : totS s0 = 5 := by decide +kernel
theorem s0_valid : ValidS s0 := ⟨s0_well, by rw [s0_tot]; decide, by rw [s0_tot]; decide⟩
theorem num0 {W W' : World} {e : Ending} (h : NumP s0 ⟨#[49, 48, 49]⟩ W e W') : e = .returned (.tuple #[.int .i64 4, .int .i64 0]) ∧ Hid (Below W.heap.size W W') := by
  obtain ⟨hb, h⟩ := h
  have h1 : (ByteArray.size ⟨#[49, 48, 49]⟩ = szN (nS s0) s0.ck ∧ OfA ⟨#[49, 48, 49]⟩ s0.al) := by unfold OfA; decide +kernel
  have h2 : AllowW (bansS s0) ((wordN s0.al ⟨#[49, 48, 49]⟩).take (nS s0)) := by decide +kernel
  have h3 : endsB s0.al.size (nS s0) s0.ck (wordN s0.al ⟨#[49, 48, 49]⟩) = true := by decide +kernel
  have h4 : bel (wordsS s0) ((wordN s0.al ⟨#[49, 48, 49]⟩).take (nS s0)) = 4 := by decide +kernel
  refine ⟨?_, hb⟩
  rcases h with ⟨hn, _⟩ | ⟨_, hm, _⟩ | ⟨_, hm, _⟩ | ⟨_, _, hm, _⟩ | ⟨_, _, _, hm, _⟩ | ⟨_, _, _, _, rfl⟩
  · exact absurd s0_well hn
  · exact absurd s0_valid.2 hm
  · exact absurd h1 hm
  · exact absurd h2 hm
  · rw [h3] at hm; cases hm
  · rw [h4]; rfl
theorem text0 {W W' : World} {e : Ending} (h : TextP s0 3 W e W') : e = .returned (.tuple #[.string ⟨#[49, 48, 48]⟩, .int .i64 0]) ∧ Hid (Below W.heap.size W W') := by
  obtain ⟨hb, h⟩ := h
  refine ⟨?_, hb⟩
  rcases h with ⟨hn, _⟩ | ⟨_, hm, _⟩ | ⟨_, hm, _⟩ | ⟨_, K, u, hK, _, hu, rfl⟩
  · exact absurd s0_well hn
  · exact absurd s0_valid.2 hm
  · exact absurd ⟨by decide, by rw [s0_tot]; decide⟩ hm
  · have hK3 : K = 3 := by omega
    subst hK3
    have h5 : (wordsS s0)[3]? = some [1, 0, 0] := by decide +kernel
    rw [h5] at hu
    injection hu with hu
    subst hu
    have h6 : serB s0.al s0.ck [1, 0, 0] = ⟨#[49, 48, 48]⟩ := congrArg ByteArray.mk (by decide +kernel)
    rw [h6]
theorem isSs_one (W : World) (b : ByteArray) (t : TypeId) : IsSs (W.alloc (.cells #[.string b] t)) (.slice (some ⟨W.heap.size, 0, none⟩) 1 1) [b] := by
  refine ⟨some ⟨W.heap.size, 0, none⟩, 1, rfl, fun _ => ⟨W.heap.size, 0, rfl, by rw [World.size_alloc]; exact Nat.lt_succ_self _, fun j hj => ?_⟩⟩
  have : j = 0 := by simpa using hj
  subst this
  exact World.cell?_alloc_at _ _ _ _ rfl
set_option maxRecDepth 100000 in
set_option maxHeartbeats 2000000 in
theorem serawake_any (W : World) : Calls Try.prog 17 #[] W fun e w' => e = .returned (.bool true) ∧ Hid (Below W.heap.size W w') := by
  have HNU : Hid (∀ V bv, IsSs V bv [⟨#[49, 49]⟩] → Calls Try.prog 25 #[.agg #[.string ⟨#[48, 49]⟩, .int .i64 3, bv, .bool false], .string ⟨#[49, 48, 49]⟩] V fun e w' => e = .returned (.tuple #[.int .i64 4, .int .i64 0]) ∧ Hid (Below V.heap.size V w')) := fun V bv h => (Number_any (s := s0) (t := ⟨#[49, 48, 49]⟩) h).mono fun e w' h2 => num0 h2
  have HTE : Hid (∀ V bv, IsSs V bv [⟨#[49, 49]⟩] → Calls Try.prog 24 #[.agg #[.string ⟨#[48, 49]⟩, .int .i64 3, bv, .bool false], .int .i64 3] V fun e w' => e = .returned (.tuple #[.string ⟨#[49, 48, 48]⟩, .int .i64 0]) ∧ Hid (Below V.heap.size V w')) := fun V bv h => (Text_any (s := s0) (N := 3) h).mono fun e w' h2 => text0 h2
  have HSS := Lib.hid (isSs_one W ⟨#[49, 49]⟩ 9)
  obtain ⟨w1, hw1⟩ : ∃ w1, w1 = W.alloc (.cells #[.string ⟨#[49, 49]⟩] 9) := ⟨_, rfl⟩
  have hb1 : Below W.heap.size W w1 := by rw [hw1]; exact below_al _ _
  obtain ⟨w2, hw2⟩ : ∃ w2, w2 = w1.alloc (.cells #[.string ⟨#[48, 49]⟩, .int .i64 3, .slice (some ⟨W.heap.size, 0, none⟩) 1 1, .bool false] 24) := ⟨_, rfl⟩
  have hb2 : Below w1.heap.size w1 w2 := by rw [hw2]; exact below_al _ _
  have s1 : w1.heap.size = W.heap.size + 1 := by rw [hw1]; exact World.size_alloc _ _
  have H4 : Hid (B4 (W.heap.size + 1) (.string ⟨#[48, 49]⟩) (.int .i64 3) (.slice (some ⟨W.heap.size, 0, none⟩) 1 1) (.bool false) w2) := by rw [hw2, ← s1]; exact B4.new _ _ _ _ _ _
  rw [← hw1] at HSS
  have HS2 := Lib.hid (HSS.out.below hb2)
  have HB2 := Lib.hid (hb1.trans (hb2.mono hb1.size))
  have HW2 : Hid (w2 = (W.alloc (.cells #[.string ⟨#[49, 49]⟩] 9)).alloc (.cells #[.string ⟨#[48, 49]⟩, .int .i64 3, .slice (some ⟨W.heap.size, 0, none⟩) 1 1, .bool false] 24)) := by rw [← hw1]; exact hw2
  clear hw1 hw2 hb1 hb2 s1 HSS
  have hX : W.heap.size + 1 < w2.heap.size := H4.out.lt
  go_enter Try.func17, Try.ntmps17
  go_upto_region 2 with fail
  rw [← HW2.out]
  have k0 := H4.out.c0; have k1 := H4.out.c1; have k2 := H4.out.c2; have k3 := H4.out.c3
  have HNU2 := Lib.hid (HNU.out _ _ HS2.out)
  go_upto_region 3 with (first
    | (go_at_call 25; (with_reducible refine HNU2.out.mono ?_); rintro e w3 ⟨rfl, HB3⟩)
    | fail)
  have H43 := Lib.hid (H4.out.below HB3.out)
  have HTE3 := Lib.hid (HTE.out _ _ (HS2.out.below HB3.out))
  clear k0 k1 k2 k3
  have k0 := H43.out.c0; have k1 := H43.out.c1; have k2 := H43.out.c2; have k3 := H43.out.c3
  have hne : ((#[49, 48, 48] : Array UInt8) == #[49, 48, 48]) = true := by decide
  go_wp2_with (first
    | (go_at_call 24; (with_reducible refine HTE3.out.mono ?_); rintro e w4 ⟨rfl, HB4⟩)
    | fail)
  go_ret
  exact ⟨rfl, (HB2.out.trans (HB3.out.mono HB2.out.size)).trans (HB4.out.mono (HB2.out.trans (HB3.out.mono HB2.out.size)).size)⟩
end Go.Proofs.Ytgblfobomiiofaa
namespace Go.Proofs.Ytgblfobomiiofaa
open Go Go.RowKit Go.Shelf Gw Go.Maps

/-- the sum that few adds up -/
def fewZ (al : ByteArray) (bl : List ByteArray) : Nat → Int
  | 0 => (al.size : Int)
  | i + 1 => wrap64 (fewZ al bl i + min ((bl.getD i ⟨#[]⟩).size : Int) 1000)
/-- what few answers -/
def fewB (s : Sch) : Bool := decide (s.bl.length ≤ 20) && decide (fewZ s.al s.bl s.bl.length ≤ 400)
theorem fewB_len {s : Sch} (h : fewB s = true) : s.bl.length ≤ 20 := by
  unfold fewB at h
  rw [Bool.and_eq_true] at h
  exact of_decide_eq_true h.1
theorem fewB_of {s : Sch} (h : s.bl.length ≤ 20) (z : Int) (hz : z = fewZ s.al s.bl s.bl.length) : fewB s = decide (z ≤ 400) := by
  unfold fewB
  rw [decide_eq_true h, ← hz]; rfl
theorem fewB_no {s : Sch} (h : ¬ s.bl.length ≤ 20) : fewB s = false := by
  unfold fewB
  rw [decide_eq_false h]; rfl
def FewP (s : Sch) (w : World) (e : Ending) (w' : World) : Prop := e = .returned (.bool (fewB s)) ∧ Hid (Below w.heap.size w w')
set_option maxRecDepth 100000 in
set_option maxHeartbeats 2000000 in
theorem few_any {s : Sch} {bv : Value} {w : World} (hv : IsSs w bv s.bl) : Calls Try.prog 16 #[schV s bv] w (FewP s w) := by
  obtain ⟨w1, hw1⟩ : ∃ w1, w1 = w.alloc (.cells #[.string s.al, .int .i64 s.len, bv, .bool s.ck] 24) := ⟨_, rfl⟩
  have hb1 : Below w.heap.size w w1 := by rw [hw1]; exact below_al _ _
  have H4 : Hid (B4 w.heap.size (.string s.al) (.int .i64 s.len) bv (.bool s.ck) w1) := by rw [hw1]; exact B4.new _ _ _ _ _ _
  have HV := Lib.hid (hv.below hb1)
  have HB1 := Lib.hid hb1
  have HW1 := Lib.hid hw1
  obtain ⟨bo, bc, rfl, -⟩ := hv
  obtain ⟨al, len, bl, ck⟩ := s
  unfold schV
  dsimp only at *
  clear hw1 hb1
  obtain ⟨m, hm⟩ : ∃ m, m = bl.length := ⟨_, rfl⟩
  rw [← hm] at HV HW1 H4 ⊢
  have HM := Lib.hid hm
  clear hm
  have k0 := H4.out.c0; have k1 := H4.out.c1; have k2 := H4.out.c2; have k3 := H4.out.c3
  go_enter Try.func16, Try.ntmps16
  go_upto_region 1 with fail
  rw [← HW1.out]
  go_wp2_with fail
  go_loopw [3, 4] (fun s3 s4 wr => ∃ (z : Int) (i : Nat), i ≤ 20 ∧ i ≤ m ∧ s3 = .int .i64 z ∧ s4 = .int .i64 i ∧ Hid (z = fewZ al bl i) ∧ w1 = wr) (fun _ s4 _ => 20 - (intOf s4).toNat)
  case atStart => exact ⟨_, 0, by omega, Nat.zero_le _, rfl, rfl, rfl, rfl⟩
  case round =>
    obtain ⟨z, i, hi, him, rfl, rfl, HZ, rfl⟩ := hrel
    by_cases q : i < m
    · have q1 : (i : Int) < m := by omega
      by_cases p : i < 20
      · have p1 : (i : Int) < 20 := by omega
        have hw : IntKind.i64.wrap ((i : Int) + 1) = ((i + 1 : Nat) : Int) := by rw [IntWalk.i64_in _ (by omega)]; omega
        have hib : i < bl.length := by rw [← HM.out]; exact q
        obtain ⟨B, o, rfl, d0⟩ := HV.out.at' hib
        obtain ⟨b, hb⟩ : ∃ b, b = bl[i] := ⟨_, rfl⟩
        rw [← hb] at d0
        have HZ2 : Hid (wrap64 (z + min (b.size : Int) 1000) = fewZ al bl (i + 1)) := by
          show _ = _
          unfold fewZ
          rw [HZ.out, hb]
          simp [hib]
        clear hb
        go_wp2_with fail
        go_roundw
        case rel => exact ⟨_, i + 1, p, q, rfl, by go_num, HZ2, by trivial⟩
        case measure => simp [intOf]; omega
      · have p1 : ¬ (i : Int) < 20 := by omega
        have r1 : ¬ (m : Int) ≤ 20 := by omega
        have HN : Hid (fewB ⟨al, len, bl, ck⟩ = false) := fewB_no (by show ¬ bl.length ≤ 20; rw [← HM.out]; omega)
        go_wp2_with fail
        go_ret
        exact ⟨by rw [HN.out]; rfl, HB1⟩
    · have q1 : ¬ (i : Int) < m := by omega
      obtain rfl : i = m := by omega
      have r1 : (i : Int) ≤ 20 := by omega
      have HN : Hid (fewB ⟨al, len, bl, ck⟩ = decide (z ≤ 400)) := fewB_of (by show bl.length ≤ 20; rw [← HM.out]; omega) z (by rw [HZ.out, HM.out])
      by_cases zz : z ≤ 400
      · have HN2 : Hid (fewB ⟨al, len, bl, ck⟩ = true) := by show _ = _; rw [HN.out, decide_eq_true zz]
        go_wp2_with fail
        go_ret
        exact ⟨by rw [HN2.out]; rfl, HB1⟩
      · have HN2 : Hid (fewB ⟨al, len, bl, ck⟩ = false) := by show _ = _; rw [HN.out, decide_eq_false zz]
        go_wp2_with fail
        go_ret
        exact ⟨by rw [HN2.out]; rfl, HB1⟩
theorem Try.infoStrS : (Try.prog.info? 9).map (fun i => (i.zero, i.size, i.bytes)) = some (some (.string ⟨#[]⟩), 1, 16) := by kernel_rfl
theorem isSs_of_row {W : World} {base : Nat} {v : Value} {l : List ByteArray} (h : W.ownsRow base 9 1 v l.length (l.map .string)) : IsSs W v l := by
  have hcs := fun g hg => h.cells (g := g) hg
  have hlt := h.lt
  rcases h.2 with ⟨rfl, h0⟩ | ⟨g, cap, cur, rfl, _⟩
  · exact ⟨none, 0, by rw [h0], fun hp => by omega⟩
  · refine ⟨some ⟨g, 0, none⟩, cap, rfl, fun hp => ⟨g, 0, rfl, (hlt g rfl).2, fun j hj => ?_⟩⟩
    have e0 : (l.map Value.string)[j]? = some (.string l[j]) := by simp [hj]
    have c0 := hcs g rfl _ _ e0
    rw [show (⟨g, 0, none⟩ : Addr).add j = ⟨g, 0 + j, none⟩ from Addr.add_lit ..] at c0
    exact c0
/-- an empty list of strings at a slice that is nil has no room -/
def NilOk (v : Value) : Prop := ∀ n c, v = .slice none n c → c = 0
/-- a box of four cells that can be written -/
structure B4F (X : Nat) (a b c d : Value) (w : World) : Prop where
  b : B4 X a b c d w
  fz : ∀ j, w.frozen? ⟨X, j, none⟩ = false
section
variable {X : Nat} {a b c d : Value} {w w' : World}
theorem B4F.new (W : World) (a b c d : Value) (t : TypeId) : B4F W.heap.size a b c d (W.alloc (.cells #[a, b, c, d] t)) :=
  ⟨B4.new _ _ _ _ _ _, fun j => by unfold World.frozen?; dsimp only; rw [World.alloc_heap_new]; simp⟩
theorem B4F.below (h : B4F X a b c d w) (hb : Below w.heap.size w w') : B4F X a b c d w' := ⟨h.b.below hb, fun j => (hb.frozen (p := ⟨X, j, none⟩) h.b.lt).trans (h.fz j)⟩
theorem B4F.kept (h : B4F X a b c d w) {row : Option Nat} (hg : w.grownBy w' row) (hne : some X ≠ row) : B4F X a b c d w' :=
  ⟨⟨hg.cell h.b.c0 hne, hg.cell h.b.c1 hne, hg.cell h.b.c2 hne, hg.cell h.b.c3 hne⟩, fun j => (World.frozen?_of_block (a := ⟨X, j, none⟩) (hg.block X h.b.lt hne)).trans (h.fz j)⟩
theorem B4F.set2 (h : B4F X a b c d w) (z : Value) : B4F X a b z d (w.setCell ⟨X, 2, none⟩ z) := by
  have ot : ∀ (k : Nat) (v : Value), k ≠ 2 → w.cell? ⟨X, k, none⟩ = some v → (w.setCell ⟨X, 2, none⟩ z).cell? ⟨X, k, none⟩ = some v := fun k v hk e => (World.cell?_setCell_other w ⟨X, 2, none⟩ ⟨X, k, none⟩ _ (by intro e; injection e with _ e; exact hk e.symm)).trans e
  exact ⟨⟨ot 0 _ (by decide) h.b.c0, ot 1 _ (by decide) h.b.c1, World.cell?_setCell_same _ _ _ h.b.c2, ot 3 _ (by decide) h.b.c3⟩, fun j => by rw [World.frozen?_setCell]; exact h.fz j⟩
theorem B4F.all (h : B4F X a b c d w) (a' b' c' d' : Value) : B4F X a' b' c' d' ((((w.setCell ⟨X, 0, none⟩ a').setCell ⟨X, 1, none⟩ b').setCell ⟨X, 2, none⟩ c').setCell ⟨X, 3, none⟩ d') := by
  have ne : ∀ {i j : Nat}, i ≠ j → (⟨X, i, none⟩ : Addr) ≠ ⟨X, j, none⟩ := fun h e => by injection e with _ e; exact h e
  have st : ∀ (W : World) (i : Nat) (z y : Value), W.cell? ⟨X, i, none⟩ = some y → (W.setCell ⟨X, i, none⟩ z).cell? ⟨X, i, none⟩ = some z := fun W i z y e => World.cell?_setCell_same _ _ _ e
  have ot : ∀ (W : World) (i j : Nat) (z y : Value), i ≠ j → W.cell? ⟨X, j, none⟩ = some y → (W.setCell ⟨X, i, none⟩ z).cell? ⟨X, j, none⟩ = some y := fun W i j z y hne e => (World.cell?_setCell_other W ⟨X, i, none⟩ ⟨X, j, none⟩ _ (ne hne)).trans e
  refine ⟨⟨?_, ?_, ?_, ?_⟩, fun j => by rw [World.frozen?_setCell, World.frozen?_setCell, World.frozen?_setCell, World.frozen?_setCell]; exact h.fz j⟩
  · exact ot _ _ _ _ _ (by decide) (ot _ _ _ _ _ (by decide) (ot _ _ _ _ _ (by decide) (st _ _ _ _ h.b.c0)))
  · exact ot _ _ _ _ _ (by decide) (ot _ _ _ _ _ (by decide) (st _ _ _ _ (ot _ _ _ _ _ (by decide) h.b.c1)))
  · exact ot _ _ _ _ _ (by decide) (st _ _ _ _ (ot _ _ _ _ _ (by decide) (ot _ _ _ _ _ (by decide) h.b.c2)))
  · exact st _ _ _ _ (ot _ _ _ _ _ (by decide) (ot _ _ _ _ _ (by decide) (ot _ _ _ _ _ (by decide) h.b.c3)))
end
/-- what copied answers -/
def CopyP (s : Sch) (w : World) (e : Ending) (w' : World) : Prop := ∃ v, e = .returned (schV s v) ∧ w'.ownsRow w.heap.size 9 1 v s.bl.length (s.bl.map .string) ∧ Below w.heap.size w w'
set_option maxRecDepth 100000 in
set_option maxHeartbeats 2000000 in
theorem copied_any {s : Sch} {bv : Value} {w : World} (hv : IsSs w bv s.bl) (hnil : NilOk bv) (hl : s.bl.length ≤ 20) : Calls Try.prog 18 #[schV s bv] w (CopyP s w) := by
  obtain ⟨i0, hi0, hz0, hz1, hz2⟩ := info_parts Try.infoStrS
  obtain ⟨w1, hw1⟩ : ∃ w1, w1 = w.alloc (.cells #[.string s.al, .int .i64 s.len, bv, .bool s.ck] 24) := ⟨_, rfl⟩
  have hb1 : Below w.heap.size w w1 := by rw [hw1]; exact below_al _ _
  have H4 : Hid (B4 w.heap.size (.string s.al) (.int .i64 s.len) bv (.bool s.ck) w1) := by rw [hw1]; exact B4.new _ _ _ _ _ _
  have HV := Lib.hid (hv.below hb1)
  have HB1 := Lib.hid hb1
  have HW1 := Lib.hid hw1
  obtain ⟨bo, bc, rfl, -⟩ := hv
  obtain ⟨al, len, bl, ck⟩ := s
  unfold schV
  dsimp only at *
  clear hw1 hb1
  obtain ⟨m, hm⟩ : ∃ m, m = bl.length := ⟨_, rfl⟩
  rw [← hm] at HV HW1 H4 hl ⊢
  have HM := Lib.hid hm
  clear hm
  have k0 := H4.out.c0; have k1 := H4.out.c1; have k2 := H4.out.c2; have k3 := H4.out.c3
  go_enter Try.func18, Try.ntmps18
  go_upto_region 1 with fail
  rw [← HW1.out]
  obtain ⟨w2, hw2⟩ : ∃ w2, w2 = w1.alloc (.cells #[.string ⟨#[]⟩, .int .i64 0, .slice none 0 0, .bool false] 24) := ⟨_, rfl⟩
  have s1 : w1.heap.size = w.heap.size + 1 := by rw [HW1.out]; exact World.size_alloc _ _
  have hb2 : Below w1.heap.size w1 w2 := by rw [hw2]; exact below_al _ _
  have HR2 : Hid (B4F (w.heap.size + 1) (.string ⟨#[]⟩) (.int .i64 0) (.slice none 0 0) (.bool false) w2) := by rw [hw2, ← s1]; exact B4F.new _ _ _ _ _ _
  have HX2 : Hid (B4F w.heap.size (.string al) (.int .i64 len) (.slice bo m bc) (.bool ck) w2) := by
    have h3 : B4F w.heap.size (.string al) (.int .i64 len) (.slice bo m bc) (.bool ck) w1 := by rw [HW1.out]; exact B4F.new _ _ _ _ _ _
    exact h3.below hb2
  have HB2 := Lib.hid (HB1.out.trans (hb2.mono HB1.out.size))
  have HV2 := Lib.hid (HV.out.below hb2)
  obtain ⟨X, hX⟩ : ∃ X, X = w.heap.size := ⟨_, rfl⟩
  rw [← hX] at HR2 HX2
  have HXE := Lib.hid hX
  have hX2 : X + 1 < w2.heap.size := HR2.out.b.lt
  rw [← hw2, ← hX]
  have HROW : Hid ((w2.alloc (.cells #[] 9)).ownsRow X 9 1 (.slice (some ⟨w2.heap.size, 0, none⟩) 0 0) 0 []) := by
    show (w2.alloc (.cells #[] 9)).ownsRow X 9 1 _ 0 []
    exact World.ownsRow_lit w2 #[] 0 (by omega) (by decide) rfl
  have hxz : X ≤ w2.heap.size := by omega
  clear hw2 hb2 s1 k0 k1 k2 k3 hX H4
  have k2 := HX2.out.b.c2
  have HNX : Hid (some X ≠ (Value.slice (some ⟨w2.heap.size, 0, none⟩) 0 0).ownBlock) := fun e => by have e2 : some X = some w2.heap.size := e; injection e2 with e2; omega
  have HNR : Hid (some (X + 1) ≠ (Value.slice (some ⟨w2.heap.size, 0, none⟩) 0 0).ownBlock) := fun e => by have e2 : some (X + 1) = some w2.heap.size := e; injection e2 with e2; omega
  have HROWB : Hid (∀ j, (Value.slice (some ⟨w2.heap.size, 0, none⟩) 0 0).ownBlock = some j → w.heap.size ≤ j) := fun j e => by have e2 : some w2.heap.size = some j := e; injection e2 with e2; rw [← e2, ← HXE.out]; exact hxz
  have HSZ : Hid (w.heap.size ≤ w2.heap.size) := by show _ ≤ _; rw [← HXE.out]; exact hxz
  have HFIN : Hid (∀ (w8 : World) (v' : Value), w8.ownsRow X 9 1 v' m (bl.map Value.string) → B4F X (.string al) (.int .i64 len) (.slice bo m bc) (.bool ck) w8 → B4F (X + 1) (.string ⟨#[]⟩) (.int .i64 0) (.slice none 0 0) (.bool false) w8 → Below w.heap.size w w8 → (v'.ownBlock = none ∨ ∃ g, v'.ownBlock = some g ∧ X + 1 < g) →
      B4F X (.string al) (.int .i64 len) v' (.bool ck) (w8.setCell ⟨X, 2, none⟩ v') ∧ B4F (X + 1) (.string ⟨#[]⟩) (.int .i64 0) (.slice none 0 0) (.bool false) (w8.setCell ⟨X, 2, none⟩ v') ∧
      B4F (X + 1) (.string al) (.int .i64 len) v' (.bool ck) (((((w8.setCell ⟨X, 2, none⟩ v').setCell ⟨X + 1, 0, none⟩ (.string al)).setCell ⟨X + 1, 1, none⟩ (.int .i64 len)).setCell ⟨X + 1, 2, none⟩ v').setCell ⟨X + 1, 3, none⟩ (.bool ck)) ∧
      CopyP ⟨al, len, bl, ck⟩ w (.returned (.agg #[.string al, .int .i64 len, v', .bool ck])) (((((w8.setCell ⟨X, 2, none⟩ v').setCell ⟨X + 1, 0, none⟩ (.string al)).setCell ⟨X + 1, 1, none⟩ (.int .i64 len)).setCell ⟨X + 1, 2, none⟩ v').setCell ⟨X + 1, 3, none⟩ (.bool ck))) := fun w8 v' ho hx hr hb hn => by
    have e1 := hx.set2 v'
    have hg := grownBy_setCell w8 X 2 v'
    have e2 := hr.kept hg (fun e => by have := Option.some.inj e; omega)
    have e3 := e2.all (.string al) (.int .i64 len) v' (.bool ck)
    have hw := HXE.out
    refine ⟨e1, e2, e3, v', rfl, ?_, ((((hb.setCell (p := ⟨X, 2, none⟩) (by show _ ≤ X; omega) _).setCell (p := ⟨X + 1, 0, none⟩) (by show _ ≤ X + 1; omega) _).setCell (p := ⟨X + 1, 1, none⟩) (by show _ ≤ X + 1; omega) _).setCell (p := ⟨X + 1, 2, none⟩) (by show _ ≤ X + 1; omega) _).setCell (p := ⟨X + 1, 3, none⟩) (by show _ ≤ X + 1; omega) _⟩
    rw [← HM.out, ← HXE.out]
    have nk : ∀ (W : World) (b j : Nat) (z : Value), b ≤ X + 1 → W.ownsRow X 9 1 v' m (bl.map Value.string) → (W.setCell ⟨b, j, none⟩ z).ownsRow X 9 1 v' m (bl.map Value.string) := fun W b j z hb h => by
      refine h.kept (grownBy_setCell W b j z) ?_
      rcases hn with e | ⟨g, e, e2⟩
      · exact .inl e
      · exact .inr (fun e3 => by rw [e] at e3; have := Option.some.inj e3; omega)
    exact nk _ _ _ _ (Nat.le_refl _) (nk _ _ _ _ (Nat.le_refl _) (nk _ _ _ _ (Nat.le_refl _) (nk _ _ _ _ (Nat.le_refl _) (nk _ _ _ _ (Nat.le_succ _) ho))))
  have hml : m ≤ maxLen := by unfold maxLen; omega
  have HML : Hid (0 + m ≤ maxLen ∧ (0 + m) * 16 ≤ 140737488355328) := ⟨by omega, by omega⟩
  have HXB : Hid (∀ o, X ≤ (w2.alloc o).heap.size) := fun o => by rw [World.size_alloc]; omega
  cases bo with
  | none =>
    have hm0 : m = 0 := by
      refine Nat.eq_zero_of_not_pos fun hp => ?_
      obtain ⟨ao, c, e1, e2⟩ := HV2.out
      obtain ⟨B, o, e3, _⟩ := e2 (by rw [← HM.out]; exact hp)
      injection e1 with e1
      rw [e3] at e1
      cases e1
    have hc0 : bc = 0 := hnil _ _ rfl
    subst hm0
    subst hc0
    have HW8 : Hid ((w2.alloc (.cells #[] 9)).ownsRow X 9 1 (.slice (some ⟨w2.heap.size, 0, none⟩) 0 0) 0 (bl.map Value.string)) := by
      have e : bl = [] := List.eq_nil_of_length_eq_zero HM.out.symm
      rw [e]; exact HROW.out
    have hf := HFIN.out _ _ HW8.out (HX2.out.below (below_al w2 _)) (HR2.out.below (below_al w2 _)) (HB2.out.alloc HSZ.out _) (.inr ⟨_, rfl, hX2⟩)
    have k2 := (HX2.out.below (below_al w2 (.cells #[] 9))).b.c2
    have f2 := (HX2.out.below (below_al w2 (.cells #[] 9))).fz 2
    have k2w := HX2.out.b.c2
    go_upto_region 2 with (at_builtin; refine wpList_append_own_none rfl _ _ 22 rfl X 9 i0 1 Try.underlying22 hi0 (.slice (some ⟨w2.heap.size, 0, none⟩) 0 0) 0 [] rfl HROW.out rfl ?_)
    obtain ⟨X2, R2, E3, CP⟩ := hf
    have v0 := X2.b.c0
    have v1 := X2.b.c1
    have v2 := X2.b.c2
    have v3 := X2.b.c3
    have r0 := R2.b.c0
    have r1 := R2.b.c1
    have r2 := R2.b.c2
    have r3 := R2.b.c3
    have g0 := R2.fz 0
    have g1 := R2.fz 1
    have g2 := R2.fz 2
    have g3 := R2.fz 3
    have HE3 := Lib.hid E3
    have HCP := Lib.hid CP
    clear X2 R2 E3 CP k2 f2 k2w
    generalize World.setCell (w2.alloc _) _ _ = w9 at *
    go_wp2_with fail
    have e0 := HE3.out.b.c0
    have e1 := HE3.out.b.c1
    have e2 := HE3.out.b.c2
    have e3 := HE3.out.b.c3
    exact bodyPost_ret (v := .agg #[.string al, .int .i64 len, .slice (some ⟨w2.heap.size, 0, none⟩) 0 0, .bool ck]) (by simp [results, Try.results18, go_sem, e0, e1, e2, e3]) rfl HCP.out
  | some ad =>
    have HNEW : Hid (∀ W, Below w2.heap.size w2 W → ∀ j u, (bl.map Value.string)[j]? = some u → W.cell? (ad.add j) = some u) := fun W hW j u hu => by
      have hj : j < bl.length := by have := (List.getElem?_eq_some_iff.1 hu).1; simpa using this
      obtain ⟨B', o', e1, hc⟩ := (HV2.out.below hW).at' hj
      injection e1 with e1
      subst e1
      rw [show (⟨B', o', none⟩ : Addr).add j = ⟨B', o' + j, none⟩ from Addr.add_lit .., hc]
      simp [hj] at hu
      rw [hu]
    have HNL : Hid ((bl.map Value.string).length = m * 1) := by show _ = _; rw [List.length_map, HM.out, Nat.mul_one]
    have HN1 : Hid (∀ u ∈ bl.map Value.string, u.oneCell' = true) := fun u hu => by obtain ⟨b, _, rfl⟩ := List.mem_map.1 hu; rfl
    obtain ⟨xs, hxs⟩ : ∃ xs, xs = bl.map Value.string := ⟨_, rfl⟩
    rw [← hxs] at HNEW HNL HN1 HFIN
    have HXS := Lib.hid hxs
    clear hxs
    have k2 := (HX2.out.below (below_al w2 (.cells #[] 9))).b.c2
    go_upto_region 2 with (at_builtin; go_must (refine wpList_append_own_at _ rfl _ _ 22 rfl X 9 i0 (.string ⟨#[]⟩) 1 16 Try.underlying22 hi0 hz0 hz1 hz2 rfl (by decide) (.slice (some ⟨w2.heap.size, 0, none⟩) 0 0) 0 [] rfl HROW.out ad m bc xs rfl HNL.out (HNEW.out _ (below_al w2 _)) HN1.out HML.out.1 HML.out.2 (HXB.out _) ?_); intro v' w8 hown hgrow _ hat; have HAT := Lib.hid hat; clear hat; rw [Nat.zero_add, List.nil_append] at hown; obtain ⟨so2, sc2, rfl⟩ := row_sl hown; have HX8 := Lib.hid ((HX2.out.below (below_al w2 _)).kept hgrow (HNX.out)); have HR8 := Lib.hid ((HR2.out.below (below_al w2 _)).kept hgrow (HNR.out)); have k28 := HX8.out.b.c2; have f28 := HX8.out.fz 2)
    have hB8 := ((HB2.out.alloc HSZ.out _)).grown hgrow (by rw [World.size_alloc]; exact Nat.le_succ_of_le HSZ.out) HROWB.out
    obtain ⟨X2, R2, E3, CP⟩ := HFIN.out w8 _ hown HX8.out HR8.out hB8 (by
      rcases HAT.out with e | e
      · exact .inr ⟨_, e, hX2⟩
      · refine .inr ⟨_, e, ?_⟩
        rw [World.size_alloc]; omega)
    have v0 := X2.b.c0
    have v1 := X2.b.c1
    have v2 := X2.b.c2
    have v3 := X2.b.c3
    have r0 := R2.b.c0
    have r1 := R2.b.c1
    have r2 := R2.b.c2
    have r3 := R2.b.c3
    have g0 := R2.fz 0
    have g1 := R2.fz 1
    have g2 := R2.fz 2
    have g3 := R2.fz 3
    have HE3 := Lib.hid E3
    have HCP := Lib.hid CP
    clear X2 R2 E3 CP k2 k28 f28 hown hgrow HAT hB8
    generalize World.setCell w8 _ _ = w9 at *
    go_wp2_with fail
    have e0 := HE3.out.b.c0
    have e1 := HE3.out.b.c1
    have e2 := HE3.out.b.c2
    have e3 := HE3.out.b.c3
    exact bodyPost_ret (v := .agg #[.string al, .int .i64 len, .slice so2 m sc2, .bool ck]) (by simp [results, Try.results18, go_sem, e0, e1, e2, e3]) rfl HCP.out
end Go.Proofs.Ytgblfobomiiofaa
namespace Go.Proofs.Ytgblfobomiiofaa
open Go Go.RowKit Go.Shelf Gw Go.Maps

theorem btl_ne {a b : ByteArray} (h : a ≠ b) : (a.toList == b.toList) = false :=
  beq_eq_false_iff_ne.2 (fun e => h (by rw [ByteArray.toList_eq, ByteArray.toList_eq] at e; exact ByteArray.ext (Array.toList_inj.1 e)))
/-- a text holds a string at a place -/
def AtB (t b : ByteArray) (k : Nat) : Prop := k + b.size ≤ t.size ∧ t.extract k (k + b.size) = b
theorem bys_extract (t : ByteArray) (i j : Nat) : bys (t.extract i j) = ((bys t).take j).drop i := by
  unfold bys
  rw [ByteArray.data_extract, Array.toList_extract, List.extract_eq_drop_take']
theorem bys_inj {a b : ByteArray} (h : bys a = bys b) : a = b := by
  cases a; cases b
  unfold bys at h
  congr 1
  exact Array.toList_inj.1 h
theorem bys_len (a : ByteArray) : (bys a).length = a.size := by simp [bys]
theorem infix_at (t b : ByteArray) : bys b <:+: bys t ↔ ∃ k, AtB t b k := by
  constructor
  · rintro ⟨x, y, h⟩
    have hl := congrArg List.length h
    simp only [List.length_append, bys_len] at hl
    refine ⟨x.length, by omega, bys_inj ?_⟩
    rw [bys_extract, ← h]
    have e : x.length + b.size = (x ++ bys b).length := by rw [List.length_append, bys_len]
    rw [e, List.take_left', List.drop_left']
    · rfl
    · rfl
  · rintro ⟨k, h1, h2⟩
    rw [← h2, bys_extract]
    refine ⟨(bys t).take k, (bys t).drop (k + b.size), ?_⟩
    have e : (bys t).take k = ((bys t).take (k + b.size)).take k := by rw [List.take_take, Nat.min_eq_left (by omega)]
    rw [e, List.take_append_drop, List.take_append_drop]
/-- no banned string occurs in a text -/
def AllowT (bl : List ByteArray) (t : ByteArray) : Prop := ∀ b ∈ bl, ¬ bys b <:+: bys t
set_option maxRecDepth 100000 in
set_option maxHeartbeats 2000000 in
theorem Allowed_any {s : Sch} {bv : Value} {t : ByteArray} {w : World} (hv : IsSs w bv s.bl) (ht : t.size ≤ 1000) (hb : ∀ b ∈ s.bl, b.size ≤ 1000) (hl : s.bl.length ≤ 1000) :
    Calls Try.prog 44 #[schV s bv, .string t] w (BoolP (AllowT s.bl t) w) := by
  obtain ⟨w1, hw1⟩ : ∃ w1, w1 = w.alloc (.cells #[.string s.al, .int .i64 s.len, bv, .bool s.ck] 24) := ⟨_, rfl⟩
  have hb1 : Below w.heap.size w w1 := by rw [hw1]; exact below_al _ _
  have H4 : Hid (B4 w.heap.size (.string s.al) (.int .i64 s.len) bv (.bool s.ck) w1) := by rw [hw1]; exact B4.new _ _ _ _ _ _
  have HV := Lib.hid (hv.below hb1)
  have HB1 := Lib.hid hb1
  have HW1 := Lib.hid hw1
  obtain ⟨bo, bc, rfl, -⟩ := hv
  obtain ⟨al, len, bl, ck⟩ := s
  unfold schV
  dsimp only at *
  clear hw1 hb1
  obtain ⟨m, hm⟩ : ∃ m, m = bl.length := ⟨_, rfl⟩
  rw [← hm] at HV HW1 H4 hl ⊢
  have HM := Lib.hid hm
  have HBB := Lib.hid hb
  clear hm hb
  have k0 := H4.out.c0; have k1 := H4.out.c1; have k2 := H4.out.c2; have k3 := H4.out.c3
  go_enter Try.func44, Try.ntmps44
  go_upto_region 1 with fail
  rw [← HW1.out]
  go_wp2_with fail
  go_loopw [5] (fun s5 wr => ∃ i : Nat, i ≤ m ∧ s5 = .int .i64 i ∧ Hid (w1 = wr) ∧ Hid (∀ j (h : j < bl.length), j < i → ¬ bys bl[j] <:+: bys t)) (fun s5 _ => m - (intOf s5).toNat)
  case atStart => exact ⟨0, Nat.zero_le _, rfl, rfl, fun j _ h => by omega⟩
  case round =>
    obtain ⟨i, hi, rfl, HWR, HA⟩ := hrel
    obtain rfl := HWR.out
    by_cases q : i < m
    · have q1 : (i : Int) < m := by omega
      have hw : IntKind.i64.wrap ((i : Int) + 1) = ((i + 1 : Nat) : Int) := by rw [IntWalk.i64_in _ (by omega)]; omega
      have hib : i < bl.length := by rw [← HM.out]; exact q
      obtain ⟨B, o, rfl, d0⟩ := HV.out.at' hib
      obtain ⟨b, hbb⟩ : ∃ b, b = bl[i] := ⟨_, rfl⟩
      rw [← hbb] at d0
      have hbs : b.size ≤ 1000 := by rw [hbb]; exact HBB.out _ (List.getElem_mem _)
      have HBE := Lib.hid hbb
      clear hbb
      go_wp2_with fail
      go_loopw [7] (fun s7 wr' => ∃ k : Nat, k ≤ t.size + 1 ∧ s7 = .int .i64 k ∧ Hid (w1 = wr') ∧ Hid (∀ j, j < k → ¬ AtB t b j)) (fun s7 _ => t.size + 1 - (intOf s7).toNat)
      case atStart => exact ⟨0, Nat.zero_le _, rfl, rfl, fun j h => by omega⟩
      case round =>
        obtain ⟨k, hk, rfl, HWR2, HA2⟩ := hrel
        obtain rfl := HWR2.out
        obtain ⟨kb, hkb⟩ : ∃ kb, kb = k + b.size := ⟨_, rfl⟩
        have hw2 : IntKind.i64.wrap ((k : Int) + (b.size : Int)) = (kb : Int) := by rw [IntWalk.i64_in _ (by omega)]; omega
        have hkk : k ≤ kb := by omega
        have HKB := Lib.hid hkb
        clear hkb
        have hw3 : IntKind.i64.wrap ((k : Int) + 1) = ((k + 1 : Nat) : Int) := by rw [IntWalk.i64_in _ (by omega)]; omega
        by_cases p : kb ≤ t.size
        · have p1 : (kb : Int) ≤ (t.size : Int) := by omega
          obtain ⟨X, hX⟩ : ∃ X, X = t.extract k kb := ⟨_, rfl⟩
          have hsl : ∀ W, (Instr.slice 9 (.string t) (some (.int .i64 (k : Int))) (some (.int .i64 (kb : Int))) none).run Try.prog W = .ok (.string X) W := fun W => by
            rw [run_slice_string_if _ _ _ _ _ _ _ Try.underlying9, if_pos ⟨by omega, by omega⟩, if_pos ⟨by omega, by omega⟩, hX]
            rfl
          rw [HKB.out] at hX p
          have HX := Lib.hid hX
          have HP := Lib.hid p
          clear hX
          by_cases c : X = b
          · subst c
            have HAT : Hid (AtB t X k) := ⟨HP.out, HX.out.symm⟩
            have HN : Hid (IffB false (AllowT bl t)) := IffB.no fun h => h bl[i] (List.getElem_mem _) ((infix_at _ _).2 ⟨k, by rw [← HBE.out]; exact HAT.out⟩)
            go_wp2_with fail
            go_ret
            exact ⟨false, rfl, HN, HB1⟩
          · have hc2 := btl_ne c
            have HN2 : Hid (∀ j, j < k + 1 → ¬ AtB t b j) := fun j hj => by
              rcases Nat.lt_succ_iff_lt_or_eq.1 hj with h | h
              · exact HA2.out j h
              · subst h
                intro h3
                exact c (HX.out.trans h3.2)
            go_wp2_with fail
            go_roundw
            case rel => exact ⟨k + 1, by have := HP.out; omega, by go_num, (by first | exact rfl | exact Lib.hid trivial), HN2⟩
            case measure => have := HP.out; simp [intOf]; omega
        · have p1 : ¬ (kb : Int) ≤ (t.size : Int) := by omega
          have HN : Hid (∀ j (h : j < bl.length), j < i + 1 → ¬ bys bl[j] <:+: bys t) := fun j hj hji => by
            rcases Nat.lt_succ_iff_lt_or_eq.1 hji with h | h
            · exact HA.out j hj h
            · subst h
              rw [← HBE.out, infix_at]
              rintro ⟨k', h1, h2⟩
              exact HA2.out k' (by have := HKB.out; omega) ⟨h1, h2⟩
          go_wp2_with fail
          go_roundw
          case rel => exact ⟨i + 1, q, by go_num, (by first | exact rfl | exact Lib.hid trivial), HN⟩
          case measure => simp [intOf]; omega
    · obtain rfl : i = m := by omega
      have q1 : ¬ (i : Int) < i := by omega
      have HN : Hid (IffB true (AllowT bl t)) := IffB.yes fun b hb => by
        obtain ⟨j, hj, rfl⟩ := List.mem_iff_getElem.1 hb
        exact HA.out j hj (by rw [HM.out]; exact hj)
      go_wp2_with fail
      go_ret
      exact ⟨true, rfl, HN, HB1⟩
end Go.Proofs.Ytgblfobomiiofaa
namespace Go.Proofs.Ytgblfobomiiofaa
open Go Go.ChangeShapes Go.WideShapes Go.ChangeAt Go.RowKit Go.Deep

theorem own : ownKnob Try.prog.godebug = none := by kernel_rfl
theorem laidOut' : laidOutB Try.prog = true := by kernel_rfl
theorem one_int : Try.prog.cellsOf 3 = 1 := by kernel_rfl
theorem one_bool : Try.prog.cellsOf 4 = 1 := by kernel_rfl
theorem one_str : Try.prog.cellsOf 9 = 1 := by kernel_rfl
theorem one_strs : Try.prog.cellsOf 22 = 1 := by kernel_rfl
theorem four_scheme : Try.prog.cellsOf 24 = 4 := by kernel_rfl
section
variable {H : Type} {enc : TypeId × Value → H} {W : World} {base : Nat} {sp : Nat → Bool} {held : Bool}
theorem fld_int {cs : List Value} {n i : Nat} {xs : List (DataW H × List MemPlace)} (hi : i < xs.length) (h : DataW.trod enc Try.prog W base sp held n 3 ((cs.drop i).take (Try.prog.cellsOf 3)) = xs[i]?) : ∃ k, cs[i]? = some (.int .i64 k) := by
  rw [one_int, List.getElem?_eq_getElem hi] at h
  obtain ⟨k, e, _⟩ := DataW.trod_int Try.underlying3 h
  refine ⟨k, ?_⟩
  have h1 : ((cs.drop i).take 1)[0]? = some (.int .i64 k) := by rw [e]; rfl
  simpa [List.getElem?_take, List.getElem?_drop] using h1
theorem fld_bool {cs : List Value} {n i : Nat} {xs : List (DataW H × List MemPlace)} (hi : i < xs.length) (h : DataW.trod enc Try.prog W base sp held n 4 ((cs.drop i).take (Try.prog.cellsOf 4)) = xs[i]?) : ∃ k, cs[i]? = some (.bool k) := by
  rw [one_bool, List.getElem?_eq_getElem hi] at h
  obtain ⟨k, e, _⟩ := DataW.trod_bool Try.underlying4 h
  refine ⟨k, ?_⟩
  have h1 : ((cs.drop i).take 1)[0]? = some (.bool k) := by rw [e]; rfl
  simpa [List.getElem?_take, List.getElem?_drop] using h1
theorem fld_str {cs : List Value} {n i : Nat} {xs : List (DataW H × List MemPlace)} (hi : i < xs.length) (h : DataW.trod enc Try.prog W base sp held n 9 ((cs.drop i).take (Try.prog.cellsOf 9)) = xs[i]?) : ∃ k, cs[i]? = some (.string k) := by
  rw [one_str, List.getElem?_eq_getElem hi] at h
  obtain ⟨k, e, _⟩ := DataW.trod_string Try.underlying9 h
  refine ⟨k, ?_⟩
  have h1 : ((cs.drop i).take 1)[0]? = some (.string k) := by rw [e]; rfl
  simpa [List.getElem?_take, List.getElem?_drop] using h1
/-- a list of strings -/
theorem strs_of {cs : List Value} {n : Nat} {x : DataW H × List MemPlace} (h : DataW.trod enc Try.prog W 0 sp held n 22 cs = some x) : ∃ v l, cs = [v] ∧ IsSs W v l ∧ NilOk v := by
  rcases open_slice1 Try.underlying22 one_str h with ⟨rfl, _⟩ | ⟨a, len, cap, m, k, V, D, Pl, rfl, _, hl, _, hm, _, hi⟩
  · exact ⟨.slice none 0 0, [], rfl, ⟨none, 0, rfl, fun h => absurd h (by simp)⟩, fun n c e => by injection e with _ _ e; exact e.symm⟩
  · have hlm : len ≤ m := by rw [hm]; split <;> omega
    have hex : ∀ i, i < len → ∃ b : ByteArray, W.cell? (a.add i) = some (.string b) := fun i hlt => by
      obtain ⟨hc, ht⟩ := hi i (by omega)
      obtain ⟨b, e, _⟩ := DataW.trod_string Try.underlying9 ht
      injection e with e
      exact ⟨b, by rw [hc, e]⟩
    obtain ⟨g, hg⟩ : ∃ g : Nat → ByteArray, ∀ i, i < len → W.cell? (a.add i) = some (.string (g i)) :=
      ⟨fun i => if h : i < len then (hex i h).choose else ⟨#[]⟩, fun i h => by simp only [dif_pos h]; exact (hex i h).choose_spec⟩
    refine ⟨.slice (some a) len cap, (List.range len).map g, rfl, ⟨some a, cap, by simp, fun hp => ?_⟩, fun n c e => by injection e with e; cases e⟩
    have hp : 0 < len := by simpa using hp
    obtain ⟨b, o, s⟩ := a
    have h00 := hg 0 hp
    obtain rfl : s = none := by
      cases s with
      | none => rfl
      | some _ =>
        exfalso
        unfold World.cell? Addr.add at h00
        simp only [if_true] at h00
        split at h00 <;> simp at h00
    refine ⟨b, o, rfl, ?_, fun j hj => ?_⟩
    · have h1 : W.cell? ⟨b, o, none⟩ = some (.string (g 0)) := by simpa [Addr.add] using h00
      exact World.block_lt_of_cell? _ _ h1
    · have hj : j < len := by simpa using hj
      have h1 := hg j hj
      rw [show (⟨b, o, none⟩ : Addr).add j = ⟨b, o + j, none⟩ from Addr.add_lit ..] at h1
      rw [h1]
      simp
set_option maxRecDepth 100000 in
/-- a scheme, by value -/
theorem scheme_of {v : Value} {d : DataW H} {p : List MemPlace} {r : Reach} {b : Nat} (hv : Value.okWide Try.prog W r b 24 v) (h : DataW.Trod enc Try.prog W 0 sp held 24 v d p) : ∃ (s : Sch) (bv : Value), v = schV s bv ∧ IsSs W bv s.bl ∧ NilOk bv := by
  obtain ⟨cs, rfl, _⟩ := okWide_struct Try.underlying24 hv
  obtain ⟨fuel, hf⟩ := h
  obtain ⟨xs, n, _, _, hl, hx, hg⟩ := DataW.trod_struct Try.underlying24 hf
  have hx : xs.length = 4 := hx
  obtain ⟨b0, e0⟩ := fld_str (i := 0) (by omega) (hg 0 _ rfl)
  obtain ⟨b1, e1⟩ := fld_int (i := 1) (by omega) (hg 1 _ rfl)
  obtain ⟨b3, e3⟩ := fld_bool (i := 3) (by omega) (hg 3 _ rfl)
  have h2 := hg 2 _ rfl
  have h2 : DataW.trod enc Try.prog W 0 sp held n 22 (((Value.agg cs).cells.toList.drop 2).take (Try.prog.cellsOf 22)) = xs[2]? := h2
  rw [one_strs, List.getElem?_eq_getElem (by omega)] at h2
  obtain ⟨bv, l, e2', hs, hn⟩ := strs_of h2
  rw [four_scheme] at hl
  obtain ⟨ls⟩ := cs
  simp only [Value.cells] at e0 e1 e3 e2' hl
  match ls, hl with
  | [c0, c1, c2, c3], _ =>
    simp at e0 e1 e3 e2'
    subst e0; subst e1; subst e2'; subst e3
    exact ⟨⟨b0, b1, l, b3⟩, c2, rfl, hs, hn⟩
end
end Go.Proofs.Ytgblfobomiiofaa
