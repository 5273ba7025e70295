/- Contracts and lemmas (several texts merged into one). -/
import Derived.Test.YtgblfobomiiofaaTSerK
import Derived.Test.YtgblfobomiiofaaTSerL
import Derived.Test.YtgblfobomiiofaaTSerM
namespace Go.Proofs.Ytgblfobomiiofaa
open Go Go.RowKit Go.Shelf Gw Go.Maps

theorem ser_same_iff {s : Sch} {t : ByteArray} (hW : WellF s) (hs : t.size = szN (nS s) s.ck ∧ OfA t s.al) : serB s.al s.ck ((wordN s.al t).take (nS s)) = t ↔ endsB s.al.size (nS s) s.ck (wordN s.al t) = true := by
  have hwl : (wordN s.al t).length = szN (nS s) s.ck := by rw [wordN_len]; exact hs.1
  have hle : nS s ≤ szN (nS s) s.ck := by unfold szN; split <;> omega
  constructor
  · intro h
    have h2 : wordN s.al (serB s.al s.ck ((wordN s.al t).take (nS s))) = serU s.al s.ck ((wordN s.al t).take (nS s)) := serB_word hW.1 s.ck (fun v hv => wordN_lt hs.2 v (List.mem_of_mem_take hv))
    rw [h] at h2
    have h3 := serU_ends s.al (nS s) s.ck (u := (wordN s.al t).take (nS s)) (by rw [List.length_take, hwl]; omega)
    rw [← h2] at h3
    exact h3
  · intro h
    refine bys_inj ?_
    rw [serB_signs, bys_signs, serU_back hwl h]
    exact signs_word hs.2
theorem idx_word {al t : ByteArray} (ho : OfA t al) {i : Nat} (hi : i < t.size) : Lib.indexByte (bys al) t[i] = ((((wordN al t)[i]'(by rw [wordN_len]; exact hi)) : Nat) : Int) := by
  have hg : (bys t)[i]'(by rw [bys_len]; exact hi) = t[i] := rfl
  rw [indexByte_idx (ho _ (by rw [← hg]; exact List.getElem_mem _))]
  simp only [wordN, List.getElem_map]
  rw [hg]
/-- what the loop of Number keeps -/
structure NmS (s : Sch) (b : List Nat) (i nn at_ : Nat) : Prop where
  be : bel (wordsS s) b = nn + bel (wD s (nS s - i) at_) (b.drop i)
  rn : (run (fD s) at_ (b.drop i)).isSome = true
  wy : wayD s (nS s - i) at_ ≤ totS s
theorem NmS.start {s : Sch} {b : List Nat} (hW : WellF s) (ha : AllowW (bansS s) b) : NmS s b 0 0 0 := by
  refine ⟨by rw [Nat.sub_zero, wD_words hW, List.drop_zero, Nat.zero_add], ?_, by rw [Nat.sub_zero, wayD_tot hW]; exact Nat.le_refl _⟩
  have h3 := run_autD (nodesD hW) b [] (allow_nil (bans_ne hW))
  rw [stOf_nilD (nodesD hW), List.nil_append] at h3
  unfold fD
  rw [List.drop_zero, h3, if_pos ha]
  rfl
theorem NmS.next {s : Sch} {b : List Nat} {i nn at_ : Nat} (h : NmS s b i nn at_) (hi : i < nS s) (hl : i < b.length) (hv : b[i] < s.al.size) : ∃ to_, fD s at_ b[i] = some to_ ∧ NmS s b (i + 1) (nn + sumV (trmD s (nS s - i - 1) at_) b[i]) to_ := by
  have hd : b.drop i = b[i] :: b.drop (i + 1) := List.drop_eq_getElem_cons hl
  have hr := h.rn
  rw [hd] at hr
  cases hf : fD s at_ b[i] with
  | none => simp [run, hf] at hr
  | some to_ =>
    have hr2 : (run (fD s) to_ (b.drop (i + 1))).isSome = true := by simpa [run, hf] using hr
    have e : nS s - i = nS s - i - 1 + 1 := by omega
    have hb := h.be
    rw [hd, e, wD_bel hv hf] at hb
    have hw := h.wy
    rw [e] at hw
    refine ⟨to_, rfl, by rw [hb, show nS s - (i + 1) = nS s - i - 1 by omega]; omega, hr2, ?_⟩
    rw [show nS s - (i + 1) = nS s - i - 1 by omega]
    exact Nat.le_trans (wayD_ge hv hf) hw
theorem NmS.le {s : Sch} {b : List Nat} {i nn at_ : Nat} (h : NmS s b i nn at_) : nn ≤ totS s := by
  have h1 := h.be
  have h2 : bel (wordsS s) b ≤ (wordsS s).length := List.countP_le_length
  rw [← totS_words] at h2
  omega
theorem NmS.done {s : Sch} {b : List Nat} {nn at_ : Nat} (h : NmS s b (nS s) nn at_) (hl : b.length = nS s) : nn = bel (wordsS s) b := by
  have h1 := h.be
  rw [Nat.sub_self, List.drop_eq_nil_of_le (by omega), bel_nil _ (fun u hu => by rw [wD_zero, List.mem_singleton] at hu; rw [hu]; rfl)] at h1
  omega
/-- what the document's Number answers -/
def RNumP (s : Sch) (t : ByteArray) (W : World) (e : Ending) (W' : World) : Prop :=
  Below W.heap.size W W' ∧ ((¬ (t.size = szN (nS s) s.ck ∧ OfA t s.al) ∧ e = .returned (.tuple #[.int .i64 0, .int .i64 4])) ∨
    ((t.size = szN (nS s) s.ck ∧ OfA t s.al) ∧ ¬ AllowW (bansS s) ((wordN s.al t).take (nS s)) ∧ e = .returned (.tuple #[.int .i64 0, .int .i64 21])) ∨
    ((t.size = szN (nS s) s.ck ∧ OfA t s.al) ∧ AllowW (bansS s) ((wordN s.al t).take (nS s)) ∧ endsB s.al.size (nS s) s.ck (wordN s.al t) = false ∧ e = .returned (.tuple #[.int .i64 0, .int .i64 22])) ∨
    ((t.size = szN (nS s) s.ck ∧ OfA t s.al) ∧ AllowW (bansS s) ((wordN s.al t).take (nS s)) ∧ endsB s.al.size (nS s) s.ck (wordN s.al t) = true ∧ e = .returned (.tuple #[.int .i64 ((bel (wordsS s) ((wordN s.al t).take (nS s)) : Nat) : Int), .int .i64 0])))
set_option maxRecDepth 100000 in
set_option maxHeartbeats 8000000 in
theorem RNumber_any {s : Sch} {bv vb : Value} {na ya : Option Addr} {nc yc : Nat} {t : ByteArray} {w : World} (hV : ValidS s) (hs : IsSs w bv s.bl) (hl : t.size ≤ 500) (hT : TabV s w vb na nc ya yc) : Calls Try.prog 32 #[schV s bv, .agg #[vb, .slice na (LD s).length nc, .slice ya (nS s + 1) yc], .string t] w (RNumP s t w) := by
  obtain ⟨w1, hw1⟩ : ∃ w1, w1 = (w.alloc (.cells #[.string s.al, .int .i64 s.len, bv, .bool s.ck] 24)).alloc (.cells #[vb, .slice na (LD s).length nc, .slice ya (nS s + 1) yc] 30) := ⟨_, rfl⟩
  have H1 : Hid (BxS w.heap.size s bv vb na nc ya yc w w1) := by rw [hw1]; exact BxS.new hT
  have HW1 := Lib.hid hw1
  have HVV := Lib.hid hV
  have hk0 := LD_pos hV.1
  have hk113 := LD_len hV.1
  obtain ⟨k, hk⟩ : ∃ k, k = (LD s).length := ⟨_, rfl⟩
  have hn1 : 1 ≤ nS s := by have := hV.1.2.1; unfold nS; omega
  have hn16 : nS s ≤ 16 := by have := hV.1.2.2.1; unfold nS; omega
  have hlen : s.len = (nS s : Int) := by have := hV.1.2.1; unfold nS; omega
  have hA2 : 2 ≤ s.al.size := hV.1.1.1
  have hA36 : s.al.size ≤ 36 := hV.1.1.2.1
  have hSYr := RSyntax_any (s := s) (bv := bv) (t := t) (w := w1) hV.1 hl
  have hALr : ∀ (V : World) (x : ByteArray), BxS w.heap.size s bv vb na nc ya yc w V → x.size ≤ 500 → OfA x s.al → Calls Try.prog 44 #[schV s bv, .string x] V fun e w' => e = .returned (.bool (decide (AllowW (bansS s) (wordN s.al x)))) ∧ Hid (Below V.heap.size V w') := fun V x hB hx ho => allowW_call hV.1 (hs.below hB.blw) hx ho
  have hSEr : ∀ (V : World) (x : ByteArray), x.size ≤ 500 → OfA x s.al → Calls Try.prog 43 #[schV s bv, .string x] V fun e w' => e = .returned (.string (serB s.al s.ck (wordN s.al x))) ∧ Hid (Below V.heap.size V w') := fun V x hx ho => by
    have h5 := RSerial_any (bv := bv) (w := V) hV.1 (wordN_lt ho) (by rw [wordN_len]; exact hx)
    rw [serB_id ho] at h5
    exact h5
  obtain ⟨n, hn⟩ : ∃ n, n = nS s := ⟨_, rfl⟩
  rw [← hn] at hn1 hn16 hlen
  rw [← hk] at hk0 hk113
  have hB0 := H1.out.b4
  have hR0 := H1.out.b3
  unfold schV at hSYr hALr hSEr ⊢
  rw [← hk, ← hn] at HW1 hR0 ⊢
  rw [hlen] at HW1 hB0 hSYr hALr hSEr ⊢
  have HK := Lib.hid hk
  have HN := Lib.hid hn
  have HLEN := Lib.hid hlen
  obtain ⟨al, hal⟩ : ∃ al, al = s.al := ⟨_, rfl⟩
  obtain ⟨ck, hck⟩ : ∃ ck, ck = s.ck := ⟨_, rfl⟩
  have HFX : Hid (∀ V, BxS w.heap.size s bv vb na nc ya yc w V → B4 w.heap.size (.string al) (.int .i64 (n : Int)) bv (.bool ck) V ∧ BxR (w.heap.size + 1) vb (.slice na k nc) (.slice ya (n + 1) yc) V) := fun V h => by
    rw [hal, hck, ← hlen, hk, hn]
    exact ⟨h.b4, h.b3⟩
  have k0 := hB0.c0; have k1 := hB0.c1; have k2 := hB0.c2; have k3 := hB0.c3
  rw [← hal] at k0 hA2 hA36
  rw [← hck] at k3
  rw [← hal, ← hck] at HW1 hSYr
  rw [← hal, ← hck]
  have HAL0 := Lib.hid hal; have HCK := Lib.hid hck
  have hSYr2 := Lib.hid hSYr; have HALR := Lib.hid hALr; have HSER := Lib.hid hSEr
  by_cases cs : t.size = szN (nS s) s.ck ∧ OfA t s.al
  case neg =>
    have HSY : Hid (Calls Try.prog 38 #[.agg #[.string al, .int .i64 (n : Int), bv, .bool ck], .string t] w1 fun e w' => e = .returned (.bool false) ∧ Hid (Below w1.heap.size w1 w')) := by
      refine hSYr2.out.mono ?_
      rintro e w' ⟨r, rfl, hr, hb⟩
      cases r with
      | true => exact absurd (by rw [← HAL0.out, ← HCK.out]; exact hr.out.1 rfl) cs
      | false => exact ⟨rfl, hb⟩
    have HNO := Lib.hid cs
    clear cs hw1 hV hT hs hk hn hlen hB0 hR0 hal hck hSYr hALr hSEr hSYr2 HALR HSER
    go_enter Try.func32, Try.ntmps32
    go_upto_region 1 with fail
    rw [← HW1.out]
    go_wp2_with (first
      | (go_at_call 38; (with_reducible refine HSY.out.mono ?_); rintro e w2 ⟨rfl, hb2⟩; have H1a := Lib.hid (H1.out.below hb2.out))
      | fail)
    refine bodyPost_ret (v := .tuple #[.int .i64 0, .int .i64 4]) (by simp [results, Try.results32, go_sem]) rfl ?_
    exact ⟨H1a.out.blw, .inl ⟨HNO.out, rfl⟩⟩
  have HCS := Lib.hid cs
  have HSY : Hid (Calls Try.prog 38 #[.agg #[.string al, .int .i64 (n : Int), bv, .bool ck], .string t] w1 fun e w' => e = .returned (.bool true) ∧ Hid (Below w1.heap.size w1 w')) := by
    refine hSYr2.out.mono ?_
    rintro e w' ⟨r, rfl, hr, hb⟩
    cases r with
    | false => exact absurd (hr.out.2 (by rw [HAL0.out, HCK.out]; exact cs)) (by decide)
    | true => exact ⟨rfl, hb⟩
  have hnt : n ≤ t.size := by rw [cs.1, hn]; unfold szN; split <;> omega
  obtain ⟨bd, hbd⟩ : ∃ bd, bd = t.extract 0 n := ⟨_, rfl⟩
  have hbs : bd.size = n := by rw [hbd, ByteArray.size_extract]; omega
  have hbo : OfA bd s.al := by rw [hbd]; exact of_extract cs.2 0 n
  obtain ⟨b, hb⟩ : ∃ b, b = (wordN s.al t).take (nS s) := ⟨_, rfl⟩
  have hbw : wordN s.al bd = b := by rw [hbd, word_take, hb, hn]
  have hs1 : ∀ W, (Instr.slice 9 (.string t) none (some (.int .i64 (n : Int))) none).run Try.prog W = .ok (.string bd) W := fun W => by rw [slice_to hnt W, hbd]
  obtain ⟨S, hS⟩ : ∃ S, S = serB s.al s.ck b := ⟨_, rfl⟩
  have HSE : Hid (∀ V, Calls Try.prog 43 #[.agg #[.string al, .int .i64 (n : Int), bv, .bool ck], .string bd] V fun e w' => e = .returned (.string S) ∧ Hid (Below V.heap.size V w')) := fun V => by
    have h5 := HSER.out V bd (by omega) hbo
    rw [hbw, ← hS, ← HAL0.out, ← HCK.out] at h5
    exact h5
  have hsi := ser_same_iff HVV.out.1 cs
  rw [← hb, ← hS] at hsi
  have HB := Lib.hid hb
  have HBW := Lib.hid hbw
  have HBO := Lib.hid hbo
  by_cases ca : AllowW (bansS s) b
  case neg =>
    have HAL : Hid (∀ V, BxS w.heap.size s bv vb na nc ya yc w V → Calls Try.prog 44 #[.agg #[.string al, .int .i64 (n : Int), bv, .bool ck], .string bd] V fun e w' => e = .returned (.bool false) ∧ Hid (Below V.heap.size V w')) := fun V hB => by
      have h5 := HALR.out V bd hB (by omega) hbo
      rw [hbw, decide_eq_false ca, ← HAL0.out, ← HCK.out] at h5
      exact h5
    have HCA := Lib.hid ca
    clear ca cs hw1 hV hT hs hk hn hlen hB0 hR0 hal hck hSYr hALr hSEr hSYr2 HALR HSER hbd hbo hb hbw hS hsi
    go_enter Try.func32, Try.ntmps32
    go_upto_region 1 with fail
    rw [← HW1.out]
    go_wp2_with (first
      | (go_at_call 38; (with_reducible refine HSY.out.mono ?_); rintro e w2 ⟨rfl, hb2⟩; have H1a := Lib.hid (H1.out.below hb2.out); have kka := HFX.out _ H1a.out; have ak0 := kka.1.c0; have ak1 := kka.1.c1; have ak2 := kka.1.c2; have ak3 := kka.1.c3; have HALa := Lib.hid (HAL.out w2 H1a.out))
      | (go_at_call 44; (with_reducible refine HALa.out.mono ?_); rintro e w3 ⟨rfl, hb3⟩; have H1b := Lib.hid (H1a.out.below hb3.out); have kkb := HFX.out _ H1b.out; have bk0 := kkb.1.c0; have bk1 := kkb.1.c1; have bk2 := kkb.1.c2; have bk3 := kkb.1.c3)
      | fail)
    refine bodyPost_ret (v := .tuple #[.int .i64 0, .int .i64 21]) (by simp [results, Try.results32, go_sem]) rfl ?_
    exact ⟨H1b.out.blw, .inr (.inl ⟨HCS.out, by rw [← HB.out]; exact HCA.out, rfl⟩)⟩
  have HAL : Hid (∀ V, BxS w.heap.size s bv vb na nc ya yc w V → Calls Try.prog 44 #[.agg #[.string al, .int .i64 (n : Int), bv, .bool ck], .string bd] V fun e w' => e = .returned (.bool true) ∧ Hid (Below V.heap.size V w')) := fun V hB => by
    have h5 := HALR.out V bd hB (by omega) hbo
    rw [hbw, decide_eq_true ca, ← HAL0.out, ← HCK.out] at h5
    exact h5
  have HCA := Lib.hid ca
  by_cases ce : S = t
  case neg =>
    have HE : Hid (endsB s.al.size (nS s) s.ck (wordN s.al t) = false) := by
      show _ = _
      cases hh : endsB s.al.size (nS s) s.ck (wordN s.al t) with
      | false => rfl
      | true => exact absurd (hsi.2 hh) ce
    have q1 : (S.toList == t.toList) = false := btl_ne ce
    clear ce ca cs hw1 hV hT hs hk hn hlen hB0 hR0 hal hck hSYr hALr hSEr hSYr2 HALR HSER hbd hbo hb hbw hS hsi
    go_enter Try.func32, Try.ntmps32
    go_upto_region 1 with fail
    rw [← HW1.out]
    go_wp2_with (first
      | (go_at_call 38; (with_reducible refine HSY.out.mono ?_); rintro e w2 ⟨rfl, hb2⟩; have H1a := Lib.hid (H1.out.below hb2.out); have kka := HFX.out _ H1a.out; have ak0 := kka.1.c0; have ak1 := kka.1.c1; have ak2 := kka.1.c2; have ak3 := kka.1.c3; have HALa := Lib.hid (HAL.out w2 H1a.out))
      | (go_at_call 44; (with_reducible refine HALa.out.mono ?_); rintro e w3 ⟨rfl, hb3⟩; have H1b := Lib.hid (H1a.out.below hb3.out); have kkb := HFX.out _ H1b.out; have bk0 := kkb.1.c0; have bk1 := kkb.1.c1; have bk2 := kkb.1.c2; have bk3 := kkb.1.c3; have HSEb := Lib.hid (HSE.out w3))
      | (go_at_call 43; (with_reducible refine HSEb.out.mono ?_); rintro e w4 ⟨rfl, hb4⟩; have H1c := Lib.hid (H1b.out.below hb4.out); have kkc := HFX.out _ H1c.out; have ck0 := kkc.1.c0; have ck1 := kkc.1.c1; have ck2 := kkc.1.c2; have ck3 := kkc.1.c3)
      | fail)
    refine bodyPost_ret (v := .tuple #[.int .i64 0, .int .i64 22]) (by simp [results, Try.results32, go_sem]) rfl ?_
    exact ⟨H1c.out.blw, .inr (.inr (.inl ⟨HCS.out, by rw [← HB.out]; exact HCA.out, HE.out, rfl⟩))⟩
  have HE : Hid (endsB s.al.size (nS s) s.ck (wordN s.al t) = true) := hsi.1 ce
  have HN0 : Hid (NmS s b 0 0 0) := NmS.start HVV.out.1 ca
  have HBL : Hid (b.length = nS s) := by show _ = _; rw [hb, List.length_take, wordN_len, ← hn]; omega
  have HBT : Hid (∀ v ∈ b, v < s.al.size) := fun v hv => by rw [hb] at hv; exact wordN_lt cs.2 v (List.mem_of_mem_take hv)
  have HTOT : Hid (totS s ≤ 1099511627776) := HVV.out.2.2
  have q1 : (S.toList == t.toList) = true := by rw [ce]; simp
  have HBS := Lib.hid hbs
  clear ce ca cs hw1 hV hT hs hk hn hlen hB0 hR0 hal hck hSYr hALr hSEr hSYr2 HALR HSER hbd hbo hb hbw hS hsi
  go_enter Try.func32, Try.ntmps32
  go_upto_region 1 with fail
  rw [← HW1.out]
  go_wp2_with (first
    | (go_at_call 38; (with_reducible refine HSY.out.mono ?_); rintro e w2 ⟨rfl, hb2⟩; have H1a := Lib.hid (H1.out.below hb2.out); have kka := HFX.out _ H1a.out; have ak0 := kka.1.c0; have ak1 := kka.1.c1; have ak2 := kka.1.c2; have ak3 := kka.1.c3; have HALa := Lib.hid (HAL.out w2 H1a.out))
    | (go_at_call 44; (with_reducible refine HALa.out.mono ?_); rintro e w3 ⟨rfl, hb3⟩; have H1b := Lib.hid (H1a.out.below hb3.out); have kkb := HFX.out _ H1b.out; have bk0 := kkb.1.c0; have bk1 := kkb.1.c1; have bk2 := kkb.1.c2; have bk3 := kkb.1.c3; have HSEb := Lib.hid (HSE.out w3))
    | (go_at_call 43; (with_reducible refine HSEb.out.mono ?_); rintro e w4 ⟨rfl, hb4⟩; have H1c := Lib.hid (H1b.out.below hb4.out); have kkc := HFX.out _ H1c.out; have ck0 := kkc.1.c0; have ck1 := kkc.1.c1; have ck2 := kkc.1.c2; have ck3 := kkc.1.c3)
    | fail)
  clear k0 k1 k2 k3 ak0 ak1 ak2 ak3 bk0 bk1 bk2 bk3 ck0 ck1 ck2 ck3 q1 kka kkb kkc
  go_loopw [9, 10, 11] (fun s9 s10 s11 wr => ∃ (nn at_ i : Nat), i ≤ n ∧ nn ≤ 2 ^ 40 ∧ at_ < k ∧ s9 = .int .i64 nn ∧ s10 = .int .i64 at_ ∧ s11 = .int .i64 i ∧ Hid (NmS s b i nn at_) ∧ Hid (BxS w.heap.size s bv vb na nc ya yc w wr)) (fun _ _ s11 _ => n - (intOf s11).toNat)
  case atStart => exact ⟨0, 0, 0, Nat.zero_le _, by decide, hk0, rfl, rfl, rfl, HN0, H1c⟩
  case round =>
    obtain ⟨nn, at_, i, hi, hnn, hat, rfl, rfl, rfl, HNM, HBr⟩ := hrel
    have hF := HFX.out _ HBr.out
    have k0 := hF.1.c0; have k1 := hF.1.c1
    clear hF
    by_cases q : i < n
    · have q1 : (i : Int) < (n : Int) := by omega
      have hib : i < bd.size := by rw [HBS.out]; exact q
      have hix := fun W => index_str hib W
      have hlb : i < b.length := by rw [HBL.out, ← HN.out]; exact q
      obtain ⟨v, hv⟩ : ∃ v, v = b[i] := ⟨_, rfl⟩
      have hvA : v < s.al.size := by rw [hv]; exact HBT.out _ (List.getElem_mem _)
      have hidx : Lib.indexByte (bys al) bd[i] = (v : Int) := by
        rw [HAL0.out, idx_word HBO.out hib]
        simp only [HBW.out]
        rw [hv]
      have HV1' := Lib.hid (fun q => Value_any (al := al) (bd[i]) (by omega) (wr.drewN q))
      rw [hidx] at HV1'
      have HV1d : Hid (∀ q, Calls Try.prog 41 #[.string al, .int .u8 ((bd[i]).toNat : Int)] (wr.drewN q) fun e w' => e = .returned (.int .i64 (v : Int)) ∧ ∃ k, w' = wr.drewN k) := fun q => (HV1'.out q).mono fun e w' ⟨h1, h2⟩ => ⟨h1, q, h2.symm⟩
      obtain ⟨to_, hto, hNx⟩ := HNM.out.next (by rw [← HN.out]; exact q) hlb (by rw [← hv]; exact hvA)
      rw [← hv] at hto hNx
      have HTO := Lib.hid hto; have HNX := Lib.hid hNx
      have HVA := Lib.hid hvA
      obtain ⟨d, hd⟩ : ∃ d, d = n - i - 1 := ⟨_, rfl⟩
      have HD : Hid (d = nS s - i - 1) := by show d = _; rw [hd, HN.out]
      have hvA36 : v ≤ 36 := by have := HAL0.out; rw [← this] at hvA; omega
      obtain ⟨i1, hi1⟩ : ∃ i1, i1 = i + 1 := ⟨_, rfl⟩
      have HI1 := Lib.hid hi1
      have hwi : IntKind.i64.wrap ((i : Int) + 1) = (i1 : Int) := by rw [IntWalk.i64_in _ (by omega)]; omega
      obtain ⟨n1, hn1'⟩ : ∃ n1, n1 = n - 1 := ⟨_, rfl⟩
      have hwn : IntKind.i64.wrap ((n : Int) - 1) = (n1 : Int) := by rw [IntWalk.i64_in _ (by omega)]; omega
      have hwd : IntKind.i64.wrap ((n1 : Int) - (i : Int)) = (d : Int) := by rw [IntWalk.i64_in _ (by omega)]; omega
      have hdn : d < n + 1 := by omega
      have hdn1 : (d : Int) < ((n + 1 : Nat) : Int) := by omega
      have hi1n : i1 ≤ n := by omega
      have hmm : n - i1 < n - i := by omega
      generalize ((bd[i]).toNat : Int) = vx at *
      clear hidx HV1' hto hNx hv hlb hvA hd hi1 hn1'
      go_upto_region 12 with fail
      go_quiet (first | (go_at_call 41; with_reducible exact HV1d.out _) | fail)
      have HBq := Lib.hid (HBr.out.below (below_dr wr nq))
      clear hix HV1d k0 k1
      generalize World.drewN wr nq = wq at *
      go_wp2_with fail
      go_loopw [9, 13] (fun s9 s13 wr => ∃ (c m : Nat), c ≤ v ∧ m ≤ 2 ^ 41 ∧ s9 = .int .i64 m ∧ s13 = .int .i64 c ∧ Hid (m = nn + sumV (trmD s d at_) c) ∧ Hid (BxS w.heap.size s bv vb na nc ya yc w wr)) (fun _ s13 _ => v - (intOf s13).toNat)
      case atStart => exact ⟨0, nn, Nat.zero_le _, by omega, rfl, rfl, by show _ = _; simp [sumV], HBq⟩
      case round =>
        obtain ⟨c, m, hc, hm, rfl, rfl, HC, HBc⟩ := hrel
        have hF := HFX.out _ HBc.out
        have k0 := hF.1.c0; have k1 := hF.1.c1
        have j1 := hF.2.c1; have j2 := hF.2.c2
        clear hF
        by_cases r : c < v
        · have r1 : (c : Int) < (v : Int) := by omega
          obtain ⟨cc, hcc⟩ : ∃ cc, cc = c + 1 := ⟨_, rfl⟩
          have hwc : IntKind.i64.wrap ((c : Int) + 1) = (cc : Int) := by rw [IntWalk.i64_in _ (by omega)]; omega
          have hvA := HVA.out
          have hcs : c < s.al.size := by omega
          have hatl : at_ < (LD s).length := by rw [← HK.out]; exact hat
          obtain ⟨B, o, ra, rc, hna, d1, B', o', rfl, d2⟩ := HBc.out.tv.nx hatl hcs
          obtain ⟨A, hA⟩ : ∃ A, A = s.al.size := ⟨_, rfl⟩
          rw [← hA] at d1 hcs
          have hcA1 : (c : Int) < (A : Int) := by omega
          have hat1 : (at_ : Int) < (k : Int) := by omega
          have hcm : v - cc < v - c := by omega
          have hcl : cc ≤ v := by omega
          have hSU : sumV (trmD s d at_) cc = sumV (trmD s d at_) c + trmD s d at_ c := by rw [hcc]; rfl
          cases hf : fD s at_ c with
          | none =>
            have hz : nxD s at_ c = -1 := by unfold nxD; rw [hf]
            rw [hz] at d2
            have HC2 : Hid (m = nn + sumV (trmD s d at_) cc) := by
              have e5 : trmD s d at_ c = 0 := by unfold trmD; rw [hf]
              rw [e5, Nat.add_zero] at hSU
              show m = _
              rw [hSU]; exact HC.out
            have hneg : ¬ (-1 : Int) ≥ 0 := by omega
            subst hna
            clear hf hz hSU hcc hcs hatl hA hvA
            go_wp2_with fail
            go_roundw
            case rel => exact ⟨cc, m, hcl, hm, rfl, by go_num, HC2, HBc⟩
            case measure => simp [intOf]; omega
          | some tc =>
            have hz : nxD s at_ c = (tc : Int) := by unfold nxD; rw [hf]
            rw [hz] at d2
            have htl : tc < (LD s).length := fD_lt HVV.out.1 hf
            obtain ⟨By, oy, ry, ryc, hya, d3, By', oy', rfl, d4⟩ := HBc.out.tv.wy (n := d) (i := tc) (by rw [← HN.out]; exact hdn) htl
            rw [← HK.out] at d3
            have htk1 : (tc : Int) < (k : Int) := by rw [HK.out]; omega
            obtain ⟨y, hy⟩ : ∃ y, y = capD (wayD s d tc) := ⟨_, rfl⟩
            rw [← hy] at d4
            have e5 : trmD s d at_ c = wayD s d tc := by unfold trmD; rw [hf]
            have hwy : wayD s (d + 1) at_ ≤ 1099511627776 := by
              have h1 := HNM.out.wy
              rw [show nS s - i = d + 1 by rw [HD.out, ← HN.out]; omega] at h1
              exact Nat.le_trans h1 HTOT.out
            have hyw : y = wayD s d tc := by
              have h2 : wayD s d tc ≤ wayD s (d + 1) at_ := wayD_ge (by rw [← hA]; exact hcs) hf
              rw [hy]; unfold capD tooM; omega
            have hsum : sumV (trmD s d at_) cc ≤ wayD s (d + 1) at_ := by
              rw [wayD_succ]; exact sumV_mono _ (by rw [← hA]; omega)
            rw [e5, ← hyw] at hSU
            obtain ⟨m2, hm2⟩ : ∃ m2, m2 = m + y := ⟨_, rfl⟩
            have hHC := HC.out
            have HC2 : Hid (m2 = nn + sumV (trmD s d at_) cc) := by show m2 = _; rw [hSU, hm2, hHC]; omega
            have hm2l : m2 ≤ 2 ^ 41 := by have := HC2.out; omega
            have hw3 : IntKind.i64.wrap ((m : Int) + (y : Int)) = (m2 : Int) := by rw [IntWalk.i64_in _ (by omega)]; omega
            have hneg : (tc : Int) ≥ 0 := by omega
            subst hna; subst hya
            clear hf hz hSU hcc hcs hatl htl hy e5 hyw hsum hm2 hHC hA hvA hwy
            go_upto_region 17 with fail
            go_quiet (fail)
            have HBd := Lib.hid (HBc.out.below (below_dr wr nq))
            clear k0 k1 j1 j2 d1 d2 d3 d4
            generalize World.drewN wr nq = wq2 at *
            go_wp2_with fail
            go_roundw
            case rel => exact ⟨cc, m2, hcl, hm2l, by go_num, by go_num, HC2, HBd⟩
            case measure => simp [intOf]; omega
        · obtain rfl : c = v := by omega
          have r1 : ¬ (c : Int) < (c : Int) := by omega
          have hvA := HVA.out
          have hatl : at_ < (LD s).length := by rw [← HK.out]; exact hat
          obtain ⟨B, o, ra, rc, hna, d1, B', o', rfl, d2⟩ := HBc.out.tv.nx hatl hvA
          obtain ⟨A, hA⟩ : ∃ A, A = s.al.size := ⟨_, rfl⟩
          rw [← hA] at d1 hvA
          have hcA1 : (c : Int) < (A : Int) := by omega
          have hat1 : (at_ : Int) < (k : Int) := by omega
          have hz : nxD s at_ c = (to_ : Int) := by unfold nxD; rw [HTO.out]
          rw [hz] at d2
          have htk : to_ < k := by rw [HK.out]; exact fD_lt HVV.out.1 HTO.out
          have HNM2 : Hid (NmS s b i1 m to_) := by
            have h6 := HNX.out
            rw [← HD.out, ← HC.out, ← HI1.out] at h6
            exact h6
          have hm40 : m ≤ 2 ^ 40 := by have h1 := HNM2.out.le; have := HTOT.out; omega
          subst hna
          clear hz hA hvA hatl
          go_wp2_with fail
          go_roundw
          case rel => exact ⟨m, to_, i1, hi1n, hm40, htk, rfl, rfl, by go_num, HNM2, HBc⟩
          case measure => simp [intOf]; omega
    · obtain rfl : i = n := by omega
      have q1 : ¬ (i : Int) < (i : Int) := by omega
      have hfin : nn = bel (wordsS s) b := by
        have h5 := HNM.out
        rw [HN.out] at h5
        exact h5.done HBL.out
      have HFI := Lib.hid hfin
      clear hfin
      go_wp2_with fail
      refine bodyPost_ret (v := .tuple #[.int .i64 (nn : Int), .int .i64 0]) (by simp [results, Try.results32, go_sem]) rfl ?_
      exact ⟨HBr.out.blw, .inr (.inr (.inr ⟨HCS.out, by rw [← HB.out]; exact HCA.out, HE.out, by rw [HFI.out, HB.out]⟩))⟩
end Go.Proofs.Ytgblfobomiiofaa
namespace Go.Proofs.Ytgblfobomiiofaa
open Go Go.RowKit Go.Shelf Gw Go.Maps

open Classical in
/-- what Number answers -/
noncomputable def numV (s : Sch) (t : ByteArray) : Int × Int :=
  if t.size = szN (nS s) s.ck ∧ OfA t s.al then
    if AllowW (bansS s) ((wordN s.al t).take (nS s)) then
      if endsB s.al.size (nS s) s.ck (wordN s.al t) = true then (((bel (wordsS s) ((wordN s.al t).take (nS s)) : Nat) : Int), 0) else (0, 22)
    else (0, 21)
  else (0, 4)
open Classical in
/-- what Complete answers -/
noncomputable def compV (s : Sch) (t : ByteArray) : ByteArray × Int :=
  if t.size = nS s ∧ OfA t s.al then
    if AllowW (bansS s) (wordN s.al t) then (serB s.al s.ck (wordN s.al t), 0) else (⟨#[]⟩, 21)
  else (⟨#[]⟩, 4)
theorem NumP.v {s : Sch} {t : ByteArray} {W W' : World} {e : Ending} (hV : ValidS s) (h : NumP s t W e W') : e = .returned (.tuple #[.int .i64 (numV s t).1, .int .i64 (numV s t).2]) ∧ Hid (Below W.heap.size W W') := by
  obtain ⟨hb, h | h | h | h | h | h⟩ := h
  · exact absurd hV.1 h.1
  · exact absurd hV.2 h.2.1
  · obtain ⟨_, c, rfl⟩ := h; exact ⟨by unfold numV; rw [if_neg c], hb⟩
  · obtain ⟨_, c, d, rfl⟩ := h; exact ⟨by unfold numV; rw [if_pos c, if_neg d], hb⟩
  · obtain ⟨_, c, d, e, rfl⟩ := h; exact ⟨by unfold numV; rw [if_pos c, if_pos d, if_neg (by rw [e]; decide)], hb⟩
  · obtain ⟨_, c, d, e, rfl⟩ := h; exact ⟨by unfold numV; rw [if_pos c, if_pos d, if_pos e], hb⟩
theorem RNumP.v {s : Sch} {t : ByteArray} {W W' : World} {e : Ending} (h : RNumP s t W e W') : e = .returned (.tuple #[.int .i64 (numV s t).1, .int .i64 (numV s t).2]) ∧ Hid (Below W.heap.size W W') := by
  obtain ⟨hb, h | h | h | h⟩ := h
  · obtain ⟨c, rfl⟩ := h; exact ⟨by unfold numV; rw [if_neg c], hb⟩
  · obtain ⟨c, d, rfl⟩ := h; exact ⟨by unfold numV; rw [if_pos c, if_neg d], hb⟩
  · obtain ⟨c, d, e, rfl⟩ := h; exact ⟨by unfold numV; rw [if_pos c, if_pos d, if_neg (by rw [e]; decide)], hb⟩
  · obtain ⟨c, d, e, rfl⟩ := h; exact ⟨by unfold numV; rw [if_pos c, if_pos d, if_pos e], hb⟩
theorem CompP.v {s : Sch} {t : ByteArray} {W W' : World} {e : Ending} (hV : ValidS s) (h : CompP s t W e W') : e = .returned (.tuple #[.string (compV s t).1, .int .i64 (compV s t).2]) ∧ Hid (Below W.heap.size W W') := by
  obtain ⟨hb, h | h | h | h | h⟩ := h
  · exact absurd hV.1 h.1
  · exact absurd hV.2 h.2.1
  · obtain ⟨_, c, rfl⟩ := h; exact ⟨by unfold compV; rw [if_neg c], hb⟩
  · obtain ⟨_, c, d, rfl⟩ := h; exact ⟨by unfold compV; rw [if_pos c, if_neg d], hb⟩
  · obtain ⟨_, c, d, rfl⟩ := h; exact ⟨by unfold compV; rw [if_pos c, if_pos d], hb⟩
theorem RCompP.v {s : Sch} {t : ByteArray} {W W' : World} {e : Ending} (h : RCompP s t W e W') : e = .returned (.tuple #[.string (compV s t).1, .int .i64 (compV s t).2]) ∧ Hid (Below W.heap.size W W') := by
  obtain ⟨hb, h | h | h⟩ := h
  · obtain ⟨c, rfl⟩ := h; exact ⟨by unfold compV; rw [if_neg c], hb⟩
  · obtain ⟨c, d, rfl⟩ := h; exact ⟨by unfold compV; rw [if_pos c, if_neg d], hb⟩
  · obtain ⟨c, d, rfl⟩ := h; exact ⟨by unfold compV; rw [if_pos c, if_pos d], hb⟩
theorem RNumber_v {s : Sch} {bv vb : Value} {na ya : Option Addr} {nc yc k n1 : Nat} {t : ByteArray} {w : World} (hV : ValidS s) (hs : IsSs w bv s.bl) (hl : t.size ≤ 500) (hk : k = (LD s).length ∧ n1 = nS s + 1) (hT : TabV s w vb na nc ya yc) : Calls Try.prog 32 #[schV s bv, .agg #[vb, .slice na k nc, .slice ya n1 yc], .string t] w fun e w' => e = .returned (.tuple #[.int .i64 (numV s t).1, .int .i64 (numV s t).2]) ∧ Hid (Below w.heap.size w w') := by
  rw [hk.1, hk.2]; exact (RNumber_any hV hs hl hT).mono fun e w' h => h.v
set_option maxRecDepth 100000 in
set_option maxHeartbeats 4000000 in
theorem serialNumbers_law {s : Sch} {bv : Value} {t : ByteArray} {w : World} (hv : IsSs w bv s.bl) (_hnil : NilOk bv) :
    Calls Try.prog 5 #[schV s bv, .string t] w fun e w' => e = .returned (.bool true) ∧ Hid (Below w.heap.size w w') := by
  have HAW := Lib.hid serawake_any
  obtain ⟨w1, hw1⟩ : ∃ w1, w1 = w.alloc (.cells #[.string s.al, .int .i64 s.len, bv, .bool s.ck] 24) := ⟨_, rfl⟩
  have hb1 : Below w.heap.size w w1 := by rw [hw1]; exact below_al _ _
  have H41 : Hid (B4 w.heap.size (.string s.al) (.int .i64 s.len) bv (.bool s.ck) w1) := by rw [hw1]; exact B4.new _ _ _ _ _ _
  have HFW := few_any (s := s) (hv.below hb1)
  have HV1 := Lib.hid (hv.below hb1)
  have HB1 := Lib.hid hb1
  have HW1 := Lib.hid hw1
  obtain ⟨fb, hfb⟩ : ∃ fb, fb = fewB s := ⟨_, rfl⟩
  unfold FewP at HFW
  rw [← hfb] at HFW
  have HeS : Hid (∀ v, schV s v = .agg #[.string s.al, .int .i64 s.len, v, .bool s.ck]) := fun v => rfl
  unfold schV at HFW ⊢
  obtain ⟨bo, bc, hbv, -⟩ := hv
  obtain ⟨bm, hbm⟩ : ∃ bm, bm = s.bl.length := ⟨_, rfl⟩
  rw [← hbm] at hbv
  subst hbv
  have HFW := Lib.hid HFW
  obtain ⟨al, hal⟩ : ∃ al, al = s.al := ⟨_, rfl⟩
  obtain ⟨len, hlen⟩ : ∃ len, len = s.len := ⟨_, rfl⟩
  obtain ⟨ck, hck⟩ : ∃ ck, ck = s.ck := ⟨_, rfl⟩
  rw [← hal, ← hlen, ← hck] at H41 HW1 HFW HeS ⊢
  have HAL := Lib.hid hal
  have HLEN := Lib.hid hlen
  have HCK := Lib.hid hck
  clear hw1 hb1 hfb hbm hal hlen hck
  have k0 := H41.out.c0; have k1 := H41.out.c1; have k2 := H41.out.c2; have k3 := H41.out.c3
  go_enter Try.func5, Try.ntmps5
  go_upto_region 1 with fail
  rw [← HW1.out]
  cases fb with
  | false =>
    go_wp2_with (first
      | (go_at_call 16; (with_reducible refine HFW.out.mono ?_); rintro e w2 ⟨rfl, HBf⟩; have H42 := Lib.hid (H41.out.below HBf.out); have HV2 := Lib.hid (HV1.out.below HBf.out); have HB2 := Lib.hid (HB1.out.trans (HBf.out.mono HB1.out.size)); have a20 := H42.out.c0; have a21 := H42.out.c1; have a22 := H42.out.c2; have a23 := H42.out.c3)
      | fail)
    refine (HAW.out _).mono ?_
    rintro e wz ⟨rfl, HBz⟩
    go_wp2_with fail
    go_ret
    exact ⟨rfl, (HB2.out).trans (HBz.out.mono (HB2.out).size)⟩
  | true =>
  by_cases hbig : t.size > 100
  case pos =>
    have hbig1 : (t.size : Int) > 100 := by omega
    go_wp2_with (first
      | (go_at_call 16; (with_reducible refine HFW.out.mono ?_); rintro e w2 ⟨rfl, HBf⟩; have H42 := Lib.hid (H41.out.below HBf.out); have HV2 := Lib.hid (HV1.out.below HBf.out); have HB2 := Lib.hid (HB1.out.trans (HBf.out.mono HB1.out.size)); have a20 := H42.out.c0; have a21 := H42.out.c1; have a22 := H42.out.c2; have a23 := H42.out.c3)
      | fail)
    refine (HAW.out _).mono ?_
    rintro e wz ⟨rfl, HBz⟩
    go_wp2_with fail
    go_ret
    exact ⟨rfl, (HB2.out).trans (HBz.out.mono (HB2.out).size)⟩
  have hbig1 : ¬ (t.size : Int) > 100 := by omega
  have HSZ : Hid (t.size ≤ 500) := by show _ ≤ _; omega
  clear hbig
  by_cases hV : ValidS s
  case neg =>
    have HCK : Hid (∀ (W : World), IsSs W (.slice bo bm bc) s.bl → Calls Try.prog 19 #[.agg #[.string al, .int .i64 len, .slice bo bm bc, .bool ck]] W fun e w' => ∃ E : Int, e = .returned (.tuple #[.agg #[.slice none 0 0, .slice none 0 0, .slice none 0 0], .int .i64 E]) ∧ (E != 0) = true ∧ Hid (Below W.heap.size W w')) := fun W h => by rw [← HeS.out]; exact RCheck_no h hV
    clear hV
    go_wp2_with (first
      | (go_at_call 16; (with_reducible refine HFW.out.mono ?_); rintro e w2 ⟨rfl, HBf⟩; have H42 := Lib.hid (H41.out.below HBf.out); have HV2 := Lib.hid (HV1.out.below HBf.out); have HB2 := Lib.hid (HB1.out.trans (HBf.out.mono HB1.out.size)); have a20 := H42.out.c0; have a21 := H42.out.c1; have a22 := H42.out.c2; have a23 := H42.out.c3; have HCK2 := Lib.hid (HCK.out _ HV2.out))
      | (go_at_call 19; (with_reducible refine HCK2.out.mono ?_); rintro e wa ⟨E, rfl, hE, HBa⟩; have HBA := Lib.hid (HB2.out.trans (HBa.out.mono HB2.out.size)))
      | fail)
    have HBC := Lib.hid (HBA.out.trans ((below_al wa (.cells #[.slice none 0 0, .slice none 0 0, .slice none 0 0] 30)).mono HBA.out.size))
    refine (HAW.out _).mono ?_
    rintro e wz ⟨rfl, HBz⟩
    go_wp2_with fail
    go_ret
    exact ⟨rfl, (HBC.out).trans (HBz.out.mono (HBC.out).size)⟩
  have HVS := Lib.hid hV
  have HCK : Hid (∀ (W : World), IsSs W (.slice bo bm bc) s.bl → Calls Try.prog 19 #[.agg #[.string al, .int .i64 len, .slice bo bm bc, .bool ck]] W fun e w' => ∃ ba nb bcp na k nc ya n1 yc, e = .returned (.tuple #[.agg #[.slice ba nb bcp, .slice na k nc, .slice ya n1 yc], .int .i64 0]) ∧ Hid (TabV s w' (.slice ba nb bcp) na nc ya yc) ∧ Hid (k = (LD s).length ∧ n1 = nS s + 1) ∧ Hid (Below W.heap.size W w')) := fun W h => by rw [← HeS.out]; exact RCheck_yes h hV
  clear hV
  go_upto_region 4 with (first
      | (go_at_call 16; (with_reducible refine HFW.out.mono ?_); rintro e w2 ⟨rfl, HBf⟩; have H42 := Lib.hid (H41.out.below HBf.out); have HV2 := Lib.hid (HV1.out.below HBf.out); have HB2 := Lib.hid (HB1.out.trans (HBf.out.mono HB1.out.size)); have a20 := H42.out.c0; have a21 := H42.out.c1; have a22 := H42.out.c2; have a23 := H42.out.c3; have HCK2 := Lib.hid (HCK.out _ HV2.out))
      | (go_at_call 19; (with_reducible refine HCK2.out.mono ?_); rintro e wa ⟨ba, nb, bcp, na, k, nc, ya, n1, yc, rfl, HTa, HKN, HBa⟩; have HBA := Lib.hid (HB2.out.trans (HBa.out.mono HB2.out.size)))
      | fail)
  obtain ⟨Y, hY⟩ : ∃ Y, Y = wa.heap.size := ⟨_, rfl⟩
  obtain ⟨w3, hw3⟩ : ∃ w3, w3 = wa.alloc (.cells #[.slice ba nb bcp, .slice na k nc, .slice ya n1 yc] 30) := ⟨_, rfl⟩
  have hb3 := below_al wa (.cells #[.slice ba nb bcp, .slice na k nc, .slice ya n1 yc] 30)
  have y3 := BxR.new wa (.slice ba nb bcp) (.slice na k nc) (.slice ya n1 yc) 30
  rw [← hw3] at hb3 y3
  rw [← hw3, ← hY]
  rw [← hY] at y3
  have H43 := Lib.hid ((H42.out.below HBa.out).below hb3)
  have HV3 := Lib.hid ((HV2.out.below HBa.out).below hb3)
  have HB3 := Lib.hid (HBA.out.trans (hb3.mono HBA.out.size))
  have HT3 := Lib.hid (HTa.out.below hb3)
  have HR3 := Lib.hid y3
  clear hY hw3 hb3 y3 a20 a21 a22 a23 k0 k1 k2 k3
  have a30 := H43.out.c0; have a31 := H43.out.c1; have a32 := H43.out.c2; have a33 := H43.out.c3
  have b30 := HR3.out.c0; have b31 := HR3.out.c1; have b32 := HR3.out.c2
  obtain ⟨N, hN⟩ : ∃ N, N = (numV s t).1 := ⟨_, rfl⟩
  obtain ⟨E, hE⟩ : ∃ E, E = (numV s t).2 := ⟨_, rfl⟩
  obtain ⟨C, hC⟩ : ∃ C, C = (compV s t).1 := ⟨_, rfl⟩
  obtain ⟨D, hD⟩ : ∃ D, D = (compV s t).2 := ⟨_, rfl⟩
  have HPN : Hid (∀ W, IsSs W (.slice bo bm bc) s.bl → Calls Try.prog 25 #[.agg #[.string al, .int .i64 len, .slice bo bm bc, .bool ck], .string t] W fun e w' => e = .returned (.tuple #[.int .i64 N, .int .i64 E]) ∧ Hid (Below W.heap.size W w')) := fun W h => by rw [← HeS.out, hN, hE]; exact (Number_any h).mono fun e w' h => h.v HVS.out
  have HRN : Hid (∀ W, IsSs W (.slice bo bm bc) s.bl → TabV s W (.slice ba nb bcp) na nc ya yc → Calls Try.prog 32 #[.agg #[.string al, .int .i64 len, .slice bo bm bc, .bool ck], .agg #[.slice ba nb bcp, .slice na k nc, .slice ya n1 yc], .string t] W fun e w' => e = .returned (.tuple #[.int .i64 N, .int .i64 E]) ∧ Hid (Below W.heap.size W w')) := fun W h h2 => by rw [← HeS.out, hN, hE]; exact RNumber_v HVS.out h HSZ.out HKN.out h2
  have HPC : Hid (∀ W, IsSs W (.slice bo bm bc) s.bl → Calls Try.prog 26 #[.agg #[.string al, .int .i64 len, .slice bo bm bc, .bool ck], .string t] W fun e w' => e = .returned (.tuple #[.string C, .int .i64 D]) ∧ Hid (Below W.heap.size W w')) := fun W h => by rw [← HeS.out, hC, hD]; exact (Complete_any h).mono fun e w' h => h.v HVS.out
  have HRC : Hid (∀ W, IsSs W (.slice bo bm bc) s.bl → Calls Try.prog 33 #[.agg #[.string al, .int .i64 len, .slice bo bm bc, .bool ck], .string t] W fun e w' => e = .returned (.tuple #[.string C, .int .i64 D]) ∧ Hid (Below W.heap.size W w')) := fun W h => by rw [← HeS.out, hC, hD]; exact (RComplete_any HVS.out.1 h HSZ.out).mono fun e w' h => h.v
  have HPN3 := Lib.hid (HPN.out _ HV3.out)
  clear hN hE hC hD
  go_wp2_with (first
      | (go_at_call 25; (with_reducible refine HPN3.out.mono ?_); rintro e w4 ⟨rfl, HBb⟩; have H44 := Lib.hid (H43.out.below HBb.out); have HV4 := Lib.hid (HV3.out.below HBb.out); have HB4 := Lib.hid (HB3.out.trans (HBb.out.mono HB3.out.size)); have a40 := H44.out.c0; have a41 := H44.out.c1; have a42 := H44.out.c2; have a43 := H44.out.c3; have HT4 := Lib.hid (HT3.out.below HBb.out); have HR4 := Lib.hid (HR3.out.below HBb.out); have b40 := HR4.out.c0; have b41 := HR4.out.c1; have b42 := HR4.out.c2; have HRN4 := Lib.hid (HRN.out _ HV4.out HT4.out))
      | (go_at_call 32; (with_reducible refine HRN4.out.mono ?_); rintro e w5 ⟨rfl, HBc⟩; have H45 := Lib.hid (H44.out.below HBc.out); have HV5 := Lib.hid (HV4.out.below HBc.out); have HB5 := Lib.hid (HB4.out.trans (HBc.out.mono HB4.out.size)); have a50 := H45.out.c0; have a51 := H45.out.c1; have a52 := H45.out.c2; have a53 := H45.out.c3; have HT5 := Lib.hid (HT4.out.below HBc.out); have HR5 := Lib.hid (HR4.out.below HBc.out); have b50 := HR5.out.c0; have b51 := HR5.out.c1; have b52 := HR5.out.c2; have HPC5 := Lib.hid (HPC.out _ HV5.out))
      | (go_at_call 26; (with_reducible refine HPC5.out.mono ?_); rintro e w6 ⟨rfl, HBd⟩; have H46 := Lib.hid (H45.out.below HBd.out); have HV6 := Lib.hid (HV5.out.below HBd.out); have HB6 := Lib.hid (HB5.out.trans (HBd.out.mono HB5.out.size)); have a60 := H46.out.c0; have a61 := H46.out.c1; have a62 := H46.out.c2; have a63 := H46.out.c3; have HT6 := Lib.hid (HT5.out.below HBd.out); have HR6 := Lib.hid (HR5.out.below HBd.out); have b60 := HR6.out.c0; have b61 := HR6.out.c1; have b62 := HR6.out.c2; have HRC6 := Lib.hid (HRC.out _ HV6.out))
      | (go_at_call 33; (with_reducible refine HRC6.out.mono ?_); rintro e w7 ⟨rfl, HBe⟩; have H47 := Lib.hid (H46.out.below HBe.out); have HV7 := Lib.hid (HV6.out.below HBe.out); have HB7 := Lib.hid (HB6.out.trans (HBe.out.mono HB6.out.size)); have a70 := H47.out.c0; have a71 := H47.out.c1; have a72 := H47.out.c2; have a73 := H47.out.c3; have HT7 := Lib.hid (HT6.out.below HBe.out); have HR7 := Lib.hid (HR6.out.below HBe.out); have b70 := HR7.out.c0; have b71 := HR7.out.c1; have b72 := HR7.out.c2)
      | fail)
  refine (HAW.out _).mono ?_
  rintro e wz ⟨rfl, HBz⟩
  go_wp2_with fail
  go_ret
  exact ⟨rfl, (HB7.out).trans (HBz.out.mono (HB7.out).size)⟩
end Go.Proofs.Ytgblfobomiiofaa
