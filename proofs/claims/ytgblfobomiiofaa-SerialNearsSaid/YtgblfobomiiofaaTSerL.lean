/- Contracts and lemmas (several texts merged into one). -/
import Derived.Test.YtgblfobomiiofaaTSerJ
import Derived.Test.YtgblfobomiiofaaTSerI
import Derived.Test.YtgblfobomiiofaaTSerK
namespace Go.Proofs.Ytgblfobomiiofaa
open Go Go.RowKit Go.Shelf Gw Go.Maps

/-- the document's rows, as slices -/
def TabV (s : Sch) (W : World) (vb : Value) (na : Option Addr) (nc : Nat) (ya : Option Addr) (yc : Nat) : Prop :=
  (∃ BL, IsSs W vb BL ∧ BegL s.al BL (LD s)) ∧ (∃ X, SlzA X W (.slice na (LD s).length nc) (nextR s)) ∧ ∃ X, SlzA X W (.slice ya (nS s + 1) yc) (wayR s (nS s + 1))
theorem TabV.below {s : Sch} {W W' : World} {vb : Value} {na ya : Option Addr} {nc yc : Nat} (h : TabV s W vb na nc ya yc) (hb : Below W.heap.size W W') : TabV s W' vb na nc ya yc := by
  obtain ⟨⟨BL, h1, h2⟩, ⟨X, h3⟩, ⟨Y, h4⟩⟩ := h
  exact ⟨⟨BL, h1.below hb, h2⟩, ⟨X, h3.below hb⟩, ⟨Y, h4.below hb⟩⟩
theorem TabS.v {s : Sch} {W : World} {v : Value} (h : TabS s W v) : ∃ vb na nc ya yc, v = .agg #[vb, .slice na (LD s).length nc, .slice ya (nS s + 1) yc] ∧ TabV s W vb na nc ya yc := by
  obtain ⟨X, vb, vn, vy, BL, rfl, h1, h2, h3, h4⟩ := h
  have g3 := h3
  have g4 := h4
  obtain ⟨na, nc, e1, _⟩ := g3
  obtain ⟨ya, yc, e2, _⟩ := g4
  rw [nextR_len] at e1
  rw [wayR_len] at e2
  subst e1; subst e2
  exact ⟨vb, na, nc, ya, yc, rfl, ⟨BL, h1, h2⟩, ⟨X, h3⟩, ⟨X, h4⟩⟩
section
variable {s : Sch} {W : World} {vb : Value} {na ya : Option Addr} {nc yc : Nat} (h : TabV s W vb na nc ya yc)
include h
theorem TabV.nx {i c : Nat} (hi : i < (LD s).length) (hc : c < s.al.size) : ∃ B o ra rc, na = some ⟨B, o, none⟩ ∧ W.cell? ⟨B, o + i, none⟩ = some (.slice ra s.al.size rc) ∧ ∃ B' o', ra = some ⟨B', o', none⟩ ∧ W.cell? ⟨B', o' + c, none⟩ = some (.int .i64 (nxD s i c)) := by
  obtain ⟨X, h3⟩ := h.2.1
  obtain ⟨B, o, bv, e1, e2, e3⟩ := h3.at' (i := i) (by rw [nextR_len]; exact hi)
  rw [nextR_at s hi] at e3
  have e4 := e3
  obtain ⟨ra, rc, rfl, -⟩ := e4
  rw [nextRow_len] at e3 e2
  obtain ⟨B', o', e5, e6⟩ := e3.at' (j := c) (by rw [nextRow_len]; exact hc)
  rw [nextRow_at s i hc] at e6
  exact ⟨B, o, ra, rc, e1, e2, B', o', e5, e6⟩
theorem TabV.wy {n i : Nat} (hn : n < nS s + 1) (hi : i < (LD s).length) : ∃ B o ra rc, ya = some ⟨B, o, none⟩ ∧ W.cell? ⟨B, o + n, none⟩ = some (.slice ra (LD s).length rc) ∧ ∃ B' o', ra = some ⟨B', o', none⟩ ∧ W.cell? ⟨B', o' + i, none⟩ = some (.int .i64 ((capD (wayD s n i) : Nat) : Int)) := by
  obtain ⟨X, h3⟩ := h.2.2
  obtain ⟨B, o, bv, e1, e2, e3⟩ := h3.at' (i := n) (by rw [wayR_len]; exact hn)
  rw [wayR_at s hn] at e3
  have e4 := e3
  obtain ⟨ra, rc, rfl, -⟩ := e4
  rw [wayRow_len] at e3 e2
  obtain ⟨B', o', e5, e6⟩ := e3.at' (j := i) (by rw [wayRow_len]; exact hi)
  rw [wayRow_at s n hi] at e6
  exact ⟨B, o, ra, rc, e1, e2, B', o', e5, e6⟩
end
theorem LD_pos {s : Sch} (h : WellF s) : 0 < (LD s).length := (List.getElem?_eq_some_iff.1 (nodesD h).zero).1
/-- two boxes: the scheme's and the rows' -/
structure BxS (X : Nat) (s : Sch) (bv vb : Value) (na : Option Addr) (nc : Nat) (ya : Option Addr) (yc : Nat) (W w : World) : Prop where
  b4 : B4 X (.string s.al) (.int .i64 s.len) bv (.bool s.ck) w
  b3 : BxR (X + 1) vb (.slice na (LD s).length nc) (.slice ya (nS s + 1) yc) w
  tv : TabV s w vb na nc ya yc
  blw : Below W.heap.size W w
theorem BxS.below {X : Nat} {s : Sch} {bv vb : Value} {na ya : Option Addr} {nc yc : Nat} {W w w' : World} (h : BxS X s bv vb na nc ya yc W w) (hb : Below w.heap.size w w') : BxS X s bv vb na nc ya yc W w' :=
  ⟨h.b4.below hb, h.b3.below hb, h.tv.below hb, h.blw.trans (hb.mono h.blw.size)⟩
theorem BxS.new {s : Sch} {bv vb : Value} {na ya : Option Addr} {nc yc : Nat} {w : World} (h : TabV s w vb na nc ya yc) : BxS w.heap.size s bv vb na nc ya yc w ((w.alloc (.cells #[.string s.al, .int .i64 s.len, bv, .bool s.ck] 24)).alloc (.cells #[vb, .slice na (LD s).length nc, .slice ya (nS s + 1) yc] 30)) := by
  obtain ⟨wa, hwa⟩ : ∃ wa, wa = w.alloc (.cells #[.string s.al, .int .i64 s.len, bv, .bool s.ck] 24) := ⟨_, rfl⟩
  rw [← hwa]
  have ba : Below w.heap.size w wa := by rw [hwa]; exact below_al _ _
  have bb := below_al wa (.cells #[vb, .slice na (LD s).length nc, .slice ya (nS s + 1) yc] 30)
  have b4 : B4 w.heap.size (.string s.al) (.int .i64 s.len) bv (.bool s.ck) wa := by rw [hwa]; exact B4.new _ _ _ _ _ _
  have sa : wa.heap.size = w.heap.size + 1 := by rw [hwa, World.size_alloc]
  have b3 := BxR.new wa vb (.slice na (LD s).length nc) (.slice ya (nS s + 1) yc) 30
  rw [sa] at b3
  exact ⟨b4.below bb, b3, (h.below ba).below bb, ba.trans (bb.mono ba.size)⟩
set_option maxRecDepth 100000 in
set_option maxHeartbeats 2000000 in
theorem RCount_any {s : Sch} {bv vb : Value} {na ya : Option Addr} {nc yc : Nat} {w : World} (hV : ValidS s) (hT : TabV s w vb na nc ya yc) : Calls Try.prog 22 #[schV s bv, .agg #[vb, .slice na (LD s).length nc, .slice ya (nS s + 1) yc]] w fun e w' => e = .returned (.int .i64 (totS s : Int)) ∧ Hid (Below w.heap.size w w') := by
  obtain ⟨w1, hw1⟩ : ∃ w1, w1 = (w.alloc (.cells #[.string s.al, .int .i64 s.len, bv, .bool s.ck] 24)).alloc (.cells #[vb, .slice na (LD s).length nc, .slice ya (nS s + 1) yc] 30) := ⟨_, rfl⟩
  have H1 : Hid (BxS w.heap.size s bv vb na nc ya yc w w1) := by rw [hw1]; exact BxS.new hT
  have HW1 := Lib.hid hw1
  have HVV := Lib.hid hV
  have hk0 := LD_pos hV.1
  have hk113 := LD_len hV.1
  obtain ⟨k, hk⟩ : ∃ k, k = (LD s).length := ⟨_, rfl⟩
  have hn1 : 1 ≤ nS s := by have := hV.1.2.1; unfold nS; omega
  have hn16 : nS s ≤ 16 := by have := hV.1.2.2.1; unfold nS; omega
  have hlen : s.len = (nS s : Int) := by have := hV.1.2.1; unfold nS; omega
  have hA2 : 2 ≤ s.al.size := hV.1.1.1
  have hA36 : s.al.size ≤ 36 := hV.1.1.2.1
  obtain ⟨n, hn⟩ : ∃ n, n = nS s := ⟨_, rfl⟩
  rw [← hn] at hn1 hn16 hlen
  rw [← hk] at hk0 hk113
  have hB0 := H1.out.b4
  have hR0 := H1.out.b3
  unfold schV
  rw [← hk, ← hn] at HW1 hR0 ⊢
  rw [hlen] at HW1 hB0 ⊢
  have k0 := hB0.c0; have k1 := hB0.c1; have k2 := hB0.c2; have k3 := hB0.c3
  have j0 := hR0.c0; have j1 := hR0.c1; have j2 := hR0.c2
  have HK := Lib.hid hk
  have HN := Lib.hid hn
  have HLEN := Lib.hid hlen
  obtain ⟨B, o, ra, rc, rfl, d1, B', o', rfl, d2⟩ := H1.out.tv.wy (n := nS s) (i := 0) (Nat.lt_succ_self _) (by rw [← HK.out]; exact hk0)
  have hcap : capD (wayD s (nS s) 0) = totS s := by rw [wayD_tot hV.1]; have := hV.2.2; unfold capD tooM; omega
  rw [hcap, Nat.add_zero] at d2
  rw [← hn] at d1
  rw [← hk] at d1
  obtain ⟨tt, htt⟩ : ∃ tt, tt = totS s := ⟨_, rfl⟩
  rw [← htt] at d2 ⊢
  clear hw1 hV hT hk hn hlen hB0 hR0 hcap htt
  go_enter Try.func22, Try.ntmps22
  go_upto_region 1 with fail
  rw [← HW1.out]
  go_wp2_with fail
  go_ret
  exact ⟨rfl, H1.out.blw⟩
end Go.Proofs.Ytgblfobomiiofaa
namespace Go.Proofs.Ytgblfobomiiofaa
open Go Go.RowKit Go.Shelf Gw Go.Maps

theorem serB_snoc {al : ByteArray} (u : List Nat) {c : Nat} (hc : c < al.size) : serB al false u ++ al.extract c (c + 1) = serB al false (u ++ [c]) := by
  refine bys_inj ?_
  rw [bys_append, bys_extract]
  have e1 : ((bys al).take (c + 1)).drop c = [al[c]] := by
    rw [List.take_add_one, List.drop_append]
    have e2 : (bys al)[c]? = some al[c] := by rw [List.getElem?_eq_getElem (by rw [bys_len]; exact hc)]; rfl
    rw [e2]
    simp [Nat.min_eq_left (Nat.le_of_lt hc)]
  rw [e1]
  show signs al u ++ [al[c]] = signs al (u ++ [c])
  unfold signs
  simp [hc]
/-- what the loop of Text keeps: the letters found, the place, the number that is left -/
structure TxS (s : Sch) (K m n' at_ : Nat) (u : List Nat) : Prop where
  ln : u.length = m
  lt : ∀ v ∈ u, v < s.al.size
  atl : at_ < (LD s).length
  nl : n' < wayD s (nS s - m) at_
  go : ∀ r, (wD s (nS s - m) at_)[n']? = some r → (wordsS s)[K]? = some (u ++ r)
theorem TxS.step {s : Sch} {K m n' at_ c to_ : Nat} {u : List Nat} (h : TxS s K m n' at_ u) (hW : WellF s) (hm : m < nS s) (hc : c < s.al.size) (hf : fD s at_ c = some to_) (h1 : sumV (trmD s (nS s - m - 1) at_) c ≤ n') (h2 : n' - sumV (trmD s (nS s - m - 1) at_) c < wayD s (nS s - m - 1) to_) : TxS s K (m + 1) (n' - sumV (trmD s (nS s - m - 1) at_) c) to_ (u ++ [c]) := by
  refine ⟨by simp [h.ln], fun v hv => ?_, fD_lt hW hf, by rw [show nS s - (m + 1) = nS s - m - 1 by omega]; exact h2, fun r hr => ?_⟩
  · rcases List.mem_append.1 hv with q | q
    · exact h.lt v q
    · rw [List.mem_singleton] at q
      rw [q]; exact hc
  · rw [show nS s - (m + 1) = nS s - m - 1 by omega] at hr
    have h3 := wD_pick hc hf h2 hr
    rw [show nS s - m - 1 + 1 = nS s - m by omega, show sumV (trmD s (nS s - m - 1) at_) c + (n' - sumV (trmD s (nS s - m - 1) at_) c) = n' by omega] at h3
    have h4 := h.go _ h3
    rw [h4]
    simp
set_option maxRecDepth 100000 in
set_option maxHeartbeats 8000000 in
theorem RText_any {s : Sch} {bv vb : Value} {na ya : Option Addr} {nc yc K : Nat} {w : World} (hV : ValidS s) (hK : K < totS s) (hT : TabV s w vb na nc ya yc) : Calls Try.prog 31 #[schV s bv, .agg #[vb, .slice na (LD s).length nc, .slice ya (nS s + 1) yc], .int .i64 (K : Int)] w fun e w' => ∃ u, e = .returned (.string (serB s.al s.ck u)) ∧ (wordsS s)[K]? = some u ∧ Hid (Below w.heap.size w w') := by
  obtain ⟨w1, hw1⟩ : ∃ w1, w1 = (w.alloc (.cells #[.string s.al, .int .i64 s.len, bv, .bool s.ck] 24)).alloc (.cells #[vb, .slice na (LD s).length nc, .slice ya (nS s + 1) yc] 30) := ⟨_, rfl⟩
  have H1 : Hid (BxS w.heap.size s bv vb na nc ya yc w w1) := by rw [hw1]; exact BxS.new hT
  have HW1 := Lib.hid hw1
  have HVV := Lib.hid hV
  have hk0 := LD_pos hV.1
  have hk113 := LD_len hV.1
  obtain ⟨k, hk⟩ : ∃ k, k = (LD s).length := ⟨_, rfl⟩
  have hn1 : 1 ≤ nS s := by have := hV.1.2.1; unfold nS; omega
  have hn16 : nS s ≤ 16 := by have := hV.1.2.2.1; unfold nS; omega
  have hlen : s.len = (nS s : Int) := by have := hV.1.2.1; unfold nS; omega
  have hA2 : 2 ≤ s.al.size := hV.1.1.1
  have hA36 : s.al.size ≤ 36 := hV.1.1.2.1
  obtain ⟨n, hn⟩ : ∃ n, n = nS s := ⟨_, rfl⟩
  rw [← hn] at hn1 hn16 hlen
  rw [← hk] at hk0 hk113
  have hB0 := H1.out.b4
  have hR0 := H1.out.b3
  unfold schV
  rw [← hk, ← hn] at HW1 hR0 ⊢
  rw [hlen] at HW1 hB0 ⊢
  have k0 := hB0.c0; have k1 := hB0.c1; have k2 := hB0.c2; have k3 := hB0.c3
  have j0 := hR0.c0; have j1 := hR0.c1; have j2 := hR0.c2
  have HK := Lib.hid hk
  have HN := Lib.hid hn
  have HLEN := Lib.hid hlen
  have HT0 : Hid (TxS s K 0 K 0 []) := by
    refine ⟨rfl, fun v hv => by simp at hv, by rw [← hk]; exact hk0, ?_, fun r hr => ?_⟩
    · rw [Nat.sub_zero, wayD_tot hV.1]; exact hK
    · rw [Nat.sub_zero, wD_words hV.1] at hr
      simpa using hr
  have hKl : K ≤ 2 ^ 40 := by have := hV.2.2; omega
  have HSE : Hid (∀ (V : World) (u : List Nat), (∀ v ∈ u, v < s.al.size) → u.length ≤ 500 → Calls Try.prog 43 #[.agg #[.string s.al, .int .i64 (n : Int), bv, .bool s.ck], .string (serB s.al false u)] V fun e w' => e = .returned (.string (serB s.al s.ck u)) ∧ Hid (Below V.heap.size V w')) := fun V u hu hl => by
    have h5 := RSerial_any (bv := bv) (w := V) hV.1 hu hl
    unfold schV at h5
    rw [hlen] at h5
    exact h5
  obtain ⟨A, hA⟩ : ∃ A, A = s.al.size := ⟨_, rfl⟩
  obtain ⟨al, hal⟩ : ∃ al, al = s.al := ⟨_, rfl⟩
  obtain ⟨ck, hck⟩ : ∃ ck, ck = s.ck := ⟨_, rfl⟩
  have hls : ∀ (t ty : TypeId), Try.prog.underlying t = some .string → ∀ W, (Builtin.len_ #[t] ty #[.string al]).run Try.prog W = .ok (.int .i64 (A : Int)) W := fun t ty ht W => by rw [run_len_string _ _ _ _ ht, hA, hal]; rfl
  rw [← hal] at k0
  rw [← hal, ← hck] at HSE HW1
  rw [← hck] at k3
  rw [← hal, ← hck]
  rw [← hA] at hA2 hA36
  have HAL := Lib.hid hal; have HA := Lib.hid hA; have HCK := Lib.hid hck
  have HH1 : Hid (B4 w.heap.size (.string al) (.int .i64 (n : Int)) bv (.bool ck) w1 ∧ BxR (w.heap.size + 1) vb (.slice na k nc) (.slice ya (n + 1) yc) w1) := ⟨⟨k0, k1, k2, k3⟩, hR0⟩
  clear hw1 hV hT hk hn hlen hB0 hR0 hK hal hA hck
  go_enter Try.func31, Try.ntmps31
  go_upto_region 1 with fail
  rw [← HW1.out]
  go_wp2_with fail
  go_loopw [2, 7, 8, 9] (fun s2 s7 s8 s9 wr => ∃ (m i n' at_ : Nat) (X : ByteArray), m ≤ n ∧ n' ≤ 2 ^ 40 ∧ i = m + 1 ∧ s2 = .int .i64 n' ∧ s7 = .string X ∧ s8 = .int .i64 at_ ∧ s9 = .int .i64 i ∧ X.size ≤ 500 ∧ at_ < k ∧ Hid (∃ u, X = serB s.al false u ∧ TxS s K m n' at_ u) ∧ w1 = wr) (fun _ _ _ s9 _ => n + 1 - (intOf s9).toNat)
  case atStart => exact ⟨0, 1, K, 0, ⟨#[]⟩, Nat.zero_le _, hKl, rfl, rfl, rfl, rfl, rfl, by decide, hk0, ⟨[], rfl, HT0.out⟩, rfl⟩
  case round =>
    obtain ⟨m, i, n', at_, X, hm, hn', him, rfl, rfl, rfl, rfl, hXs, hat, HX, rfl⟩ := hrel
    have HIM := Lib.hid him
    by_cases q : m < n
    · have q1 : (i : Int) ≤ (n : Int) := by omega
      obtain ⟨i1, hi1⟩ : ∃ i1, i1 = i + 1 := ⟨_, rfl⟩
      have hwi : IntKind.i64.wrap ((i : Int) + 1) = (i1 : Int) := by rw [IntWalk.i64_in _ (by omega)]; omega
      obtain ⟨d, hd⟩ : ∃ d, d = n - i := ⟨_, rfl⟩
      have hwd : IntKind.i64.wrap ((n : Int) - (i : Int)) = (d : Int) := by rw [IntWalk.i64_in _ (by omega)]; omega
      have hdn : d < n + 1 := by omega
      have HD : Hid (d = nS s - m - 1) := by show d = _; rw [hd, him, ← HN.out]; omega
      have HI1 := Lib.hid hi1
      have hmm : n + 1 - i1 < n + 1 - i := by omega
      clear hi1 hd him
      go_wp2_with fail
      go_loopw [2, 7, 8, 10] (fun s2 s7 s8 s10 wr => ∃ (c nn : Nat), c ≤ A ∧ nn ≤ 2 ^ 40 ∧ s2 = .int .i64 nn ∧ s7 = .string X ∧ s8 = .int .i64 at_ ∧ s10 = .int .i64 c ∧ Hid (sumV (trmD s d at_) c ≤ n' ∧ nn = n' - sumV (trmD s d at_) c) ∧ w1 = wr) (fun _ _ _ s10 _ => A - (intOf s10).toNat)
      case atStart => exact ⟨0, n', Nat.zero_le _, hn', rfl, rfl, rfl, rfl, ⟨Nat.zero_le _, by simp [sumV]⟩, rfl⟩
      case round =>
        obtain ⟨c, nn, hc, hnn, rfl, rfl, rfl, rfl, HC, rfl⟩ := hrel
        by_cases r : c < A
        · have r1 : (c : Int) < (A : Int) := by omega
          obtain ⟨cc, hcc⟩ : ∃ cc, cc = c + 1 := ⟨_, rfl⟩
          have hwc : IntKind.i64.wrap ((c : Int) + 1) = (cc : Int) := by rw [IntWalk.i64_in _ (by omega)]; omega
          have hcs : c < s.al.size := by rw [← HA.out]; exact r
          have hatl : at_ < (LD s).length := by rw [← HK.out]; exact hat
          obtain ⟨B, o, ra, rc, hna, d1, B', o', rfl, d2⟩ := H1.out.tv.nx hatl hcs
          rw [← HA.out] at d1
          have hcm : A - cc < A - c := by omega
          have hcl : cc ≤ A := by omega
          have hSU : sumV (trmD s d at_) cc = sumV (trmD s d at_) c + trmD s d at_ c := by rw [hcc]; rfl
          cases hf : fD s at_ c with
          | none =>
            have hz : nxD s at_ c = -1 := by unfold nxD; rw [hf]
            rw [hz] at d2
            have HC2 : Hid (sumV (trmD s d at_) cc ≤ n' ∧ nn = n' - sumV (trmD s d at_) cc) := by
              have e5 : trmD s d at_ c = 0 := by unfold trmD; rw [hf]
              rw [e5, Nat.add_zero] at hSU
              show _ ∧ _
              rw [hSU]; exact HC.out
            have hneg : (-1 : Int) < 0 := by omega
            subst hna
            clear hf hz hSU hcc hcs hatl
            go_wp2_with fail
            go_roundw
            case rel => exact ⟨cc, nn, hcl, hnn, rfl, rfl, rfl, by go_num, HC2, by first | rfl | trivial⟩
            case measure => simp [intOf]; omega
          | some to_ =>
            have hz : nxD s at_ c = (to_ : Int) := by unfold nxD; rw [hf]
            rw [hz] at d2
            have htl : to_ < (LD s).length := fD_lt HVV.out.1 hf
            obtain ⟨By, oy, ry, ryc, hya, d3, By', oy', rfl, d4⟩ := H1.out.tv.wy (n := d) (i := to_) (by rw [← HN.out]; exact hdn) htl
            rw [← HK.out] at d3
            have htk : to_ < k := by rw [HK.out]; exact htl
            obtain ⟨y, hy⟩ : ∃ y, y = capD (wayD s d to_) := ⟨_, rfl⟩
            rw [← hy] at d4
            have e5 : trmD s d at_ c = wayD s d to_ := by unfold trmD; rw [hf]
            rw [e5] at hSU
            have hneg : ¬ (to_ : Int) < 0 := by omega
            have htk1 : (to_ : Int) < (k : Int) := by omega
            have hdn1 : (d : Int) < ((n + 1 : Nat) : Int) := by omega
            have hyl : y ≤ 2 ^ 40 + 1 := by rw [hy]; unfold capD tooM; omega
            by_cases hlt : nn < y
            · have hlt1 : (nn : Int) < (y : Int) := by omega
              have hs2 : ∀ W, (Instr.slice 9 (.string al) (some (.int .i64 (c : Int))) (some (.int .i64 (cc : Int))) none).run Try.prog W = .ok (.string (al.extract c cc)) W := fun W => slice_in (by omega) (by rw [HAL.out]; omega) W
              obtain ⟨Z, hZ⟩ : ∃ Z, Z = X ++ al.extract c cc := ⟨_, rfl⟩
              have hl2 : (al.extract c cc).size ≤ 1 := by rw [ByteArray.size_extract]; omega
              have ha1 : ∀ W : World, (Op.stringOp .add X (al.extract c cc)).run Try.prog W = .ok (.string Z) W := fun W => by rw [run_string_add_sum W _ _ (by omega), hZ]
              obtain ⟨u, hXu, hTx⟩ := HX.out
              have hTn : TxS s K (m + 1) nn to_ (u ++ [c]) := by
                obtain ⟨g1, g2⟩ := HC.out
                rw [HD.out] at g1 g2 hy
                rw [g2]
                refine hTx.step HVV.out.1 (by rw [← HN.out]; exact q) hcs hf g1 ?_
                rw [← g2]
                have h8 : y ≤ wayD s (nS s - m - 1) to_ := by rw [hy]; unfold capD; omega
                omega
              have hZu : Z = serB s.al false (u ++ [c]) := by rw [hZ, hXu, HAL.out, hcc, serB_snoc u hcs]
              have HN2 : Hid (∃ u, Z = serB s.al false u ∧ TxS s K (m + 1) nn to_ u) := ⟨_, hZu, hTn⟩
              have hZs : Z.size ≤ 500 := by
                rw [hZu, serB_size s.al (m + 1) false hTn.ln]
                unfold szN
                simp
                omega
              have HIM2 : Hid (i1 = m + 1 + 1) := by show i1 = _; rw [HI1.out, HIM.out]
              have hmn : m + 1 ≤ n := q
              subst hna; subst hya
              clear hf hz hSU hcs hatl htl hy e5 hZ hXu hTx hTn hZu hcc
              go_wp2_with fail
              go_roundw
              case rel => exact ⟨m + 1, i1, nn, to_, Z, hmn, hnn, HIM2.out, rfl, rfl, rfl, by go_num, hZs, htk, HN2, by first | rfl | trivial⟩
              case measure => simp [intOf]; omega
            · have hlt1 : ¬ (nn : Int) < (y : Int) := by omega
              obtain ⟨n3, hn3⟩ : ∃ n3, n3 = nn - y := ⟨_, rfl⟩
              have hw3 : IntKind.i64.wrap ((nn : Int) - (y : Int)) = (n3 : Int) := by rw [IntWalk.i64_in _ (by omega)]; omega
              have hye : y = wayD s d to_ := by
                rw [hy]
                have : ¬ nn < capD (wayD s d to_) := by rw [← hy]; exact hlt
                unfold capD tooM at this ⊢
                omega
              have HC2 : Hid (sumV (trmD s d at_) cc ≤ n' ∧ n3 = n' - sumV (trmD s d at_) cc) := by
                obtain ⟨g1, g2⟩ := HC.out
                refine ⟨?_, ?_⟩
                · rw [hSU, ← hye]; omega
                · rw [hSU, ← hye, hn3, g2]; omega
              have hn3l : n3 ≤ 2 ^ 40 := by omega
              subst hna; subst hya
              clear hf hz hSU hcs hatl htl hy e5 hye hn3 hcc
              go_wp2_with fail
              go_roundw
              case rel => exact ⟨cc, n3, hcl, hn3l, by go_num, rfl, rfl, by go_num, HC2, by first | rfl | trivial⟩
              case measure => simp [intOf]; omega
        · exfalso
          obtain rfl : c = A := by omega
          obtain ⟨g1, g2⟩ := HC.out
          obtain ⟨u, _, hTx⟩ := HX.out
          have h5 := hTx.nl
          rw [show nS s - m = d + 1 by rw [HD.out, ← HN.out]; omega, wayD_succ, ← HA.out] at h5
          omega
    · obtain rfl : m = n := by omega
      have q1 : ¬ (i : Int) ≤ (m : Int) := by omega
      obtain ⟨u, hXu, hTx⟩ := HX.out
      have hfin : (wordsS s)[K]? = some u := by
        have h5 := hTx.go []
        have h6 := hTx.nl
        rw [← HN.out, Nat.sub_self] at h5 h6
        have e : n' = 0 := by
          have e7 : wayD s 0 at_ = 1 := rfl
          omega
        subst e
        have h7 := h5 rfl
        rw [List.append_nil] at h7
        exact h7
      have HS := Lib.hid (HSE.out w1 u (by rw [HAL.out]; exact hTx.lt) (by rw [hTx.ln]; omega))
      rw [← HAL.out] at hXu
      rw [← hXu] at HS
      have HFI := Lib.hid hfin
      clear hXu hTx hfin
      go_wp2_with (first
        | (go_at_call 43; (with_reducible refine HS.out.mono ?_); rintro e wz ⟨rfl, HBz⟩)
        | fail)
      go_ret
      exact ⟨u, by first | rfl | rw [HAL.out, HCK.out], HFI.out, H1.out.blw.trans (HBz.out.mono H1.out.blw.size)⟩
end Go.Proofs.Ytgblfobomiiofaa
namespace Go.Proofs.Ytgblfobomiiofaa
open Go Go.RowKit Go.Shelf Gw Go.Maps

theorem infix_word {al b t : ByteArray} (hb : OfA b al) (ht : OfA t al) : bys b <:+: bys t ↔ wordN al b <:+: wordN al t :=
  ⟨fun h => h.map _, fun h => by rw [← signs_word hb, ← signs_word ht]; unfold signs; exact h.map _⟩
theorem allowT_iff {s : Sch} (hW : WellF s) {t : ByteArray} (ht : OfA t s.al) : AllowT s.bl t ↔ AllowW (bansS s) (wordN s.al t) := by
  have hO : ∀ b ∈ s.bl, OfA b s.al := fun b hb => by
    obtain ⟨k, hk, rfl⟩ := List.mem_iff_getElem.1 hb
    exact (hW.2.2.2.1.2 k hk).2.2
  constructor
  · rintro h x hx
    obtain ⟨b, hb, rfl⟩ := List.mem_map.1 hx
    rw [← infix_word (hO b hb) ht]
    exact h b hb
  · intro h b hb
    rw [infix_word (hO b hb) ht]
    exact h _ (List.mem_map.2 ⟨b, hb, rfl⟩)
theorem allowW_call {s : Sch} {bv : Value} {t : ByteArray} {w : World} (hW : WellF s) (hs : IsSs w bv s.bl) (hl : t.size ≤ 500) (ht : OfA t s.al) : Calls Try.prog 44 #[schV s bv, .string t] w fun e w' => e = .returned (.bool (decide (AllowW (bansS s) (wordN s.al t)))) ∧ Hid (Below w.heap.size w w') := by
  refine (Allowed_any hs (by omega) (fun b hb => ?_) (by have := hW.2.2.2.1.1; omega)).mono ?_
  · obtain ⟨k, hk, rfl⟩ := List.mem_iff_getElem.1 hb
    have := (hW.2.2.2.1.2 k hk).2.1
    omega
  · rintro e w' ⟨r, rfl, hr, hb⟩
    refine ⟨?_, hb⟩
    congr 2
    rw [allowT_iff hW ht] at hr
    cases r with
    | true => exact (decide_eq_true (hr.1 rfl)).symm
    | false => exact (decide_eq_false (fun h => by have := hr.2 h; cases this)).symm
theorem of_call {al t : ByteArray} (hal : al.size ≤ 1000) (ht : t.size ≤ 1000) (w : World) : Calls Try.prog 59 #[.string al, .string t] w fun e w' => ∃ r : Bool, e = .returned (.bool r) ∧ Hid (r = true ↔ OfA t al) ∧ w = w' := by
  refine (of_any hal (by omega) w).mono ?_
  rintro e w' ⟨r, rfl, hr, rfl⟩
  exact ⟨r, rfl, hr, rfl⟩
theorem serB_id {al t : ByteArray} (ht : OfA t al) : serB al false (wordN al t) = t := bys_inj (by rw [serB_signs, bys_signs]; exact signs_word ht)
set_option maxRecDepth 100000 in
set_option maxHeartbeats 2000000 in
theorem RSyntax_any {s : Sch} {bv : Value} {t : ByteArray} {w : World} (hW : WellF s) (hl : t.size ≤ 500) : Calls Try.prog 38 #[schV s bv, .string t] w fun e w' => ∃ r : Bool, e = .returned (.bool r) ∧ Hid (r = true ↔ (t.size = szN (nS s) s.ck ∧ OfA t s.al)) ∧ Hid (Below w.heap.size w w') := by
  obtain ⟨w1, hw1⟩ : ∃ w1, w1 = w.alloc (.cells #[.string s.al, .int .i64 s.len, bv, .bool s.ck] 24) := ⟨_, rfl⟩
  have hb1 : Below w.heap.size w w1 := by rw [hw1]; exact below_al _ _
  have H4 : Hid (B4 w.heap.size (.string s.al) (.int .i64 s.len) bv (.bool s.ck) w1) := by rw [hw1]; exact B4.new _ _ _ _ _ _
  have HB1 := Lib.hid hb1
  have HW1 := Lib.hid hw1
  have hlen : s.len = (nS s : Int) := by have := hW.2.1; unfold nS; omega
  have hn16 : nS s ≤ 16 := by have := hW.2.2.1; unfold nS; omega
  have HL := Lib.hid (fun (V : World) => Long_any (bv := bv) (w := V) hlen hn16)
  have HO := Lib.hid (fun (V : World) => of_call (al := s.al) (t := t) (by have := hW.1.2.1; omega) (by omega) V)
  obtain ⟨Z, hZ⟩ : ∃ Z, Z = szN (nS s) s.ck := ⟨_, rfl⟩
  rw [← hZ] at HL ⊢
  have HZ := Lib.hid hZ
  unfold schV at HL ⊢
  clear hw1 hb1 hZ hlen hW
  have k0 := H4.out.c0; have k1 := H4.out.c1; have k2 := H4.out.c2; have k3 := H4.out.c3
  by_cases c : t.size = Z
  · have c1 : ((t.size : Int) == (Z : Int)) = true := by simp [c]
    have HC := Lib.hid c
    clear c
    go_enter Try.func38, Try.ntmps38
    go_upto_region 1 with fail
    rw [← HW1.out]
    go_wp2_with (first
      | (go_at_call 40; (with_reducible refine (HL.out _).mono ?_); rintro e w2 ⟨rfl, hb⟩; have HB2 := Lib.hid (HB1.out.trans (hb.out.mono HB1.out.size)); have k0' := (hb.out.cell (p := ⟨w.heap.size, 0, none⟩) H4.out.lt).trans k0)
      | (go_at_call 59; (with_reducible refine (HO.out _).mono ?_); rintro e w3 ⟨r, rfl, hr, rfl⟩; have HR := Lib.hid hr.out)
      | fail)
    go_ret
    exact ⟨r, rfl, ⟨fun h => ⟨HC.out, HR.out.1 h⟩, fun h => HR.out.2 h.2⟩, HB2⟩
  · have c1 : ((t.size : Int) == (Z : Int)) = false := beq_eq_false_iff_ne.2 (by omega)
    have HC := Lib.hid c
    clear c
    go_enter Try.func38, Try.ntmps38
    go_upto_region 1 with fail
    rw [← HW1.out]
    go_wp2_with (first
      | (go_at_call 40; (with_reducible refine (HL.out _).mono ?_); rintro e w2 ⟨rfl, hb⟩; have HB2 := Lib.hid (HB1.out.trans (hb.out.mono HB1.out.size)))
      | fail)
    go_ret
    exact ⟨false, rfl, ⟨fun h => (by cases h), fun h => absurd h.1 HC.out⟩, HB2⟩
/-- what the document's Complete answers -/
def RCompP (s : Sch) (t : ByteArray) (W : World) (e : Ending) (W' : World) : Prop :=
  Below W.heap.size W W' ∧ ((¬ (t.size = nS s ∧ OfA t s.al) ∧ e = .returned (.tuple #[.string ⟨#[]⟩, .int .i64 4])) ∨
    ((t.size = nS s ∧ OfA t s.al) ∧ ¬ AllowW (bansS s) (wordN s.al t) ∧ e = .returned (.tuple #[.string ⟨#[]⟩, .int .i64 21])) ∨
    ((t.size = nS s ∧ OfA t s.al) ∧ AllowW (bansS s) (wordN s.al t) ∧ e = .returned (.tuple #[.string (serB s.al s.ck (wordN s.al t)), .int .i64 0])))
set_option maxRecDepth 100000 in
set_option maxHeartbeats 2000000 in
theorem RComplete_any {s : Sch} {bv : Value} {t : ByteArray} {w : World} (hW : WellF s) (hs : IsSs w bv s.bl) (hl : t.size ≤ 500) : Calls Try.prog 33 #[schV s bv, .string t] w (RCompP s t w) := by
  obtain ⟨w1, hw1⟩ : ∃ w1, w1 = w.alloc (.cells #[.string s.al, .int .i64 s.len, bv, .bool s.ck] 24) := ⟨_, rfl⟩
  have hb1 : Below w.heap.size w w1 := by rw [hw1]; exact below_al _ _
  have H4 : Hid (B4 w.heap.size (.string s.al) (.int .i64 s.len) bv (.bool s.ck) w1) := by rw [hw1]; exact B4.new _ _ _ _ _ _
  have HB1 := Lib.hid hb1
  have HW1 := Lib.hid hw1
  have hlen : s.len = (nS s : Int) := by have := hW.2.1; unfold nS; omega
  have HO := Lib.hid (fun (V : World) => of_call (al := s.al) (t := t) (by have := hW.1.2.1; omega) (by omega) V)
  obtain ⟨n, hn⟩ : ∃ n, n = nS s := ⟨_, rfl⟩
  rw [← hn] at hlen
  have hAL : ∀ V, Below w.heap.size w V → OfA t s.al → Calls Try.prog 44 #[.agg #[.string s.al, .int .i64 s.len, bv, .bool s.ck], .string t] V fun e w' => e = .returned (.bool (decide (AllowW (bansS s) (wordN s.al t)))) ∧ Hid (Below V.heap.size V w') := fun V hV ho => allowW_call hW (hs.below hV) hl ho
  have hSE : ∀ V, OfA t s.al → Calls Try.prog 43 #[.agg #[.string s.al, .int .i64 s.len, bv, .bool s.ck], .string t] V fun e w' => e = .returned (.string (serB s.al s.ck (wordN s.al t))) ∧ Hid (Below V.heap.size V w') := fun V ho => by
    have h5 := RSerial_any (bv := bv) (w := V) hW (wordN_lt ho) (by rw [wordN_len]; exact hl)
    rw [serB_id ho] at h5
    exact h5
  have HAL := Lib.hid hAL; have HSE := Lib.hid hSE
  unfold schV RCompP
  rw [← hn]
  have HN := Lib.hid hn
  rw [hlen] at H4 HW1 HAL HSE ⊢
  clear hw1 hb1 hn hW hAL hSE hlen
  have k0 := H4.out.c0; have k1 := H4.out.c1; have k2 := H4.out.c2; have k3 := H4.out.c3
  by_cases c : t.size = n
  case neg =>
    have c1 : ((t.size : Int) != (n : Int)) = true := by rw [bne_iff_ne]; omega
    have HC := Lib.hid c
    clear c
    go_enter Try.func33, Try.ntmps33
    go_upto_region 1 with fail
    rw [← HW1.out]
    go_wp2_with fail
    refine bodyPost_ret (v := .tuple #[.string ⟨#[]⟩, .int .i64 4]) (by simp [results, Try.results33, go_sem]) rfl ?_
    exact ⟨HB1.out, .inl ⟨fun h => HC.out h.1, rfl⟩⟩
  have c1 : ((t.size : Int) != (n : Int)) = false := by simp [c]
  have HC := Lib.hid c
  clear c
  by_cases ho : OfA t s.al
  case neg =>
    have HO2 : Hid (∀ V, Calls Try.prog 59 #[.string s.al, .string t] V fun e w' => e = .returned (.bool false) ∧ V = w') := fun V => by
      refine (HO.out V).mono ?_
      rintro e w' ⟨r, rfl, hr, rfl⟩
      cases r with
      | true => exact absurd (hr.out.1 rfl) ho
      | false => exact ⟨rfl, rfl⟩
    have HNO := Lib.hid ho
    clear ho
    go_enter Try.func33, Try.ntmps33
    go_upto_region 1 with fail
    rw [← HW1.out]
    go_wp2_with (first
      | (go_at_call 59; (with_reducible refine (HO2.out _).mono ?_); rintro e w3 ⟨rfl, rfl⟩)
      | fail)
    refine bodyPost_ret (v := .tuple #[.string ⟨#[]⟩, .int .i64 4]) (by simp [results, Try.results33, go_sem]) rfl ?_
    exact ⟨HB1.out, .inl ⟨fun h => HNO.out h.2, rfl⟩⟩
  have HO2 : Hid (∀ V, Calls Try.prog 59 #[.string s.al, .string t] V fun e w' => e = .returned (.bool true) ∧ V = w') := fun V => by
    refine (HO.out V).mono ?_
    rintro e w' ⟨r, rfl, hr, rfl⟩
    cases r with
    | true => exact ⟨rfl, rfl⟩
    | false => exact absurd (hr.out.2 ho) (by decide)
  have HYO := Lib.hid ho
  have HA1 := Lib.hid (HAL.out w1 HB1.out ho)
  have HS1 := Lib.hid (fun V => HSE.out V ho)
  clear ho
  by_cases ha : AllowW (bansS s) (wordN s.al t)
  · rw [decide_eq_true ha] at HA1
    have HYA := Lib.hid ha
    clear ha
    go_enter Try.func33, Try.ntmps33
    go_upto_region 1 with fail
    rw [← HW1.out]
    go_wp2_with (first
      | (go_at_call 59; (with_reducible refine (HO2.out _).mono ?_); rintro e w3 ⟨rfl, rfl⟩)
      | (go_at_call 44; (with_reducible refine HA1.out.mono ?_); rintro e w2 ⟨rfl, hb⟩; have HB2 := Lib.hid (HB1.out.trans (hb.out.mono HB1.out.size)); have H42 := H4.out.below hb.out; have k0' := H42.c0; have k1' := H42.c1; have k2' := H42.c2; have k3' := H42.c3; clear H42)
      | (go_at_call 43; (with_reducible refine (HS1.out _).mono ?_); rintro e w4 ⟨rfl, hb3⟩; have HB3 := Lib.hid (HB2.out.trans (hb3.out.mono HB2.out.size)))
      | fail)
    refine bodyPost_ret (v := .tuple #[.string (serB s.al s.ck (wordN s.al t)), .int .i64 0]) (by simp [results, Try.results33, go_sem]) rfl ?_
    exact ⟨HB3.out, .inr (.inr ⟨⟨HC.out, HYO.out⟩, HYA.out, rfl⟩)⟩
  · rw [decide_eq_false ha] at HA1
    have HYA := Lib.hid ha
    clear ha
    go_enter Try.func33, Try.ntmps33
    go_upto_region 1 with fail
    rw [← HW1.out]
    go_wp2_with (first
      | (go_at_call 59; (with_reducible refine (HO2.out _).mono ?_); rintro e w3 ⟨rfl, rfl⟩)
      | (go_at_call 44; (with_reducible refine HA1.out.mono ?_); rintro e w2 ⟨rfl, hb⟩; have HB2 := Lib.hid (HB1.out.trans (hb.out.mono HB1.out.size)))
      | fail)
    refine bodyPost_ret (v := .tuple #[.string ⟨#[]⟩, .int .i64 21]) (by simp [results, Try.results33, go_sem]) rfl ?_
    exact ⟨HB2.out, .inr (.inl ⟨⟨HC.out, HYO.out⟩, HYA.out, rfl⟩)⟩
end Go.Proofs.Ytgblfobomiiofaa
namespace Go.Proofs.Ytgblfobomiiofaa
open Go Go.RowKit Go.Shelf Gw Go.Maps

theorem set3 {W w9 : World} {X : Nat} {a b c a0 b0 c0 : Value} (h : w9 = ((W.setCell ⟨X, 0, none⟩ a).setCell ⟨X, 1, none⟩ b).setCell ⟨X, 2, none⟩ c) (r0 : W.cell? ⟨X, 0, none⟩ = some a0) (r1 : W.cell? ⟨X, 1, none⟩ = some b0) (r2 : W.cell? ⟨X, 2, none⟩ = some c0) :
    w9.cell? ⟨X, 0, none⟩ = some a ∧ w9.cell? ⟨X, 1, none⟩ = some b ∧ w9.cell? ⟨X, 2, none⟩ = some c ∧ W.grownBy w9 (some X) := by
  have o : ∀ {V : World} {i j : Nat} {u v : Value}, i ≠ j → V.cell? ⟨X, j, none⟩ = some v → (V.setCell ⟨X, i, none⟩ u).cell? ⟨X, j, none⟩ = some v := fun {V i j u v} hne e => (World.cell?_setCell_other _ _ _ _ (by intro e; injection e with _ e; exact hne e)).trans e
  subst h
  exact ⟨o (by decide) (o (by decide) (World.cell?_setCell_same _ _ _ r0)), o (by decide) (World.cell?_setCell_same _ _ _ (o (by decide) r1)), World.cell?_setCell_same _ _ _ (o (by decide) (o (by decide) r2)), grownBy_trans (grownBy_trans (grownBy_setCell _ _ _ _) (grownBy_setCell _ _ _ _)) (grownBy_setCell _ _ _ _)⟩
/-- rows of ints lie apart from a block that holds nothing but empty slices -/
theorem SlzA.box {X : List Nat} {W : World} {v : Value} {rows : List (List Int)} {x : Nat} (h : SlzA X W v rows) (h0 : rows ≠ []) (h1 : ∀ r ∈ rows, r ≠ []) (hN : ∀ j u, W.cell? ⟨x, j, none⟩ = some u → u = .slice none 0 0) : SlzA (x :: X) W v rows := by
  obtain ⟨ao, c, rfl, hn, hh⟩ := h
  refine ⟨ao, c, rfl, fun y hy => ?_, fun i hi => ?_⟩
  · rcases List.mem_cons.1 hy with rfl | hy
    · obtain ⟨B, o, bv, rfl, hc, hI, _⟩ := hh 0 (List.length_pos_iff.2 h0)
      intro e
      have e' : some B = some y := e
      injection e' with e'
      subst e'
      have eb := hN _ _ hc
      obtain ⟨ao2, c2, rfl, h2⟩ := hI
      obtain ⟨B2, o2, rfl, _⟩ := h2 (List.length_pos_iff.2 (h1 _ (List.getElem_mem _)))
      cases eb
    · exact hn y hy
  · obtain ⟨B, o, bv, rfl, hc, hI, hb⟩ := hh i hi
    refine ⟨B, o, bv, rfl, hc, hI, fun y hy => ?_⟩
    rcases List.mem_cons.1 hy with rfl | hy
    · obtain ⟨ao2, c2, rfl, h2⟩ := hI
      obtain ⟨B2, o2, rfl, hB2, hc2⟩ := h2 (List.length_pos_iff.2 (h1 _ (List.getElem_mem hi)))
      intro e
      have e' : some B2 = some y := e
      injection e' with e'
      subst e'
      have := hN _ _ (hc2 0 (List.length_pos_iff.2 (h1 _ (List.getElem_mem hi))))
      cases this
    · exact hb y hy
/-- what Table answered stays behind a store into a box of empty slices -/
theorem TabS.box {s : Sch} {W W' : World} {v : Value} {x : Nat} (h : TabS s W v) (hk : 0 < (LD s).length) (ha : 0 < s.al.size) (hN : ∀ j u, W.cell? ⟨x, j, none⟩ = some u → u = .slice none 0 0) (hg : W.grownBy W' (some x)) : TabS s W' v := by
  obtain ⟨X, vb, vn, vy, BL, rfl, h1, h2, h3, h4⟩ := h
  have hkL : BL.length = (LD s).length := by rw [← h2.words, List.length_map]
  have e3 : nextR s ≠ [] := List.ne_nil_of_length_pos (by rw [nextR_len]; exact hk)
  have e4 : wayR s (nS s + 1) ≠ [] := List.ne_nil_of_length_pos (by rw [wayR_len]; omega)
  have f3 : ∀ r ∈ nextR s, r ≠ [] := fun r hr => by
    obtain ⟨i, _, rfl⟩ := List.mem_map.1 hr
    exact List.ne_nil_of_length_pos (by rw [nextRow_len]; exact ha)
  have f4 : ∀ r ∈ wayR s (nS s + 1), r ≠ [] := fun r hr => by
    obtain ⟨i, _, rfl⟩ := List.mem_map.1 hr
    exact List.ne_nil_of_length_pos (by rw [wayRow_len]; exact hk)
  refine ⟨x :: X, vb, vn, vy, BL, rfl, h1.kept hg (fun e => ?_), h2, (h3.box e3 f3 hN).kept hg (by simp), (h4.box e4 f4 hN).kept hg (by simp)⟩
  obtain ⟨ao, c, rfl, hc⟩ := h1
  obtain ⟨B, o, rfl, _, hc⟩ := hc (by omega)
  have e' : some B = some x := e
  injection e' with e'
  subst e'
  have := hN _ _ (hc 0 (by omega))
  cases this
theorem TabV.vb {s : Sch} {W : World} {vb : Value} {na ya : Option Addr} {nc yc : Nat} (h : TabV s W vb na nc ya yc) : ∃ ba nb bcp, vb = .slice ba nb bcp := by
  obtain ⟨⟨BL, ⟨ba, c, e, _⟩, _⟩, _⟩ := h
  exact ⟨ba, _, c, e⟩
set_option maxRecDepth 100000 in
set_option maxHeartbeats 2000000 in
/-- Formed, of any size -/
theorem Formed_all {s : Sch} {bv : Value} {w : World} (hv : IsSs w bv s.bl) : Calls Try.prog 42 #[schV s bv] w (BoolP (WellF s) w) := by
  by_cases hsz : s.al.size ≤ 1000
  · exact Formed_any hv hsz
  obtain ⟨w1, hw1⟩ : ∃ w1, w1 = w.alloc (.cells #[.string s.al, .int .i64 s.len, bv, .bool s.ck] 24) := ⟨_, rfl⟩
  have hb1 : Below w.heap.size w w1 := by rw [hw1]; exact below_al _ _
  have H4 : Hid (B4 w.heap.size (.string s.al) (.int .i64 s.len) bv (.bool s.ck) w1) := by rw [hw1]; exact B4.new _ _ _ _ _ _
  have HB1 := Lib.hid hb1
  have HW1 := Lib.hid hw1
  obtain ⟨bo, bc, rfl, -⟩ := hv
  obtain ⟨al, len, bl, ck⟩ := s
  unfold schV
  dsimp only at *
  clear hw1 hb1
  obtain ⟨m, hm⟩ : ∃ m, m = bl.length := ⟨_, rfl⟩
  rw [← hm] at HW1 H4 ⊢
  clear hm
  have k0 := H4.out.c0; have k1 := H4.out.c1; have k2 := H4.out.c2; have k3 := H4.out.c3
  go_enter Try.func42, Try.ntmps42
  go_upto_region 1 with fail
  rw [← HW1.out]
  have a2 : ¬ (al.size : Int) < 2 := by omega
  have b2 : (al.size : Int) > 36 := by omega
  have HN : Hid (IffB false (WellF ⟨al, len, bl, ck⟩)) := IffB.no fun h => by have := h.1.2.1; dsimp only at this; omega
  go_wp2_with fail
  go_ret
  exact ⟨false, rfl, HN, HB1⟩
/-- what the document's Table does -/
def TableP (s : Sch) (bv : Value) : Prop := ∀ W : World, IsSs W bv s.bl → Calls Try.prog 45 #[schV s bv] W fun e w' => ∃ v, e = .returned v ∧ Hid (TabS s w' v) ∧ Hid (Below W.heap.size W w')
def nilR : Value := .agg #[.slice none 0 0, .slice none 0 0, .slice none 0 0]
/-- what the document's Check answers -/
def ChkD (s : Sch) (W : World) (e : Ending) (W' : World) : Prop :=
  Below W.heap.size W W' ∧ ((¬ WellF s ∧ e = .returned (.tuple #[nilR, .int .i64 20])) ∨ (WellF s ∧ ¬ (1 ≤ totS s ∧ totS s ≤ 1099511627776) ∧ e = .returned (.tuple #[nilR, .int .i64 3])) ∨
    (ValidS s ∧ ∃ v, e = .returned (.tuple #[v, .int .i64 0]) ∧ TabS s W' v))
set_option maxRecDepth 100000 in
set_option maxHeartbeats 4000000 in
theorem RCheck_of {s : Sch} {bv : Value} {w : World} (hTB : WellF s → TableP s bv) (hs : IsSs w bv s.bl) : Calls Try.prog 19 #[schV s bv] w (ChkD s w) := by
  obtain ⟨w1, hw1⟩ : ∃ w1, w1 = w.alloc (.cells #[.string s.al, .int .i64 s.len, bv, .bool s.ck] 24) := ⟨_, rfl⟩
  have hb1 : Below w.heap.size w w1 := by rw [hw1]; exact below_al _ _
  have h4 : B4 w.heap.size (.string s.al) (.int .i64 s.len) bv (.bool s.ck) w1 := by rw [hw1]; exact B4.new _ _ _ _ _ _
  have hs1 : w1.heap.size = w.heap.size + 1 := by rw [hw1, World.size_alloc]
  obtain ⟨w2, hw2⟩ : ∃ w2, w2 = w1.alloc (.cells #[.slice none 0 0, .slice none 0 0, .slice none 0 0] 30) := ⟨_, rfl⟩
  have hb12 : Below w1.heap.size w1 w2 := by rw [hw2]; exact below_al _ _
  have h3 : BxR w1.heap.size (.slice none 0 0) (.slice none 0 0) (.slice none 0 0) w2 := by rw [hw2]; exact BxR.new _ _ _ _ _
  have hz : ∀ j, w2.frozen? ⟨w1.heap.size, j, none⟩ = false := fun j => by rw [hw2]; exact World.frozen?_alloc_at _ _ _ _ rfl
  have hNL : ∀ j u, w2.cell? ⟨w1.heap.size, j, none⟩ = some u → u = .slice none 0 0 := fun j u hj => by
    rw [hw2, World.cell?_alloc_at _ _ _ _ rfl] at hj
    obtain ⟨hlt, hj⟩ := Array.getElem?_eq_some_iff.1 hj
    have : j < 3 := hlt
    match j, this with
    | 0, _ => exact hj.symm
    | 1, _ => exact hj.symm
    | 2, _ => exact hj.symm
  obtain ⟨Xr, hXr⟩ : ∃ Xr, Xr = w.heap.size + 1 := ⟨_, rfl⟩
  rw [hs1, ← hXr] at h3 hz hNL
  have H4 := Lib.hid (h4.below hb12)
  have hb2 : Below w.heap.size w w2 := hb1.trans (hb12.mono hb1.size)
  rw [hw1] at hw2
  have HW2 := Lib.hid hw2
  have HXR := Lib.hid hXr
  have HB2 := Lib.hid hb2
  have HR := Lib.hid h3
  have HZ := Lib.hid hz
  have HNL := Lib.hid hNL
  have HS := Lib.hid (hs.below hb2)
  have HF := Lib.hid (Formed_all (s := s) (w := w2) (hs.below hb2))
  unfold BoolP at HF
  have HTB := Lib.hid hTB
  have HeS : Hid (schV s bv = .agg #[.string s.al, .int .i64 s.len, bv, .bool s.ck]) := rfl
  unfold TableP at HTB
  unfold schV at HF HTB ⊢
  clear hNL hw1 hb1 h4 hs1 hw2 hb12 h3 hz hXr hb2 hTB hs
  have k0 := H4.out.c0; have k1 := H4.out.c1; have k2 := H4.out.c2; have k3 := H4.out.c3
  go_enter Try.func19, Try.ntmps19
  go_upto_region 1 with fail
  rw [← HW2.out, ← HXR.out]
  go_cut [8] from 6 to 7 (fun s8 wz => ∃ r : Bool, s8 = .bool r ∧ Hid (IffB (!r) (WellF s)) ∧ Hid (Below w2.heap.size w2 wz))
  case first =>
    go_wp2_with (first
      | (go_at_call 42; (with_reducible refine HF.out.mono ?_); rintro e w3 ⟨r, rfl, hr, hb⟩)
      | fail)
    go_meet
    case rel => exact ⟨_, rfl, by rw [Bool.not_not]; exact hr, hb⟩
  case rest =>
    obtain ⟨r, rfl, HRR, HB3⟩ := hcut
    obtain ⟨w3, hw3⟩ : ∃ W, W = wc := ⟨_, rfl⟩
    subst hw3
    have H43 := H4.out.below HB3.out
    have HR3 := HR.out.below HB3.out
    have hz3 : ∀ j, w3.frozen? ⟨Xr, j, none⟩ = false := fun j => (HB3.out.frozen (p := ⟨Xr, j, none⟩) HR.out.lt).trans (HZ.out j)
    have HB3w := Lib.hid (HB2.out.trans (HB3.out.mono HB2.out.size))
    have k0 := H43.c0; have k1 := H43.c1; have k2 := H43.c2; have k3 := H43.c3
    have HXL : Hid (w.heap.size ≤ Xr) := by show _ ≤ _; rw [HXR.out]; omega
    apply_assumption
    cases r with
    | true =>
      have hn : ¬ WellF s := fun h => by have := HRR.out.2 h; cases this
      have HN := Lib.hid hn
      have r0 := HR3.c0; have r1 := HR3.c1; have r2 := HR3.c2
      have z0 := hz3 0; have z1 := hz3 1; have z2 := hz3 2
      clear hn H43 HR3 hz3
      go_wp2_with fail
      obtain ⟨w9, hw9⟩ : ∃ w9, w9 = ((w3.setCell ⟨Xr, 0, none⟩ (.slice none 0 0)).setCell ⟨Xr, 1, none⟩ (.slice none 0 0)).setCell ⟨Xr, 2, none⟩ (.slice none 0 0) := ⟨_, rfl⟩
      rw [← hw9]
      obtain ⟨q0, q1, q2, hg⟩ := set3 hw9 r0 r1 r2
      have hbel : Below w.heap.size w w9 := by rw [hw9]; exact ((HB3w.out.setCell HXL.out _).setCell HXL.out _).setCell HXL.out _
      refine bodyPost_ret (v := .tuple #[nilR, .int .i64 20]) (by simp [results, Try.results19, go_sem, q0, q1, q2, nilR]) rfl ?_
      exact ⟨hbel, .inl ⟨HN.out, rfl⟩⟩
    | false =>
      have hW : WellF s := HRR.out.1 rfl
      have HW := Lib.hid hW
      have HTC := Lib.hid (HTB.out hW w3 (HS.out.below HB3.out))
      have HR3H := Lib.hid HR3
      have HZ3 := Lib.hid hz3
      have H43H := Lib.hid H43
      clear HRR hW H43 HR3 hz3
      go_upto_region 4 with (first
        | (go_at_call 45; (with_reducible refine HTC.out.mono ?_); rintro e w4 ⟨v, rfl, HTv, HB4⟩; obtain ⟨vb, na, nc, ya, yc, rfl, htv⟩ := HTv.out.v; obtain ⟨ba, nb, bcp, rfl⟩ := htv.vb; have HTV := Lib.hid htv; clear htv)
        | fail)
      obtain ⟨Y, hY⟩ : ∃ Y, Y = w4.heap.size := ⟨_, rfl⟩
      obtain ⟨w5, hw5⟩ : ∃ w5, w5 = w4.alloc (.cells #[(.slice ba nb bcp), .slice na (LD s).length nc, .slice ya (nS s + 1) yc] 30) := ⟨_, rfl⟩
      have hb5 := below_al w4 (.cells #[(.slice ba nb bcp), .slice na (LD s).length nc, .slice ya (nS s + 1) yc] 30)
      have y3 := BxR.new w4 (.slice ba nb bcp) (.slice na (LD s).length nc) (.slice ya (nS s + 1) yc) 30
      rw [← hw5] at hb5 y3
      rw [← hw5, ← hY]
      rw [← hY] at y3
      have H45 := (H43H.out.below HB4.out).below hb5
      have HR5 := (HR3H.out.below HB4.out).below hb5
      have hz5 : ∀ j, w5.frozen? ⟨Xr, j, none⟩ = false := fun j => (hb5.frozen (p := ⟨Xr, j, none⟩) (HR3H.out.below HB4.out).lt).trans ((HB4.out.frozen (p := ⟨Xr, j, none⟩) HR3H.out.lt).trans (HZ3.out j))
      have HBW5 := Lib.hid ((HB3w.out.trans (HB4.out.mono HB3w.out.size)).trans (hb5.mono (HB3w.out.trans (HB4.out.mono HB3w.out.size)).size))
      have HTV5 := Lib.hid (HTV.out.below hb5)
      have HTS5 := Lib.hid (HTv.out.below hb5)
      have HTG : Hid (∀ w9, w5.grownBy w9 (some Xr) → TabS s w9 (.agg #[(.slice ba nb bcp), .slice na (LD s).length nc, .slice ya (nS s + 1) yc])) := fun w9 hg => HTS5.out.box (LD_pos HW.out) (Nat.lt_of_lt_of_le (by decide) HW.out.1.1) (fun j u hj => HNL.out j u (by
        have l3 := HR.out.lt
        have l4 := HB3.out.size
        have l5 := HB4.out.size
        rw [hb5.cell (p := ⟨Xr, j, none⟩) (by show Xr < _; omega), HB4.out.cell (p := ⟨Xr, j, none⟩) (by show Xr < _; omega), HB3.out.cell (p := ⟨Xr, j, none⟩) l3] at hj
        exact hj)) hg
      have HYX : Hid (Xr ≠ Y) := by show _ ≠ _; have h5 := (HR3H.out.below HB4.out).lt; omega
      obtain ⟨k, hk⟩ : ∃ k, k = (LD s).length := ⟨_, rfl⟩
      obtain ⟨n, hn⟩ : ∃ n, n = nS s := ⟨_, rfl⟩
      have hlen : s.len = (n : Int) := by rw [hn]; have := HW.out.2.1; unfold nS; omega
      have hkp : 0 < k := by rw [hk]; exact LD_pos HW.out
      obtain ⟨B, o, ra, rc, hya, d1, B', o', hra, d2⟩ := HTV5.out.wy (n := nS s) (i := 0) (Nat.lt_succ_self _) (by rw [← hk]; exact hkp)
      rw [wayD_tot HW.out, Nat.add_zero] at d2
      rw [← hk, ← hn] at d1
      rw [← hk, ← hn] at y3 ⊢
      obtain ⟨tt, htt⟩ : ∃ tt, tt = totS s := ⟨_, rfl⟩
      rw [← htt] at d2
      obtain ⟨cp, hcp⟩ : ∃ cp, cp = capD tt := ⟨_, rfl⟩
      rw [← hcp] at d2
      have y0 := y3.c0; have y1 := y3.c1; have y2 := y3.c2
      have e1 := H45.c1
      rw [hlen] at e1
      have r0 := HR5.c0; have r1 := HR5.c1; have r2 := HR5.c2
      have z0 := hz5 0; have z1 := hz5 1; have z2 := hz5 2
      have HHK := Lib.hid hk; have HHN := Lib.hid hn; have HTT := Lib.hid htt
      have hn16 : n ≤ 16 := by have := HW.out.2.2.1; omega
      by_cases c1 : 1 ≤ tt
      · by_cases c2 : tt ≤ 1099511627776
        · have hcpe : cp = tt := by rw [hcp]; unfold capD tooM; omega
          have p1 : ¬ (cp : Int) < 1 := by omega
          have p2 : ¬ (cp : Int) > 1099511627776 := by omega
          have HV : Hid (ValidS s) := ⟨HW.out, by rw [← HTT.out]; exact c1, by rw [← HTT.out]; exact c2⟩
          subst hra; subst hya
          clear hY hw5 hb5 y3 H45 HR5 hz5 hk hn hlen htt hcp hcpe k0 k1 k2 k3
          go_wp2_with fail
          obtain ⟨w9, hw9⟩ : ∃ w9, w9 = ((w5.setCell ⟨Xr, 0, none⟩ ((.slice ba nb bcp))).setCell ⟨Xr, 1, none⟩ (.slice na k nc)).setCell ⟨Xr, 2, none⟩ (.slice (some ⟨B, o, none⟩) (n + 1) yc) := ⟨_, rfl⟩
          rw [← hw9]
          obtain ⟨q0, q1, q2, hg⟩ := set3 hw9 r0 r1 r2
          have hbel : Below w.heap.size w w9 := by rw [hw9]; exact ((HBW5.out.setCell HXL.out _).setCell HXL.out _).setCell HXL.out _
          have hts : TabS s w9 (.agg #[(.slice ba nb bcp), .slice na k nc, .slice (some ⟨B, o, none⟩) (n + 1) yc]) := by
            rw [HHK.out, HHN.out]
            exact HTG.out w9 hg
          refine bodyPost_ret (v := .tuple #[.agg #[(.slice ba nb bcp), .slice na k nc, .slice (some ⟨B, o, none⟩) (n + 1) yc], .int .i64 0]) (by simp [results, Try.results19, go_sem, q0, q1, q2]) rfl ?_
          exact ⟨hbel, .inr (.inr ⟨HV.out, _, rfl, hts⟩)⟩
        · have p1 : ¬ (cp : Int) < 1 := by rw [hcp]; unfold capD tooM; omega
          have p2 : (cp : Int) > 1099511627776 := by rw [hcp]; unfold capD tooM; omega
          have HV : Hid (¬ (1 ≤ totS s ∧ totS s ≤ 1099511627776)) := fun h => c2 (by rw [htt]; exact h.2)
          subst hra; subst hya
          clear hY hw5 hb5 y3 H45 HR5 hz5 hk hn hlen htt hcp k0 k1 k2 k3
          go_wp2_with fail
          obtain ⟨w9, hw9⟩ : ∃ w9, w9 = ((w5.setCell ⟨Xr, 0, none⟩ (.slice none 0 0)).setCell ⟨Xr, 1, none⟩ (.slice none 0 0)).setCell ⟨Xr, 2, none⟩ (.slice none 0 0) := ⟨_, rfl⟩
          rw [← hw9]
          obtain ⟨q0, q1, q2, hg⟩ := set3 hw9 r0 r1 r2
          have hbel : Below w.heap.size w w9 := by rw [hw9]; exact ((HBW5.out.setCell HXL.out _).setCell HXL.out _).setCell HXL.out _
          refine bodyPost_ret (v := .tuple #[nilR, .int .i64 3]) (by simp [results, Try.results19, go_sem, q0, q1, q2, nilR]) rfl ?_
          exact ⟨hbel, .inr (.inl ⟨HW.out, HV.out, rfl⟩)⟩
      · have p1 : (cp : Int) < 1 := by rw [hcp]; unfold capD tooM; omega
        have HV : Hid (¬ (1 ≤ totS s ∧ totS s ≤ 1099511627776)) := fun h => c1 (by rw [htt]; exact h.1)
        subst hra; subst hya
        clear hY hw5 hb5 y3 H45 HR5 hz5 hk hn hlen htt hcp k0 k1 k2 k3
        go_wp2_with fail
        obtain ⟨w9, hw9⟩ : ∃ w9, w9 = ((w5.setCell ⟨Xr, 0, none⟩ (.slice none 0 0)).setCell ⟨Xr, 1, none⟩ (.slice none 0 0)).setCell ⟨Xr, 2, none⟩ (.slice none 0 0) := ⟨_, rfl⟩
        rw [← hw9]
        obtain ⟨q0, q1, q2, hg⟩ := set3 hw9 r0 r1 r2
        have hbel : Below w.heap.size w w9 := by rw [hw9]; exact ((HBW5.out.setCell HXL.out _).setCell HXL.out _).setCell HXL.out _
        refine bodyPost_ret (v := .tuple #[nilR, .int .i64 3]) (by simp [results, Try.results19, go_sem, q0, q1, q2, nilR]) rfl ?_
        exact ⟨hbel, .inr (.inl ⟨HW.out, HV.out, rfl⟩)⟩
end Go.Proofs.Ytgblfobomiiofaa
namespace Go.Proofs.Ytgblfobomiiofaa
open Go Go.RowKit Go.Shelf Gw Go.Maps

theorem RCheck_any {s : Sch} {bv : Value} {w : World} (hs : IsSs w bv s.bl) : Calls Try.prog 19 #[schV s bv] w (ChkD s w) := RCheck_of (fun hW _ h => Table_any hW h) hs
theorem RCheck_no {s : Sch} {bv : Value} {w : World} (hs : IsSs w bv s.bl) (hV : ¬ ValidS s) : Calls Try.prog 19 #[schV s bv] w fun e w' => ∃ E : Int, e = .returned (.tuple #[.agg #[.slice none 0 0, .slice none 0 0, .slice none 0 0], .int .i64 E]) ∧ (E != 0) = true ∧ Hid (Below w.heap.size w w') := by
  refine (RCheck_any hs).mono ?_
  rintro e w' ⟨hb, ⟨_, rfl⟩ | ⟨_, _, rfl⟩ | ⟨h, _⟩⟩
  · exact ⟨20, rfl, rfl, hb⟩
  · exact ⟨3, rfl, rfl, hb⟩
  · exact absurd h hV
theorem RCheck_yes {s : Sch} {bv : Value} {w : World} (hs : IsSs w bv s.bl) (hV : ValidS s) : Calls Try.prog 19 #[schV s bv] w fun e w' => ∃ ba nb bcp na k nc ya n1 yc, e = .returned (.tuple #[.agg #[.slice ba nb bcp, .slice na k nc, .slice ya n1 yc], .int .i64 0]) ∧ Hid (TabV s w' (.slice ba nb bcp) na nc ya yc) ∧ Hid (k = (LD s).length ∧ n1 = nS s + 1) ∧ Hid (Below w.heap.size w w') := by
  refine (RCheck_any hs).mono ?_
  rintro e w' ⟨hb, ⟨h, _⟩ | ⟨_, h, _⟩ | ⟨_, v, rfl, hT⟩⟩
  · exact absurd hV.1 h
  · exact absurd hV.2 h
  · obtain ⟨vb, na, nc, ya, yc, rfl, htv⟩ := hT.v
    obtain ⟨ba, nb, bcp, rfl⟩ := htv.vb
    exact ⟨ba, nb, bcp, na, _, nc, ya, _, yc, rfl, htv, ⟨rfl, rfl⟩, hb⟩
theorem RCount_v {s : Sch} {bv vb : Value} {na ya : Option Addr} {nc yc k n1 : Nat} {w : World} (hV : ValidS s) (hk : k = (LD s).length ∧ n1 = nS s + 1) (hT : TabV s w vb na nc ya yc) : Calls Try.prog 22 #[schV s bv, .agg #[vb, .slice na k nc, .slice ya n1 yc]] w fun e w' => e = .returned (.int .i64 (totS s : Int)) ∧ Hid (Below w.heap.size w w') := by
  rw [hk.1, hk.2]; exact RCount_any hV hT
theorem RText_v {s : Sch} {bv vb : Value} {na ya : Option Addr} {nc yc k n1 K : Nat} {u : List Nat} {w : World} (hV : ValidS s) (hk : k = (LD s).length ∧ n1 = nS s + 1) (hK : K < totS s) (hu : (wordsS s)[K]? = some u) (hT : TabV s w vb na nc ya yc) : Calls Try.prog 31 #[schV s bv, .agg #[vb, .slice na k nc, .slice ya n1 yc], .int .i64 (K : Int)] w fun e w' => e = .returned (.string (serB s.al s.ck u)) ∧ Hid (Below w.heap.size w w') := by
  rw [hk.1, hk.2]
  refine (RText_any hV hK hT).mono ?_
  rintro e w' ⟨u', rfl, hu', hb⟩
  rw [hu] at hu'
  injection hu' with hu'
  subst hu'
  exact ⟨rfl, hb⟩
theorem TextN_no {s : Sch} {bv : Value} {N : Int} {w : World} (hv : IsSs w bv s.bl) (hV : ValidS s) (hN : ¬ (0 ≤ N ∧ N < totS s)) : Calls Try.prog 24 #[schV s bv, .int .i64 N] w fun e w' => e = .returned (.tuple #[.string ⟨#[]⟩, .int .i64 3]) ∧ Hid (Below w.heap.size w w') := by
  refine (Text_any hv).mono ?_
  rintro e w' ⟨hb, ⟨h, _⟩ | ⟨_, h, _⟩ | ⟨_, _, rfl⟩ | ⟨_, K, u, rfl, hK, _, _⟩⟩
  · exact absurd hV.1 h
  · exact absurd hV.2 h
  · exact ⟨rfl, hb⟩
  · exact absurd ⟨by omega, by omega⟩ hN
end Go.Proofs.Ytgblfobomiiofaa
