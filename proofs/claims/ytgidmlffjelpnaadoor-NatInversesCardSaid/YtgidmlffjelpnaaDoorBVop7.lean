/- WHAT IS PROVED: for any two slices of 16-bit digits (of which the first 24 count), Inverse returns the number below the second one whose product with the first one leaves the remainder of 1, if they have no common divisor, and otherwise ErrNoInverse, or ErrZero if the second one is 0; and the few plain results of awake hold. Conditions: the listed tables of the library hold what the program's text lays (the card ties them). -/
import Derived.Test.YtgidmlffjelpnaaDoorBVop6
import Derived.Test.YtgidmlffjelpnaaDoorBVop4
import Derived.Carry
import Derived.Test.YtgidmlffjelpnaaDoorCards
import Derived.Test.YtgidmlffjelpnaaDoorTie
namespace Go.Proofs.YtgidmlffjelpnaaDoor
open Go Go.ChangeShapes Go.WideShapes Go.ChangeAt Go.RowKit Gu

theorem laidOut' : laidOutB Tryd.prog = true := by kernel_rfl
theorem u16_of_wf {n : Int} (h : (Lit.int .u16 n).wf = true) : 0 ≤ n ∧ n ≤ 65535 := by
  simpa [Lit.wf, IntKind.min, IntKind.max, IntKind.signed, IntKind.bits] using h
theorem raw_of {H : Type} {enc : TypeId × Value → H} {W : World} {d : DataW H} {p : List MemPlace} {a0 : Option Addr} {len cap : Nat}
    (h : DataW.Trod enc Tryd.prog W 0 (fun _ => true) true 35 (.slice a0 len cap) d p) : ∃ xs, IsRaw W (.slice a0 len cap) xs ∧ xs.length ≤ maxLen := by
  obtain ⟨fuel, hf⟩ := h
  have c16 : Tryd.prog.cellsOf 73 = 1 := by kernel_rfl
  rcases open_ints Tryd.underlying35 Tryd.underlying73 c16 hf with ⟨hcs, hx⟩ | ⟨a, len', cap', zs, hcs, _, hl, hm, hz, hx, hcell, hwz⟩
  · simp [Value.cells] at hcs
    obtain ⟨rfl, rfl, rfl⟩ := hcs
    exact ⟨[], ⟨Dig.nil _, .inl ⟨rfl, _, _, rfl⟩⟩, by simp⟩
  · simp [Value.cells] at hcs
    obtain ⟨rfl, rfl, rfl⟩ := hcs
    simp only [if_true] at hz
    rcases Nat.eq_zero_or_pos len with h0 | h0
    · subst h0
      exact ⟨[], ⟨Dig.nil _, .inl ⟨rfl, _, _, rfl⟩⟩, by simp⟩
    · obtain ⟨b, o, s⟩ := a
      obtain rfl : s = none := by
        have h1 := hcell 0 (by omega)
        cases s with
        | none => rfl
        | some _ =>
          exfalso
          unfold World.cell? Addr.add at h1
          simp only [if_true] at h1
          split at h1 <;> simp at h1
      have hl' : ((zs.take len).map Int.toNat).length = len := by rw [List.length_map, List.length_take]; omega
      have hget : ∀ i (h : i < ((zs.take len).map Int.toNat).length), ∃ hi : i < zs.length, ((zs.take len).map Int.toNat)[i] = zs[i].toNat := fun i h => ⟨by omega, by simp⟩
      refine ⟨(zs.take len).map Int.toNat, ⟨fun i hi => ?_, .inr ⟨b, o, cap, by rw [hl'], fun i hi => ?_⟩⟩, by omega⟩
      · obtain ⟨hi2, e⟩ := hget i hi
        have := u16_of_wf (hwz _ (List.getElem_mem hi2))
        rw [e]; omega
      · obtain ⟨hi2, e⟩ := hget i hi
        have := u16_of_wf (hwz _ (List.getElem_mem hi2))
        have h1 := hcell i hi2
        rw [add_plain] at h1
        rw [h1, e, List.getD, List.getElem?_eq_getElem hi2, Option.getD_some, Int.toNat_of_nonneg this.1]
end Go.Proofs.YtgidmlffjelpnaaDoor
namespace Go.Proofs.YtgidmlffjelpnaaDoor
open Go Go.ChangeShapes Go.WideShapes Go.ChangeAt Go.RowKit Gu

set_option maxRecDepth 100000 in
theorem natInverses_lifted (os : Os) (started : os.Started) (H : Type) (enc : TypeId × Value → H) :
    ReturnsInHanded {} Tryd.checked os 6 .any (fun w args => (Rows.natInversesSpec.pre enc Tryd.prog Tryd.f6 [] false w args ∧ laidMetH Tryd.prog Rows.natInversesRow.laid w) ∧ sizedMet enc Tryd.prog Tryd.f6 (OpenSpec.ofChange Rows.natInversesSpec) false w args)
      (Rows.natInversesSpec.post enc Tryd.prog Tryd.f6 false true false false) := by
  refine returnsInHanded_of_change_and (C := Tryd.checked) (X := fun w _ => laidMetH Tryd.prog Rows.natInversesRow.laid w) (fun _ _ _ hh h => h.of_heap hh) own started (by kernel_rfl) Tryd.func6
    (ChangeSpec.witness_shaped (enc := enc) (C := Tryd.checked) (os := os) (X := fun w _ => laidMetH Tryd.prog Rows.natInversesRow.laid w) false (World.laidAll Tryd.prog os Rows.natInversesRow.laid) #[.slice none 0 0, .slice none 0 0] 8 (World.laidAll_os _ _ _)
      (World.shaped_of_ZipB (by kernel_rfl) (by kernel_rfl)) (by kernel_rfl) (by kernel_rfl) (by kernel_rfl)
      (by rw [MakeChecks.laidMetH_plain _ _ _ (by kernel_rfl)]; exact laidMet_laidAll _ (by kernel_rfl) (by kernel_rfl))) ?_
  intro W base args ds gs before hval0 hW _ _ hL _
  have hval : ∀ (j : Nat) t v, Tryd.f6.params[j]? = some t → args[j]? = some v → Value.okWide Tryd.prog W .any base t v := hval0
  have hW' := hW
  obtain ⟨p, q, hA0, hV, rfl, hfz, hnd⟩ := hW
  have hA : DataW.TrodAll enc Tryd.prog W 0 (fun _ => true) true Tryd.f6.params.toList args.toList ds p := hA0
  rw [Tryd.params6] at hA hval
  obtain ⟨v0, v1, d0, d1, p0, p1, rfl, rfl, rfl, h0, h1⟩ := trodAll_two hA
  obtain ⟨rfl, rfl⟩ := trodVars_none hV
  obtain ⟨a0, len0, cap0, rfl⟩ := okWide_slice Tryd.underlying35 (hval 0 35 v0 rfl rfl)
  obtain ⟨a1, len1, cap1, rfl⟩ := okWide_slice Tryd.underlying35 (hval 1 35 v1 rfl rfl)
  obtain ⟨xs0, hraw0, hlen0⟩ := raw_of h0
  obtain ⟨xs1, hraw1, hlen1⟩ := raw_of h1
  clear hA0 hval0
  simp only [List.append_nil] at hW'
  have hlt0 : ∀ x ∈ p0, x.block < W.heap.size := fun x hx => hW'.lt x (by simp [hx])
  have hlt1 : ∀ x ∈ p1, x.block < W.heap.size := fun x hx => hW'.lt x (by simp [hx])
  refine (natInverses_walk _ _ xs0 xs1 W hraw0 hraw1 hlen0 hlen1 (env_of_laid (by rfl) hL)).mono fun e W' ⟨he, hb⟩ => ?_
  subst he
  exact ⟨_, rfl, _, _, _, [], _, [], hW', trodAll_mk1 (shut_bool Tryd.underlying4 _),
    trodAll_mk2 (Below.trod laidOut' (by kernel_rfl) (of_decide_eq_true (by kernel_rfl)) h0 hb hlt0) (Below.trod laidOut' (by kernel_rfl) (of_decide_eq_true (by kernel_rfl)) h1 hb hlt1), rfl, hb.frame _, fun h => by cases h⟩
theorem natInverses_holds : Rows.NatInversesSaid :=
  OpenClaim.holds_of_wide 6 Tryd.f6 rfl rfl rfl rfl rfl rfl rfl ⟨rfl, rfl, rfl, rfl, rfl⟩ rfl rfl rfl rfl rfl (by kernel_rfl) Tryd.func6 (by kernel_rfl)
    (of_decide_eq_true (by kernel_rfl)) (by unfold Func.isWrapper; first | (rw [if_pos (by decide +kernel)]; kernel_rfl) | (rw [if_neg (by decide +kernel)]; exact ⟨rfl, rfl⟩))
    (fun os started H enc _ => natInverses_lifted os started H enc)
theorem natInverses_card_holds : Rows.NatInversesCardSaid :=
  Claim7.holds_tied_plain_at .later [] [.data, .data, .data] true _ false
    natInverses_holds (fun _ h => by cases h) (by kernel_rfl) (fun _ h => by cases h) natInverses_row_tie rfl ⟨rfl, rfl⟩ (by kernel_rfl) rfl
    (fun f fn hf hfn => by
      obtain rfl : f = 6 := Option.some.inj ((show Tryd.prog.funcNamed "guilloche/guillochelaw01.NatInverses" = some 6 by kernel_rfl).symm.trans hf) |>.symm
      obtain rfl : fn = Tryd.f6 := (Option.some.inj (Tryd.func6.symm.trans hfn)).symm
      exact ⟨by kernel_rfl, fun j t ht => by
        rw [Tryd.params6] at ht
        have hm : t ∈ [35, 35] := by simpa using Array.mem_of_getElem? ht
        have hall : ([35, 35].all fun u => !Tryd.prog.wantsStandIn u) = true := by kernel_rfl
        exact (show Tryd.prog.wantsStandIn t = false by simpa using List.all_eq_true.1 hall t hm)⟩)
    (by kernel_rfl)
#print axioms natInverses_card_holds
end Go.Proofs.YtgidmlffjelpnaaDoor
