/- WHAT IS PROVED: for any two slices of 16-bit digits (of which the first 60 count) and every int, the texts of eleven numbers are as they were after every operation was called on them; and the few plain results of awake hold. Conditions: the listed tables of the library hold what the program's text lays (the card ties them). -/
import Derived.Test.YthafnhjnlfpifaaDoorBKdp6
import Derived.Deep.CutRange
import Derived.Test.YthafnhjnlfpifaaDoorBKdp3
import Derived.Test.YthafnhjnlfpifaaDoorRows
import Derived.ProofKit
import Derived.LaidMore
import Derived.LaidSub
import Derived.Lay
import Derived.OpenShut
import Derived.Lib.LaidTab
import Derived.Stop.Joined
import Derived.Test.YthafnhjnlfpifaaDoorBKdp4
import Derived.Carry
import Derived.Test.YthafnhjnlfpifaaDoorCards
import Derived.Test.YthafnhjnlfpifaaDoorTie
namespace Go.Proofs.YthafnhjnlfpifaaDoor
open Go Go.RowKit Gu

/-- an append that outgrows its array, as one step of a region that draws its order -/
theorem step_append_grows {P : Program} {ops : Array Oper} {o : Oper} {a : Act} {w : World} {K : Act → World → Prop} {Q : Exit → Act → World → Prop} {E : Prop} (hg : o.guard = none) (s x : Operand) (t : TypeId)
    (hop : o.op = Op.call { callee := Callee.builtin Builtin.append, args := #[s, x], argTypes := #[t, t] })
    (e : TypeId) (i : TypeInfo) (z : Value) (size bytes : Nat) (h1 : P.underlying t = some (.slice e)) (h2 : P.info? e = some i) (h3 : i.zero = some z) (h4 : i.size = size) (h5 : i.bytes = bytes) (h6 : z.cells.size = size) (h7 : 0 < size)
    (b : Addr) (n cap : Nat) (olds : List Value) (hs : a.eval s = .slice (some b) n cap) (hlo : olds.length = n * size) (holds : ∀ j u, olds[j]? = some u → w.cell? (b.add j) = some u)
    (ad : Addr) (m c : Nat) (news : List Value) (hx : a.eval x = .slice (some ad) m c) (hn : news.length = m * size) (hc : ∀ j u, news[j]? = some u → w.cell? (ad.add j) = some u)
    (hfull : cap < n + m) (b1 : n + m ≤ maxLen) (b2 : (n + m) * bytes ≤ 140737488355328)
    (hK : ∀ v' w', w'.ownsRow w.heap.size e size v' (n + m) (olds ++ news) → w.grownBy w' none → K (a.put o.dst v') w') :
    if Region.wanted o (yielded ops a.tmps) = true then Oper.wp P o a w K Q else E := by
  have hw : Region.wanted o (yielded ops a.tmps) = true := by simp [Region.wanted, hg]
  rw [if_pos hw]
  obtain ⟨v', w', hrun, r1, r2⟩ := run_append_arg_grows (P := P) w t o.type e i z size bytes h1 h2 h3 h4 h5 h6 h7 b n cap olds hlo holds ad m c news hn hc hfull b1 b2
  unfold Oper.wp
  simp [execOp, hop, resolve, invoke, builtin, hs, hx, hrun, Result.andThen]
  exact hK v' w' r1 r2
set_option maxHeartbeats 4000000 in
set_option maxRecDepth 100000 in
theorem natKeeps_walk (u0 u1 : Value) (xs0 xs1 : List Nat) (i : Int) (w : World) (hu0 : IsRaw w u0 xs0) (hu1 : IsRaw w u1 xs1) (hl0 : xs0.length ≤ maxLen) (hl1 : xs1.length ≤ maxLen) (hi1 : -9223372036854775808 ≤ i) (hi2 : i ≤ 9223372036854775807) (he : Env w) :
    Calls Tryd.prog 3 #[u0, u1, .int .i64 i] w fun e w' => e = .returned (.bool true) ∧ Below w.heap.size w w' := by
  have HR0 := Lib.hid (fun W (h : IsRaw W u0 xs0) => Raw_any u0 xs0 60 W h hl0 (by decide))
  have hna := rawN_nd hu0.1 60
  generalize rawN xs0 60 = a at *
  have HU0 := Lib.hid hu0
  have h32a := nd_32 hna
  have HR1 := Lib.hid (fun W (h : IsRaw W u1 xs1) => Raw_any u1 xs1 60 W h hl1 (by decide))
  have hnb := rawN_nd hu1.1 60
  generalize rawN xs1 60 = b at *
  have HU1 := Lib.hid hu1
  have h32b := nd_32 hnb
  have HS0 := Lib.hid (Kq.start he)
  obtain ⟨uo0, uc0, rfl, -⟩ := hu0.shape
  obtain ⟨uo1, uc1, rfl, -⟩ := hu1.shape
  clear he hu0 hl0 hu1 hl1
  go_enter Tryd.func3, Tryd.ntmps3
  go_wp2_with fail
  refine (HR0.out _ (IsRaw.below HU0.out HS0.out.bel)).mono ?_
  rintro e w1 ⟨cv, rfl, hc, hb⟩
  obtain ⟨co, cc, rfl, -⟩ := hc.shape
  have HS1 := Lib.hid ((HS0.out.next hb).addDig hc)
  clear hc hb HS0 HU0 HR0
  go_wp2_with fail
  refine (HR1.out _ (IsRaw.below HU1.out HS1.out.bel)).mono ?_
  rintro e w2 ⟨lv, rfl, hl, hb⟩
  obtain ⟨lo, lc, rfl, -⟩ := hl.shape
  have HS2 := Lib.hid ((HS1.out.next hb).addDig hl)
  clear hl hb HS1 HU1 HR1
  go_wp2_with fail
  refine (two_any _ _ a b _ (HS2.out.dig _ (.tail _ (.head _))) (HS2.out.dig _ (.head _)) (by omega) (by omega)).mono ?_
  rintro e w3 ⟨vx, vy, rfl, hx, hy, hb⟩
  obtain ⟨xo, xc, rfl, -⟩ := hx.shape
  obtain ⟨yo, yc, rfl, -⟩ := hy.shape
  have hs := ((((HS2.out.next hb).addNum hx).addNum hy).boxed (.slice xo (nd 4294967296 (a)) xc) 26).boxed (.slice yo (nd 4294967296 (b)) yc) 26
  simp only [World.size_alloc] at hs
  have HS3 := Lib.hid hs
  clear hs hb hx hy HS2
  have hq5 : i.tmod 512 ≤ 511 := by
    have := Int.tmod_lt_of_pos i (show (0 : Int) < 512 by decide)
    omega
  have ba := nd_32 hna
  have bb := nd_32 hnb
  obtain ⟨S, hS⟩ : ∃ S : ByteArray, S = ⟨(Lib.decDigits a).toArray⟩ := ⟨_, rfl⟩
  obtain ⟨T, hT⟩ : ∃ T : ByteArray, T = ⟨(Lib.decDigits b).toArray⟩ := ⟨_, rfl⟩
  have hs := HS3.out
  obtain ⟨cs1, hcs⟩ : ∃ cs : List (Nat × Nat × Value), cs = (w3.heap.size + 1, 0, .slice yo (nd 4294967296 (b)) yc) :: (w3.heap.size, 0, .slice xo (nd 4294967296 (a)) xc) :: [] := ⟨_, rfl⟩
  obtain ⟨ns1, hns⟩ : ∃ ns : List (Value × Nat), ns = (.slice yo (nd 4294967296 (b)) yc, b) :: (.slice xo (nd 4294967296 (a)) xc, a) :: [] := ⟨_, rfl⟩
  obtain ⟨rs1, hrs⟩ : ∃ rs : List (Value × Nat), rs = (.slice lo (nd 65536 (b)) lc, b) :: (.slice co (nd 65536 (a)) cc, a) :: [] := ⟨_, rfl⟩
  rw [← hcs, ← hns, ← hrs] at hs
  have HC1_x : Hid (((w3.heap.size, 0, .slice xo (nd 4294967296 (a)) xc) : Nat × Nat × Value) ∈ cs1) := by show _ ∈ _; rw [hcs]; exact (.tail _ (.head _))
  have HC1_y : Hid (((w3.heap.size + 1, 0, .slice yo (nd 4294967296 (b)) yc) : Nat × Nat × Value) ∈ cs1) := by show _ ∈ _; rw [hcs]; exact (.head _)
  have HM1_x : Hid (((.slice xo (nd 4294967296 (a)) xc, a) : Value × Nat) ∈ ns1) := by show _ ∈ _; rw [hns]; exact (.tail _ (.head _))
  have HM1_y : Hid (((.slice yo (nd 4294967296 (b)) yc, b) : Value × Nat) ∈ ns1) := by show _ ∈ _; rw [hns]; exact (.head _)
  have HCL1 : Hid (∀ W', Kq cs1 ns1 rs1 w W' → W'.cell? ⟨w3.heap.size, 0, none⟩ = some (.slice xo (nd 4294967296 (a)) xc) ∧ W'.cell? ⟨w3.heap.size + 1, 0, none⟩ = some (.slice yo (nd 4294967296 (b)) yc)) := fun W' h => ⟨h.cell HC1_x.out, h.cell HC1_y.out⟩
  have hs2 := hs.drew
  have hcl := HCL1.out _ hs2
  have hc0 := HCL1.out _ hs
  have HAK1 := Lib.hid (fun W' (h : Kq cs1 ns1 rs1 w W') => awake_Q h)
  clear hcs hns hrs HS3
  have HSX : Hid (∀ W', Kq cs1 ns1 rs1 w W' → Calls Tryd.prog 6 #[.agg #[.slice xo (nd 4294967296 (a)) xc]] W' fun e w' => e = .returned (.string S) ∧ Kq cs1 ns1 rs1 w w') := fun W' h => by
    have h1 := String_any _ a W' (h.num _ (HM1_x.out)) (by omega) h.env
    rw [← hS] at h1
    exact h1.mono fun e w' ⟨he, hB⟩ => ⟨he, h.next hB⟩
  have HSY : Hid (∀ W', Kq cs1 ns1 rs1 w W' → Calls Tryd.prog 6 #[.agg #[.slice yo (nd 4294967296 (b)) yc]] W' fun e w' => e = .returned (.string T) ∧ Kq cs1 ns1 rs1 w w') := fun W' h => by
    have h1 := String_any _ b W' (h.num _ (HM1_y.out)) (by omega) h.env
    rw [← hT] at h1
    exact h1.mono fun e w' ⟨he, hB⟩ => ⟨he, h.next hB⟩
  have HST := Lib.hid hS
  have HTT := Lib.hid hT
  clear hS hT
  go_wp2_with fail
  go_region_held3 (fun W' : World => (W'.cell? ⟨w3.heap.size, 0, none⟩ = some (.slice xo (nd 4294967296 (a)) xc) ∧ W'.cell? ⟨w3.heap.size + 1, 0, none⟩ = some (.slice yo (nd 4294967296 (b)) yc)) ∧ Kq cs1 ns1 rs1 w W') (first | (refine And.intro ?_ ?_ <;> assumption)) (first
    | (go_at_call 6; with_reducible refine (HSX.out _ ?h).mono ?_; (case h => assumption); rintro e w' ⟨rfl, hs'⟩; have hc' := HCL1.out _ hs')
    | (go_at_call 6; with_reducible refine (HSY.out _ ?h).mono ?_; (case h => assumption); rintro e w' ⟨rfl, hs'⟩; have hc' := HCL1.out _ hs'))
  all_goals
    have hsx : Kq cs1 ns1 rs1 w w' := by assumption
    have HS4 := Lib.hid hsx
    clear hsx hs hs2 hcl hc0
    obtain ⟨w4, rfl⟩ : ∃ w4 : World, w4 = w' := ⟨_, rfl⟩
    have hs := HS4.out.boxed2 (.slice xo (nd 4294967296 (a)) xc) (.slice yo (nd 4294967296 (b)) yc) 26
    have HS5 := Lib.hid hs
    clear hs HS4
    have cx := HS5.out.cell (.tail _ (.tail _ (HC1_x.out)))
    have cy := HS5.out.cell (.tail _ (.tail _ (HC1_y.out)))
    go_wp2_with fail
    refine (kAddR (a := a) (b := b) (HS5.out.num _ (HM1_x.out)) (HS5.out.num _ (HM1_y.out)) (by omega) (by omega)).mono ?_
    rintro e w5 ⟨vca, kca, mca, rfl, hca, bca, hb⟩
    obtain ⟨cao, cac, rfl, -⟩ := hca.shape
    have hs := ((HS5.out.next hb).addNum hca).boxed (.slice cao (nd 4294967296 (mca)) cac) 26
    have HS6 := Lib.hid hs
    clear hs hb hca HS5
    clear cx cy
    have cx := HS6.out.cell (.tail _ (.tail _ (.tail _ (HC1_x.out))))
    have cy := HS6.out.cell (.tail _ (.tail _ (.tail _ (HC1_y.out))))
    go_wp2_with fail
    refine (kMulR (a := a) (b := b) (HS6.out.num _ (.tail _ (HM1_x.out))) (HS6.out.num _ (.tail _ (HM1_y.out))) (by omega) (by omega)).mono ?_
    rintro e w6 ⟨vda, kda, mda, rfl, hda, bda, hb⟩
    obtain ⟨dao, dac, rfl, -⟩ := hda.shape
    have hs := ((HS6.out.next hb).addNum hda).boxed (.slice dao (nd 4294967296 (mda)) dac) 26
    have HS7 := Lib.hid hs
    clear hs hb hda HS6
    clear cx cy
    have cx := HS7.out.cell (.tail _ (.tail _ (.tail _ (.tail _ (HC1_x.out)))))
    have cca := HS7.out.cell (.tail _ (.head _))
    go_wp2_with fail
    refine (kSubR (a := mca) (b := a) (HS7.out.num _ (.tail _ (.head _))) (HS7.out.num _ (.tail _ (.tail _ (HM1_x.out)))) (by omega) (by omega)).mono ?_
    rintro e w7 ⟨vea, kea, mea, rfl, hea, bea, hb⟩
    obtain ⟨eao, eac, rfl, -⟩ := hea.shape
    have hs := ((HS7.out.next hb).addNum hea).boxed (.slice eao (nd 4294967296 (mea)) eac) 26
    have HS8 := Lib.hid hs
    clear hs hb hea HS7
    clear cx cca
    have cda := HS8.out.cell (.tail _ (.head _))
    have cca := HS8.out.cell (.tail _ (.tail _ (.head _)))
    go_wp2_with fail
    refine (kDivModR (a := mda) (b := mca) (HS8.out.num _ (.tail _ (.head _))) (HS8.out.num _ (.tail _ (.tail _ (.head _)))) (by omega) (by omega)).mono ?_
    rintro e w8 ⟨vqa, vra, kqa, mqa, mra, rfl, hqa, hra, bqa, bra, hb⟩
    obtain ⟨qao, qac, rfl, -⟩ := hqa.shape
    obtain ⟨rao, rac, rfl, -⟩ := hra.shape
    have hs := ((((HS8.out.next hb).addNum hqa).addNum hra).boxed (.slice qao (nd 4294967296 (mqa)) qac) 26).boxed (.slice rao (nd 4294967296 (mra)) rac) 26
    simp only [World.size_alloc] at hs
    have HS9 := Lib.hid hs
    clear hs hb hqa hra HS8
    clear cda cca
    have cx := HS9.out.cell (.tail _ (.tail _ (.tail _ (.tail _ (.tail _ (.tail _ (.tail _ (HC1_x.out))))))))
    go_wp2_with fail
    refine (kLshS (a := a) (HS9.out.num _ (.tail _ (.tail _ (.tail _ (.tail _ (.tail _ (HM1_x.out))))))) (by omega) _ ?hi).mono ?_
    case hi => omega
    rintro e w9 ⟨vua, kua, mua, rfl, hua, bua, hb⟩
    obtain ⟨uao, uac, rfl, -⟩ := hua.shape
    have hs := ((HS9.out.next hb).addNum hua).boxed (.slice uao (nd 4294967296 (mua)) uac) 26
    have HS10 := Lib.hid hs
    clear hs hb hua HS9
    clear cx
    have cx := HS10.out.cell (.tail _ (.tail _ (.tail _ (.tail _ (.tail _ (.tail _ (.tail _ (.tail _ (HC1_x.out)))))))))
    go_wp2_with fail
    refine (kRshS (a := a) (HS10.out.num _ (.tail _ (.tail _ (.tail _ (.tail _ (.tail _ (.tail _ (HM1_x.out)))))))) (by omega) _ ?hi).mono ?_
    case hi => omega
    rintro e w10 ⟨vva, kva, mva, rfl, hva, bva, hb⟩
    obtain ⟨vao, vac, rfl, -⟩ := hva.shape
    have hs := ((HS10.out.next hb).addNum hva).boxed (.slice vao (nd 4294967296 (mva)) vac) 26
    have HS11 := Lib.hid hs
    clear hs hb hva HS10
    clear cx
    have hs := HS11.out
    obtain ⟨cs2, hcs⟩ : ∃ cs : List (Nat × Nat × Value), cs = (w10.heap.size, 0, .slice vao (nd 4294967296 (mva)) vac) :: (w9.heap.size, 0, .slice uao (nd 4294967296 (mua)) uac) :: (w8.heap.size + 1, 0, .slice rao (nd 4294967296 (mra)) rac) :: (w8.heap.size, 0, .slice qao (nd 4294967296 (mqa)) qac) :: (w7.heap.size, 0, .slice eao (nd 4294967296 (mea)) eac) :: (w6.heap.size, 0, .slice dao (nd 4294967296 (mda)) dac) :: (w5.heap.size, 0, .slice cao (nd 4294967296 (mca)) cac) :: (w4.heap.size, 1, .slice yo (nd 4294967296 (b)) yc) :: (w4.heap.size, 0, .slice xo (nd 4294967296 (a)) xc) :: cs1 := ⟨_, rfl⟩
    obtain ⟨ns2, hns⟩ : ∃ ns : List (Value × Nat), ns = (.slice vao (nd 4294967296 (mva)) vac, mva) :: (.slice uao (nd 4294967296 (mua)) uac, mua) :: (.slice rao (nd 4294967296 (mra)) rac, mra) :: (.slice qao (nd 4294967296 (mqa)) qac, mqa) :: (.slice eao (nd 4294967296 (mea)) eac, mea) :: (.slice dao (nd 4294967296 (mda)) dac, mda) :: (.slice cao (nd 4294967296 (mca)) cac, mca) :: ns1 := ⟨_, rfl⟩
    obtain ⟨rs2, hrs⟩ : ∃ rs : List (Value × Nat), rs = rs1 := ⟨_, rfl⟩
    rw [← hcs, ← hns, ← hrs] at hs
    have HC2_ca : Hid (((w5.heap.size, 0, .slice cao (nd 4294967296 (mca)) cac) : Nat × Nat × Value) ∈ cs2) := by show _ ∈ _; rw [hcs]; exact (.tail _ (.tail _ (.tail _ (.tail _ (.tail _ (.tail _ (.head _)))))))
    have HC2_da : Hid (((w6.heap.size, 0, .slice dao (nd 4294967296 (mda)) dac) : Nat × Nat × Value) ∈ cs2) := by show _ ∈ _; rw [hcs]; exact (.tail _ (.tail _ (.tail _ (.tail _ (.tail _ (.head _))))))
    have HC2_ea : Hid (((w7.heap.size, 0, .slice eao (nd 4294967296 (mea)) eac) : Nat × Nat × Value) ∈ cs2) := by show _ ∈ _; rw [hcs]; exact (.tail _ (.tail _ (.tail _ (.tail _ (.head _)))))
    have HC2_qa : Hid (((w8.heap.size, 0, .slice qao (nd 4294967296 (mqa)) qac) : Nat × Nat × Value) ∈ cs2) := by show _ ∈ _; rw [hcs]; exact (.tail _ (.tail _ (.tail _ (.head _))))
    have HC2_ra : Hid (((w8.heap.size + 1, 0, .slice rao (nd 4294967296 (mra)) rac) : Nat × Nat × Value) ∈ cs2) := by show _ ∈ _; rw [hcs]; exact (.tail _ (.tail _ (.head _)))
    have HC2_ua : Hid (((w9.heap.size, 0, .slice uao (nd 4294967296 (mua)) uac) : Nat × Nat × Value) ∈ cs2) := by show _ ∈ _; rw [hcs]; exact (.tail _ (.head _))
    have HC2_va : Hid (((w10.heap.size, 0, .slice vao (nd 4294967296 (mva)) vac) : Nat × Nat × Value) ∈ cs2) := by show _ ∈ _; rw [hcs]; exact (.head _)
    have HC2_x : Hid (((w3.heap.size, 0, .slice xo (nd 4294967296 (a)) xc) : Nat × Nat × Value) ∈ cs2) := by show _ ∈ _; rw [hcs]; exact (.tail _ (.tail _ (.tail _ (.tail _ (.tail _ (.tail _ (.tail _ (.tail _ (.tail _ (HC1_x.out))))))))))
    have HC2_y : Hid (((w3.heap.size + 1, 0, .slice yo (nd 4294967296 (b)) yc) : Nat × Nat × Value) ∈ cs2) := by show _ ∈ _; rw [hcs]; exact (.tail _ (.tail _ (.tail _ (.tail _ (.tail _ (.tail _ (.tail _ (.tail _ (.tail _ (HC1_y.out))))))))))
    have HC2_l0 : Hid (((w4.heap.size, 0, .slice xo (nd 4294967296 (a)) xc) : Nat × Nat × Value) ∈ cs2) := by show _ ∈ _; rw [hcs]; exact (.tail _ (.tail _ (.tail _ (.tail _ (.tail _ (.tail _ (.tail _ (.tail _ (.head _)))))))))
    have HC2_l1 : Hid (((w4.heap.size, 1, .slice yo (nd 4294967296 (b)) yc) : Nat × Nat × Value) ∈ cs2) := by show _ ∈ _; rw [hcs]; exact (.tail _ (.tail _ (.tail _ (.tail _ (.tail _ (.tail _ (.tail _ (.head _))))))))
    have HM2_ca : Hid (((.slice cao (nd 4294967296 (mca)) cac, mca) : Value × Nat) ∈ ns2) := by show _ ∈ _; rw [hns]; exact (.tail _ (.tail _ (.tail _ (.tail _ (.tail _ (.tail _ (.head _)))))))
    have HM2_da : Hid (((.slice dao (nd 4294967296 (mda)) dac, mda) : Value × Nat) ∈ ns2) := by show _ ∈ _; rw [hns]; exact (.tail _ (.tail _ (.tail _ (.tail _ (.tail _ (.head _))))))
    have HM2_ea : Hid (((.slice eao (nd 4294967296 (mea)) eac, mea) : Value × Nat) ∈ ns2) := by show _ ∈ _; rw [hns]; exact (.tail _ (.tail _ (.tail _ (.tail _ (.head _)))))
    have HM2_qa : Hid (((.slice qao (nd 4294967296 (mqa)) qac, mqa) : Value × Nat) ∈ ns2) := by show _ ∈ _; rw [hns]; exact (.tail _ (.tail _ (.tail _ (.head _))))
    have HM2_ra : Hid (((.slice rao (nd 4294967296 (mra)) rac, mra) : Value × Nat) ∈ ns2) := by show _ ∈ _; rw [hns]; exact (.tail _ (.tail _ (.head _)))
    have HM2_ua : Hid (((.slice uao (nd 4294967296 (mua)) uac, mua) : Value × Nat) ∈ ns2) := by show _ ∈ _; rw [hns]; exact (.tail _ (.head _))
    have HM2_va : Hid (((.slice vao (nd 4294967296 (mva)) vac, mva) : Value × Nat) ∈ ns2) := by show _ ∈ _; rw [hns]; exact (.head _)
    have HM2_x : Hid (((.slice xo (nd 4294967296 (a)) xc, a) : Value × Nat) ∈ ns2) := by show _ ∈ _; rw [hns]; exact (.tail _ (.tail _ (.tail _ (.tail _ (.tail _ (.tail _ (.tail _ (HM1_x.out))))))))
    have HM2_y : Hid (((.slice yo (nd 4294967296 (b)) yc, b) : Value × Nat) ∈ ns2) := by show _ ∈ _; rw [hns]; exact (.tail _ (.tail _ (.tail _ (.tail _ (.tail _ (.tail _ (.tail _ (HM1_y.out))))))))
    have HCL2 : Hid (∀ W', Kq cs2 ns2 rs2 w W' → W'.cell? ⟨w5.heap.size, 0, none⟩ = some (.slice cao (nd 4294967296 (mca)) cac) ∧ W'.cell? ⟨w6.heap.size, 0, none⟩ = some (.slice dao (nd 4294967296 (mda)) dac) ∧ W'.cell? ⟨w7.heap.size, 0, none⟩ = some (.slice eao (nd 4294967296 (mea)) eac) ∧ W'.cell? ⟨w8.heap.size, 0, none⟩ = some (.slice qao (nd 4294967296 (mqa)) qac) ∧ W'.cell? ⟨w8.heap.size + 1, 0, none⟩ = some (.slice rao (nd 4294967296 (mra)) rac) ∧ W'.cell? ⟨w9.heap.size, 0, none⟩ = some (.slice uao (nd 4294967296 (mua)) uac) ∧ W'.cell? ⟨w10.heap.size, 0, none⟩ = some (.slice vao (nd 4294967296 (mva)) vac) ∧ W'.cell? ⟨w3.heap.size, 0, none⟩ = some (.slice xo (nd 4294967296 (a)) xc) ∧ W'.cell? ⟨w3.heap.size + 1, 0, none⟩ = some (.slice yo (nd 4294967296 (b)) yc) ∧ W'.cell? ⟨w4.heap.size, 0, none⟩ = some (.slice xo (nd 4294967296 (a)) xc) ∧ W'.cell? ⟨w4.heap.size, 1, none⟩ = some (.slice yo (nd 4294967296 (b)) yc)) := fun W' h => ⟨h.cell HC2_ca.out, h.cell HC2_da.out, h.cell HC2_ea.out, h.cell HC2_qa.out, h.cell HC2_ra.out, h.cell HC2_ua.out, h.cell HC2_va.out, h.cell HC2_x.out, h.cell HC2_y.out, h.cell HC2_l0.out, h.cell HC2_l1.out⟩
    have hs2 := hs.drew
    have hcl := HCL2.out _ hs2
    have hc0 := HCL2.out _ hs
    have HAK2 := Lib.hid (fun W' (h : Kq cs2 ns2 rs2 w W') => awake_Q h)
    clear hcs hns hrs HS11
    have HAL : Hid (∀ W' o, Kq cs2 ns2 rs2 w W' → ((W'.alloc o).cell? ⟨w5.heap.size, 0, none⟩ = some (.slice cao (nd 4294967296 (mca)) cac) ∧ (W'.alloc o).cell? ⟨w6.heap.size, 0, none⟩ = some (.slice dao (nd 4294967296 (mda)) dac) ∧ (W'.alloc o).cell? ⟨w7.heap.size, 0, none⟩ = some (.slice eao (nd 4294967296 (mea)) eac) ∧ (W'.alloc o).cell? ⟨w8.heap.size, 0, none⟩ = some (.slice qao (nd 4294967296 (mqa)) qac) ∧ (W'.alloc o).cell? ⟨w8.heap.size + 1, 0, none⟩ = some (.slice rao (nd 4294967296 (mra)) rac) ∧ (W'.alloc o).cell? ⟨w9.heap.size, 0, none⟩ = some (.slice uao (nd 4294967296 (mua)) uac) ∧ (W'.alloc o).cell? ⟨w10.heap.size, 0, none⟩ = some (.slice vao (nd 4294967296 (mva)) vac) ∧ (W'.alloc o).cell? ⟨w3.heap.size, 0, none⟩ = some (.slice xo (nd 4294967296 (a)) xc) ∧ (W'.alloc o).cell? ⟨w3.heap.size + 1, 0, none⟩ = some (.slice yo (nd 4294967296 (b)) yc) ∧ (W'.alloc o).cell? ⟨w4.heap.size, 0, none⟩ = some (.slice xo (nd 4294967296 (a)) xc) ∧ (W'.alloc o).cell? ⟨w4.heap.size, 1, none⟩ = some (.slice yo (nd 4294967296 (b)) yc)) ∧ Kq cs2 ns2 rs2 w (W'.alloc o)) := fun W' o h => ⟨HCL2.out _ (h.alloc o), h.alloc o⟩
    have HA2 : Hid (∀ W' o o2, Kq cs2 ns2 rs2 w W' → ((((W'.alloc o).alloc o2).drew).cell? ⟨w5.heap.size, 0, none⟩ = some (.slice cao (nd 4294967296 (mca)) cac) ∧ (((W'.alloc o).alloc o2).drew).cell? ⟨w6.heap.size, 0, none⟩ = some (.slice dao (nd 4294967296 (mda)) dac) ∧ (((W'.alloc o).alloc o2).drew).cell? ⟨w7.heap.size, 0, none⟩ = some (.slice eao (nd 4294967296 (mea)) eac) ∧ (((W'.alloc o).alloc o2).drew).cell? ⟨w8.heap.size, 0, none⟩ = some (.slice qao (nd 4294967296 (mqa)) qac) ∧ (((W'.alloc o).alloc o2).drew).cell? ⟨w8.heap.size + 1, 0, none⟩ = some (.slice rao (nd 4294967296 (mra)) rac) ∧ (((W'.alloc o).alloc o2).drew).cell? ⟨w9.heap.size, 0, none⟩ = some (.slice uao (nd 4294967296 (mua)) uac) ∧ (((W'.alloc o).alloc o2).drew).cell? ⟨w10.heap.size, 0, none⟩ = some (.slice vao (nd 4294967296 (mva)) vac) ∧ (((W'.alloc o).alloc o2).drew).cell? ⟨w3.heap.size, 0, none⟩ = some (.slice xo (nd 4294967296 (a)) xc) ∧ (((W'.alloc o).alloc o2).drew).cell? ⟨w3.heap.size + 1, 0, none⟩ = some (.slice yo (nd 4294967296 (b)) yc) ∧ (((W'.alloc o).alloc o2).drew).cell? ⟨w4.heap.size, 0, none⟩ = some (.slice xo (nd 4294967296 (a)) xc) ∧ (((W'.alloc o).alloc o2).drew).cell? ⟨w4.heap.size, 1, none⟩ = some (.slice yo (nd 4294967296 (b)) yc)) ∧ Kq cs2 ns2 rs2 w (((W'.alloc o).alloc o2).drew)) := fun W' o o2 h => ⟨HCL2.out _ ((h.alloc o).alloc o2).drew, ((h.alloc o).alloc o2).drew⟩
    have HSQ : Hid (∀ W', Kq cs2 ns2 rs2 w W' → Calls Tryd.prog 13 #[.agg #[.slice xo (nd 4294967296 (a)) xc]] W' fun e w' => ∃ o l c m, e = .returned (.agg #[.slice o l c]) ∧ D w' (.slice o l c) m ∧ nd 4294967296 m ≤ 300 ∧ Below W'.heap.size W' w' ∧ Kq cs2 ns2 rs2 w w') := fun W' h => (kSqrtR (a := a) (h.num _ (HM2_x.out)) (by omega)).mono fun e w' ⟨o, l, c, m, he, hr, hm, hB⟩ => ⟨o, l, c, m, he, hr, hm, hB, h.next hB⟩
    have HGC : Hid (∀ W', Kq cs2 ns2 rs2 w W' → Calls Tryd.prog 14 #[.agg #[.slice xo (nd 4294967296 (a)) xc], .agg #[.slice yo (nd 4294967296 (b)) yc]] W' fun e w' => ∃ o l c m, e = .returned (.agg #[.slice o l c]) ∧ D w' (.slice o l c) m ∧ nd 4294967296 m ≤ 300 ∧ Below W'.heap.size W' w' ∧ Kq cs2 ns2 rs2 w w') := fun W' h => (kGcdR (a := a) (b := b) (h.num _ (HM2_x.out)) (h.num _ (HM2_y.out)) (by omega) (by omega)).mono fun e w' ⟨o, l, c, m, he, hr, hm, hB⟩ => ⟨o, l, c, m, he, hr, hm, hB, h.next hB⟩
    go_upto_region 10 with fail
    go_cut [12] from 34 to 103 (fun s12 wx => ∃ B cap, s12 = .slice (some ⟨B, 0, none⟩) 11 cap ∧ Hid (∃ o m c, Lw w B w3.heap.size (w3.heap.size + 1) xo yo xc yc a b o m c wx))
    case first =>
      go_region_held3 (fun W' : World => (W'.cell? ⟨w5.heap.size, 0, none⟩ = some (.slice cao (nd 4294967296 (mca)) cac) ∧ W'.cell? ⟨w6.heap.size, 0, none⟩ = some (.slice dao (nd 4294967296 (mda)) dac) ∧ W'.cell? ⟨w7.heap.size, 0, none⟩ = some (.slice eao (nd 4294967296 (mea)) eac) ∧ W'.cell? ⟨w8.heap.size, 0, none⟩ = some (.slice qao (nd 4294967296 (mqa)) qac) ∧ W'.cell? ⟨w8.heap.size + 1, 0, none⟩ = some (.slice rao (nd 4294967296 (mra)) rac) ∧ W'.cell? ⟨w9.heap.size, 0, none⟩ = some (.slice uao (nd 4294967296 (mua)) uac) ∧ W'.cell? ⟨w10.heap.size, 0, none⟩ = some (.slice vao (nd 4294967296 (mva)) vac) ∧ W'.cell? ⟨w3.heap.size, 0, none⟩ = some (.slice xo (nd 4294967296 (a)) xc) ∧ W'.cell? ⟨w3.heap.size + 1, 0, none⟩ = some (.slice yo (nd 4294967296 (b)) yc) ∧ W'.cell? ⟨w4.heap.size, 0, none⟩ = some (.slice xo (nd 4294967296 (a)) xc) ∧ W'.cell? ⟨w4.heap.size, 1, none⟩ = some (.slice yo (nd 4294967296 (b)) yc)) ∧ Kq cs2 ns2 rs2 w W') (first | (refine And.intro ?_ ?_ <;> assumption) | (with_reducible exact HAL.out _ _ (by assumption)) | (with_reducible exact HA2.out _ _ _ (by assumption)) | fail) (first
        | (go_at_call 13; with_reducible refine (HSQ.out _ ?h).mono ?_; (case h => assumption); rintro e w' ⟨so, sl, sc, ms, rfl, hsq, bsq, hB', hs'⟩; have hc' := HCL2.out _ hs')
        | (go_at_call 14; with_reducible refine (HGC.out _ ?h).mono ?_; (case h => assumption); rintro e w' ⟨go, gl, gc, mg, rfl, hgc, bgc, hB', hs'⟩; have hc' := HCL2.out _ hs'; have hsq' := hsq.below hB') | fail)
      all_goals
        go_wp2_with fail
        go_meet
        case rel =>
          refine ⟨_, _, rfl, Lw.intro hs' _ _ _ (HC2_x.out) (HC2_y.out) (HM2_x.out) (HM2_y.out) ?_⟩
          intro k hk
          have h11 : k = 0 ∨ k = 1 ∨ k = 2 ∨ k = 3 ∨ k = 4 ∨ k = 5 ∨ k = 6 ∨ k = 7 ∨ k = 8 ∨ k = 9 ∨ k = 10 := by omega
          rcases h11 with rfl | rfl | rfl | rfl | rfl | rfl | rfl | rfl | rfl | rfl | rfl
          · exact ⟨(.slice xo (nd 4294967296 a) xc), a, by simp [Array.getElem?_append], (hs'.num _ (HM2_x.out)), by omega⟩
          · exact ⟨(.slice yo (nd 4294967296 b) yc), b, by simp [Array.getElem?_append], (hs'.num _ (HM2_y.out)), by omega⟩
          · exact ⟨(.slice cao (nd 4294967296 (mca)) cac), mca, by simp [Array.getElem?_append], (hs'.num _ (HM2_ca.out)), by omega⟩
          · exact ⟨(.slice dao (nd 4294967296 (mda)) dac), mda, by simp [Array.getElem?_append], (hs'.num _ (HM2_da.out)), by omega⟩
          · exact ⟨(.slice eao (nd 4294967296 (mea)) eac), mea, by simp [Array.getElem?_append], (hs'.num _ (HM2_ea.out)), by omega⟩
          · exact ⟨(.slice qao (nd 4294967296 (mqa)) qac), mqa, by simp [Array.getElem?_append], (hs'.num _ (HM2_qa.out)), by omega⟩
          · exact ⟨(.slice rao (nd 4294967296 (mra)) rac), mra, by simp [Array.getElem?_append], (hs'.num _ (HM2_ra.out)), by omega⟩
          · exact ⟨(.slice uao (nd 4294967296 (mua)) uac), mua, by simp [Array.getElem?_append], (hs'.num _ (HM2_ua.out)), by omega⟩
          · exact ⟨(.slice vao (nd 4294967296 (mva)) vac), mva, by simp [Array.getElem?_append], (hs'.num _ (HM2_va.out)), by omega⟩
          · exact ⟨(.slice so sl sc), ms, by simp [Array.getElem?_append], hsq', by omega⟩
          · exact ⟨(.slice go gl gc), mg, by simp [Array.getElem?_append], hgc, by omega⟩
    case rest =>
      obtain ⟨B, cap, rfl, hl⟩ := hcut
      obtain ⟨o, m, c, hl⟩ := hl.out
      obtain ⟨tx, hst⟩ : ∃ tx : Nat → ByteArray, ∀ k W', k < 11 → Lw w B w3.heap.size (w3.heap.size + 1) xo yo xc yc a b o m c W' → Calls Tryd.prog 6 #[.agg #[.slice (o k) (nd 4294967296 (m k)) (c k)]] W' fun e w' => e = .returned (.string (tx k)) ∧ Below W'.heap.size W' w' :=
        ⟨fun k => ⟨(Lib.decDigits (m k)).toArray⟩, fun k W' hk h => String_any _ _ _ (h.num k hk) (by have := h.small k hk; omega) h.env⟩
      have HTX := Lib.hid hst
      have HL := Lib.hid hl
      have HBW := Lib.hid hl.lt
      obtain ⟨i0, hi, hz0, hz1, hz2⟩ := info_parts Tryd.infoStr
      clear hl hst HCL2 HAL HA2 HSQ HGC HAK2 hs hs2 hcl hc0 HSX HSY HAK1 HCL1
      go_wp2_with fail
      go_loopg [26, 106] 11 (fun n tv x wr => ∃ k, Hid (n + k = 11) ∧ x = .int .i64 k ∧ Hid (wr.ownsRow wc.heap.size 9 1 tv k ((List.range k).map fun j => Value.string (tx j))) ∧ Hid (Below wc.heap.size wc wr))
      case atStart => exact ⟨0, rfl, rfl, World.ownsRow_nil _ _ _ _, Below.refl _ _⟩
      case round =>
        obtain ⟨k, HKK, rfl, HOW, HB⟩ := hrel
        by_cases hlt : k < 11
        · have h1 : (k : Int) < 11 := by omega
          have HLR := Lib.hid (HL.out.next HB.out)
          have hcell := HLR.out.cell k hlt
          have HK := Lib.hid hlt
          go_wp2_with fail
          refine (HTX.out k _ hlt (HLR.out.alloc _)).mono ?_
          rintro e w5 ⟨rfl, hb⟩
          have how := ownsRow_below (HOW.out.alloc (.cells #[.slice (o k) (nd 4294967296 (m k)) (c k)] 26)) hb
          have HB5 := Lib.hid ((HB.out.alloc HB.out.size (.cells #[.slice (o k) (nd 4294967296 (m k)) (c k)] 26)).trans (hb.mono (by rw [World.size_alloc]; exact Nat.le_succ_of_le HB.out.size)))
          have HPS : Hid (((List.range (k + 1)).map fun j => Value.string (tx j)) = ((List.range k).map fun j => Value.string (tx j)) ++ [Value.string (tx k)]) := by
            show _ = _
            rw [List.range_succ, List.map_append]
            rfl
          have HLT := Lib.hid how.lt
          have hsz5 := HB5.out.size
          generalize ((List.range k).map fun j => Value.string (tx j)) = tl at *
          clear hb hcell HLR HOW
          go_wp2_with (at_builtin; refine wpList_append_own _ rfl _ _ 41 rfl wc.heap.size 9 i0 (.string ⟨#[]⟩) 1 16 Tryd.underlying41 hi hz0 hz1 hz2 rfl (by decide) _ _ _ rfl (how.alloc _) ⟨w5.heap.size, 0, none⟩ 1 1 [.string (tx k)] rfl rfl ?c1 ?c2 ?c3 ?c4 ?c5 ?_)
          case c1 => exact cell_one_new _ _ _
          case c2 => intro u hu; simp at hu; subst hu; rfl
          case c3 => unfold maxLen; omega
          case c4 => omega
          case c5 => simp; omega
          intro v' w6 hown6 hgrow hnil
          have HF1 : Hid (w6.ownsRow wc.heap.size 9 1 v' (k + 1) ((List.range (k + 1)).map fun j => Value.string (tx j))) := by
            show World.ownsRow _ _ _ _ _ _ _
            rw [HPS.out]
            exact hown6
          have HF2 : Hid (Below wc.heap.size wc w6) := Below.grown (HB5.out.alloc hsz5 _) hgrow (by simp; omega) (fun j hj => (HLT.out _ hj).1)
          clear hown6 hgrow hnil how
          go_wp2
          go_roundg (11 - (k + 1))
          case measure => have := HKK.out; omega
          case rel => exact ⟨k + 1, by show _ = _; omega, by go_num, HF1, HF2⟩
        · obtain rfl : k = 11 := by have := HKK.out; omega
          have how := HOW.out
          obtain ⟨hlen, hrow⟩ := id how
          rcases hrow with ⟨_, h⟩ | ⟨g, capt, cur, rfl, -⟩
          · exact absurd h (by decide)
          have hgl := (how.lt g rfl).2
          have htc : Hid (∀ j, j < 11 → wr.cell? ⟨g, j, none⟩ = some (.string (tx j))) := fun j hj => by
            rw [how.cellAt j (by omega), List.getElem?_map, List.getElem?_range hj]
            rfl
          have HGL := Lib.hid hgl
          have HLR := Lib.hid (HL.out.next HB.out)
          obtain ⟨wt, rfl⟩ : ∃ wt : World, wt = wr := ⟨_, rfl⟩
          clear how hlen hgl HOW
          clear HB HL HKK hz0 hz1 hz2 hi hi1 hi2 hq5
          go_wp2_with fail
          go_loopg [29] 10 (fun n x wr => ∃ k, Hid (n + k = 10) ∧ x = .int .i64 k ∧ Hid (Below wt.heap.size wt wr))
          case atStart => exact ⟨0, rfl, rfl, Below.refl _ _⟩
          case round =>
            obtain ⟨k, HKK, rfl, HB⟩ := hrel
            have hk11 : k ≤ 10 := by have := HKK.out; omega
            by_cases hlt : k < 10
            · have h1 : (k : Int) + 1 < 11 := by omega
              have h2 : (k : Int) < 11 := by omega
              have h3 : (0 : Int) ≤ (k : Int) := by omega
              have h4 : (0 : Int) ≤ (k : Int) + 1 := by omega
              have h5 : IntKind.i64.wrap ((k : Int) + 1) = (k : Int) + 1 := IntWalk.i64_in _ (by omega)
              have h6 : ((k : Int) + 1).toNat = k + 1 := by omega
              have HCL2 : Hid (∀ W', Below wt.heap.size wt W' → W'.cell? ⟨B, k, none⟩ = some (.slice (o k) (nd 4294967296 (m k)) (c k)) ∧ W'.cell? ⟨B, k + 1, none⟩ = some (.slice (o (k + 1)) (nd 4294967296 (m (k + 1))) (c (k + 1)))) := fun W' h => ⟨(HLR.out.next h).cell k (by omega), (HLR.out.next h).cell (k + 1) (by omega)⟩
              have HAD : Hid (∀ W', Below wt.heap.size wt W' → Calls Tryd.prog 7 #[.agg #[(.slice (o k) (nd 4294967296 (m k)) (c k))], .agg #[(.slice (o (k + 1)) (nd 4294967296 (m (k + 1))) (c (k + 1)))]] W' fun e w' => (∃ v, e = .returned v) ∧ Below wt.heap.size wt w') := fun W' h => (kAdd (a := m k) (b := m (k + 1)) ((HLR.out.next h).num k (by omega)) ((HLR.out.next h).num (k + 1) (by omega)) (by have := HLR.out.small k (by omega); omega) (by have := HLR.out.small (k + 1) (by omega); omega)).mono fun e w' ⟨he, hB⟩ => ⟨he, h.trans (hB.mono h.size)⟩
              have HSB : Hid (∀ W', Below wt.heap.size wt W' → Calls Tryd.prog 9 #[.agg #[(.slice (o k) (nd 4294967296 (m k)) (c k))], .agg #[(.slice (o (k + 1)) (nd 4294967296 (m (k + 1))) (c (k + 1)))]] W' fun e w' => (∃ v, e = .returned v) ∧ Below wt.heap.size wt w') := fun W' h => (kSub (a := m k) (b := m (k + 1)) ((HLR.out.next h).num k (by omega)) ((HLR.out.next h).num (k + 1) (by omega)) (by have := HLR.out.small k (by omega); omega) (by have := HLR.out.small (k + 1) (by omega); omega)).mono fun e w' ⟨he, hB⟩ => ⟨he, h.trans (hB.mono h.size)⟩
              have HSR : Hid (∀ W', Below wt.heap.size wt W' → Calls Tryd.prog 9 #[.agg #[(.slice (o (k + 1)) (nd 4294967296 (m (k + 1))) (c (k + 1)))], .agg #[(.slice (o k) (nd 4294967296 (m k)) (c k))]] W' fun e w' => (∃ v, e = .returned v) ∧ Below wt.heap.size wt w') := fun W' h => (kSub (a := m (k + 1)) (b := m k) ((HLR.out.next h).num (k + 1) (by omega)) ((HLR.out.next h).num k (by omega)) (by have := HLR.out.small (k + 1) (by omega); omega) (by have := HLR.out.small k (by omega); omega)).mono fun e w' ⟨he, hB⟩ => ⟨he, h.trans (hB.mono h.size)⟩
              have HMU : Hid (∀ W', Below wt.heap.size wt W' → Calls Tryd.prog 8 #[.agg #[(.slice (o k) (nd 4294967296 (m k)) (c k))], .agg #[(.slice (o (k + 1)) (nd 4294967296 (m (k + 1))) (c (k + 1)))]] W' fun e w' => (∃ v, e = .returned v) ∧ Below wt.heap.size wt w') := fun W' h => (kMul (a := m k) (b := m (k + 1)) ((HLR.out.next h).num k (by omega)) ((HLR.out.next h).num (k + 1) (by omega)) (by have := HLR.out.small k (by omega); omega) (by have := HLR.out.small (k + 1) (by omega); omega)).mono fun e w' ⟨he, hB⟩ => ⟨he, h.trans (hB.mono h.size)⟩
              have HDM : Hid (∀ W', Below wt.heap.size wt W' → Calls Tryd.prog 10 #[.agg #[(.slice (o k) (nd 4294967296 (m k)) (c k))], .agg #[(.slice (o (k + 1)) (nd 4294967296 (m (k + 1))) (c (k + 1)))]] W' fun e w' => (∃ v, e = .returned v) ∧ Below wt.heap.size wt w') := fun W' h => (kDivMod (a := m k) (b := m (k + 1)) ((HLR.out.next h).num k (by omega)) ((HLR.out.next h).num (k + 1) (by omega)) (by have := HLR.out.small k (by omega); omega) (by have := HLR.out.small (k + 1) (by omega); omega)).mono fun e w' ⟨he, hB⟩ => ⟨he, h.trans (hB.mono h.size)⟩
              have HGD : Hid (∀ W', Below wt.heap.size wt W' → Calls Tryd.prog 14 #[.agg #[(.slice (o k) (nd 4294967296 (m k)) (c k))], .agg #[(.slice (o (k + 1)) (nd 4294967296 (m (k + 1))) (c (k + 1)))]] W' fun e w' => (∃ v, e = .returned v) ∧ Below wt.heap.size wt w') := fun W' h => (kGcd (a := m k) (b := m (k + 1)) ((HLR.out.next h).num k (by omega)) ((HLR.out.next h).num (k + 1) (by omega)) (by have := HLR.out.small k (by omega); omega) (by have := HLR.out.small (k + 1) (by omega); omega)).mono fun e w' ⟨he, hB⟩ => ⟨he, h.trans (hB.mono h.size)⟩
              have hs := HB.out
              have hs2 := hs.drew
              have hcl := HCL2.out _ hs2
              have hc0 := HCL2.out _ hs
              go_wp2_with fail
              go_region_held3 (fun W' : World => (W'.cell? ⟨B, k, none⟩ = some (.slice (o k) (nd 4294967296 (m k)) (c k)) ∧ W'.cell? ⟨B, k + 1, none⟩ = some (.slice (o (k + 1)) (nd 4294967296 (m (k + 1))) (c (k + 1)))) ∧ Below wt.heap.size wt W') (first | (refine And.intro ?_ ?_ <;> assumption) | fail) (first
                | (go_at_call 7; with_reducible refine (HAD.out _ ?h).mono ?_; (case h => assumption); rintro e w' ⟨⟨v, rfl⟩, hs'⟩; have hc' := HCL2.out _ hs') | fail)
              all_goals
                clear hs hs2 hcl hc0
                have hs : Below wt.heap.size wt w' := by assumption
                obtain ⟨w21, rfl⟩ : ∃ w21 : World, w21 = w' := ⟨_, rfl⟩
                have hs2 := hs.drew
                have hcl := HCL2.out _ hs2
                have hc0 := HCL2.out _ hs
                go_wp2_with fail
                go_region_held3 (fun W' : World => (W'.cell? ⟨B, k, none⟩ = some (.slice (o k) (nd 4294967296 (m k)) (c k)) ∧ W'.cell? ⟨B, k + 1, none⟩ = some (.slice (o (k + 1)) (nd 4294967296 (m (k + 1))) (c (k + 1)))) ∧ Below wt.heap.size wt W') (first | (refine And.intro ?_ ?_ <;> assumption) | fail) (first
                  | (go_at_call 9; with_reducible refine (HSB.out _ ?h).mono ?_; (case h => assumption); rintro e w' ⟨⟨v, rfl⟩, hs'⟩; have hc' := HCL2.out _ hs') | fail)
                all_goals
                  clear hs hs2 hcl hc0
                  have hs : Below wt.heap.size wt w' := by assumption
                  obtain ⟨w22, rfl⟩ : ∃ w22 : World, w22 = w' := ⟨_, rfl⟩
                  have hs2 := hs.drew
                  have hcl := HCL2.out _ hs2
                  have hc0 := HCL2.out _ hs
                  go_wp2_with fail
                  go_region_held3 (fun W' : World => (W'.cell? ⟨B, k, none⟩ = some (.slice (o k) (nd 4294967296 (m k)) (c k)) ∧ W'.cell? ⟨B, k + 1, none⟩ = some (.slice (o (k + 1)) (nd 4294967296 (m (k + 1))) (c (k + 1)))) ∧ Below wt.heap.size wt W') (first | (refine And.intro ?_ ?_ <;> assumption) | fail) (first
                    | (go_at_call 9; with_reducible refine (HSR.out _ ?h).mono ?_; (case h => assumption); rintro e w' ⟨⟨v, rfl⟩, hs'⟩; have hc' := HCL2.out _ hs') | fail)
                  all_goals
                    clear hs hs2 hcl hc0
                    have hs : Below wt.heap.size wt w' := by assumption
                    obtain ⟨w23, rfl⟩ : ∃ w23 : World, w23 = w' := ⟨_, rfl⟩
                    have hs2 := hs.drew
                    have hcl := HCL2.out _ hs2
                    have hc0 := HCL2.out _ hs
                    go_wp2_with fail
                    go_region_held3 (fun W' : World => (W'.cell? ⟨B, k, none⟩ = some (.slice (o k) (nd 4294967296 (m k)) (c k)) ∧ W'.cell? ⟨B, k + 1, none⟩ = some (.slice (o (k + 1)) (nd 4294967296 (m (k + 1))) (c (k + 1)))) ∧ Below wt.heap.size wt W') (first | (refine And.intro ?_ ?_ <;> assumption) | fail) (first
                      | (go_at_call 8; with_reducible refine (HMU.out _ ?h).mono ?_; (case h => assumption); rintro e w' ⟨⟨v, rfl⟩, hs'⟩; have hc' := HCL2.out _ hs') | fail)
                    all_goals
                      clear hs hs2 hcl hc0
                      have hs : Below wt.heap.size wt w' := by assumption
                      obtain ⟨w24, rfl⟩ : ∃ w24 : World, w24 = w' := ⟨_, rfl⟩
                      have hs2 := hs.drew
                      have hcl := HCL2.out _ hs2
                      have hc0 := HCL2.out _ hs
                      go_wp2_with fail
                      go_region_held3 (fun W' : World => (W'.cell? ⟨B, k, none⟩ = some (.slice (o k) (nd 4294967296 (m k)) (c k)) ∧ W'.cell? ⟨B, k + 1, none⟩ = some (.slice (o (k + 1)) (nd 4294967296 (m (k + 1))) (c (k + 1)))) ∧ Below wt.heap.size wt W') (first | (refine And.intro ?_ ?_ <;> assumption) | fail) (first
                        | (go_at_call 10; with_reducible refine (HDM.out _ ?h).mono ?_; (case h => assumption); rintro e w' ⟨⟨v, rfl⟩, hs'⟩; have hc' := HCL2.out _ hs') | fail)
                      all_goals
                        clear hs hs2 hcl hc0
                        have hs : Below wt.heap.size wt w' := by assumption
                        obtain ⟨w25, rfl⟩ : ∃ w25 : World, w25 = w' := ⟨_, rfl⟩
                        have hc0 := HCL2.out _ hs
                        go_wp2_with fail
                        refine (kLsh (a := m k) ((HLR.out.next hs).num k (by omega)) (by have := HLR.out.small k (by omega); omega) (n := k) (by omega)).mono ?_
                        rintro e w26 ⟨⟨v, rfl⟩, hb⟩
                        have hs2 := hs.trans (hb.mono hs.size)
                        clear hs hb hc0
                        have hs := hs2
                        clear hs2
                        have hc0 := HCL2.out _ hs
                        go_wp2_with fail
                        refine (kRsh (a := m k) ((HLR.out.next hs).num k (by omega)) (by have := HLR.out.small k (by omega); omega) (n := k) (by omega)).mono ?_
                        rintro e w27 ⟨⟨v, rfl⟩, hb⟩
                        have hs2 := hs.trans (hb.mono hs.size)
                        clear hs hb hc0
                        have hs := hs2
                        clear hs2
                        have hs2 := hs.drew
                        have hcl := HCL2.out _ hs2
                        have hc0 := HCL2.out _ hs
                        go_wp2_with fail
                        go_region_held3 (fun W' : World => (W'.cell? ⟨B, k, none⟩ = some (.slice (o k) (nd 4294967296 (m k)) (c k)) ∧ W'.cell? ⟨B, k + 1, none⟩ = some (.slice (o (k + 1)) (nd 4294967296 (m (k + 1))) (c (k + 1)))) ∧ Below wt.heap.size wt W') (first | (refine And.intro ?_ ?_ <;> assumption) | fail) (first
                          | (go_at_call 14; with_reducible refine (HGD.out _ ?h).mono ?_; (case h => assumption); rintro e w' ⟨⟨v, rfl⟩, hs'⟩; have hc' := HCL2.out _ hs') | fail)
                        all_goals
                          clear hs hs2 hcl hc0
                          have hs : Below wt.heap.size wt w' := by assumption
                          obtain ⟨w28, rfl⟩ : ∃ w28 : World, w28 = w' := ⟨_, rfl⟩
                          go_upto_region 28 with fail
                          go_cut [30] from 116 to 219 (fun s30 wx => ∃ X q1 q2 q3 q4 q5 q6, s30 = .pointer (some ⟨X, 0, none⟩) ∧ Hid (Got wt X (.slice q1 q2 q3) (.slice q4 q5 q6) wx))
                          case first =>
                            have hs2 := hs.drew
                            have hcl := HCL2.out _ hs2
                            have hc0 := HCL2.out _ hs
                            have HALD : Hid (∀ W' ob, Below wt.heap.size wt W' → ((W'.alloc ob).drew.cell? ⟨B, k, none⟩ = some (.slice (o k) (nd 4294967296 (m k)) (c k)) ∧ (W'.alloc ob).drew.cell? ⟨B, k + 1, none⟩ = some (.slice (o (k + 1)) (nd 4294967296 (m (k + 1))) (c (k + 1)))) ∧ Below wt.heap.size wt (W'.alloc ob).drew) := fun W' ob h => ⟨HCL2.out _ (bUp h _).drew, (bUp h _).drew⟩
                            have HAL : Hid (∀ W' ob, Below wt.heap.size wt W' → ((W'.alloc ob).cell? ⟨B, k, none⟩ = some (.slice (o k) (nd 4294967296 (m k)) (c k)) ∧ (W'.alloc ob).cell? ⟨B, k + 1, none⟩ = some (.slice (o (k + 1)) (nd 4294967296 (m (k + 1))) (c (k + 1)))) ∧ Below wt.heap.size wt (W'.alloc ob)) := fun W' ob h => ⟨HCL2.out _ (bUp h _), bUp h _⟩
                            have HW28 : Hid (wt.heap.size ≤ w28.heap.size) := hs.size
                            have HST : Hid (∀ W' X a b, Below wt.heap.size wt W' → wt.heap.size ≤ X → (((W'.setCell ⟨X, 0, none⟩ a).setCell ⟨X, 1, none⟩ b).cell? ⟨B, k, none⟩ = some (.slice (o k) (nd 4294967296 (m k)) (c k)) ∧ ((W'.setCell ⟨X, 0, none⟩ a).setCell ⟨X, 1, none⟩ b).cell? ⟨B, k + 1, none⟩ = some (.slice (o (k + 1)) (nd 4294967296 (m (k + 1))) (c (k + 1)))) ∧ Below wt.heap.size wt ((W'.setCell ⟨X, 0, none⟩ a).setCell ⟨X, 1, none⟩ b)) := fun W' X a b h hX => have h2 := (h.setCell hX a).setCell hX b; ⟨HCL2.out _ h2, h2⟩
                            have HNF : Hid (∀ W', Below wt.heap.size wt W' → Calls Tryd.prog 15 #[.agg #[(.slice (o k) (nd 4294967296 (m k)) (c k))], .agg #[(.slice (o (k + 1)) (nd 4294967296 (m (k + 1))) (c (k + 1)))]] W' fun e w' => ∃ q1 q2 q3 q4 q5 q6 q7, e = .returned (.tuple #[.agg #[.slice q1 q2 q3, .slice q4 q5 q6], .int .i64 q7]) ∧ FracOK w' (.slice q1 q2 q3) (.slice q4 q5 q6) ∧ Below W'.heap.size W' w' ∧ Below wt.heap.size wt w') := fun W' h => (kFracR (a := m k) (b := m (k + 1)) (divide_long 300 (by decide)) (Nat.le_refl _) ((HLR.out.next h).num k (by omega)) ((HLR.out.next h).num (k + 1) (by omega)) (by have := HLR.out.small k (by omega); omega) (by have := HLR.out.small (k + 1) (by omega); omega)).mono fun e w' ⟨q1, q2, q3, q4, q5, q6, q7, he, hf, hB⟩ => ⟨q1, q2, q3, q4, q5, q6, q7, he, hf, hB, h.trans (hB.mono h.size)⟩
                            go_region_held3 (fun W' : World => (W'.cell? ⟨B, k, none⟩ = some (.slice (o k) (nd 4294967296 (m k)) (c k)) ∧ W'.cell? ⟨B, k + 1, none⟩ = some (.slice (o (k + 1)) (nd 4294967296 (m (k + 1))) (c (k + 1)))) ∧ Below wt.heap.size wt W') (first | (refine And.intro ?_ ?_ <;> assumption) | (with_reducible exact HAL.out _ _ (by assumption)) | (with_reducible exact HALD.out _ _ (by assumption)) | (with_reducible exact HST.out _ _ _ _ (by assumption) HW28.out) | fail) (first
                              | (go_at_call 15; with_reducible refine (HNF.out _ ?h).mono ?_; (case h => (first | assumption | exact bUp (by assumption) _ | exact (bUp (by assumption) _).drew | fail)); rintro e w' ⟨q1, q2, q3, q4, q5, q6, q7, rfl, hfr, hB', hs'⟩; have hc' := HCL2.out _ hs'; (first | (have zA := Zc.next (Zc.top (by assumption) _) hB') | (have zA := Zc.next (Zc.drew (Zc.top (by assumption) _)) hB') | skip); (first | (have z0 := zA.c0; have z1 := zA.c1; have z2 := zA.f0; have z3 := zA.f1) | skip)) | fail)
                            all_goals
                              go_wp2_with fail
                              go_meet
                              case rel => exact ⟨_, _, _, _, _, _, _, rfl, by first | exact Got.one (by assumption) (by assumption) (by assumption) | exact Got.two (by assumption) (by assumption) _ | exact (Got.two (by assumption) (by assumption) _).drew | exact (Got.one (by assumption) (by assumption) (by assumption)).drew | fail⟩
                          case rest =>
                            obtain ⟨X, q1, q2, q3, q4, q5, q6, rfl, HG⟩ := hcut
                            have HCL3 : Hid (∀ W', Got wt X (.slice q1 q2 q3) (.slice q4 q5 q6) W' → W'.cell? ⟨X, 0, none⟩ = some (.slice q1 q2 q3) ∧ W'.cell? ⟨X, 1, none⟩ = some (.slice q4 q5 q6) ∧ W'.cell? ⟨B, k, none⟩ = some (.slice (o k) (nd 4294967296 (m k)) (c k))) := fun W' h => ⟨h.c0, h.c1, (HLR.out.next h.bel).cell k (by omega)⟩
                            have HNU : Hid (∀ W', Got wt X (.slice q1 q2 q3) (.slice q4 q5 q6) W' → Calls Tryd.prog 16 #[.agg #[.slice q1 q2 q3, .slice q4 q5 q6]] W' fun e w' => ∃ n1 n2 n3, e = .returned (.agg #[.slice n1 n2 n3]) ∧ Hid (∃ mm, D w' (.slice n1 n2 n3) mm ∧ nd 4294967296 mm ≤ 300) ∧ Got wt X (.slice q1 q2 q3) (.slice q4 q5 q6) w') := fun W' h => (kNum h.fr).mono fun e w' ⟨n1, n2, n3, mm, he, h1, h2, hB⟩ => ⟨n1, n2, n3, he, ⟨mm, h1, h2⟩, h.next hB⟩
                            have HAX : Hid (∀ W' x, Got wt X (.slice q1 q2 q3) (.slice q4 q5 q6) W' → Hid (∃ mm, D W' x mm ∧ nd 4294967296 mm ≤ 300) → Calls Tryd.prog 7 #[.agg #[x], .agg #[(.slice (o k) (nd 4294967296 (m k)) (c k))]] W' fun e w' => (∃ v, e = .returned v) ∧ Got wt X (.slice q1 q2 q3) (.slice q4 q5 q6) w') := fun W' x h ⟨mm, h1, h2⟩ => (kAdd (b := m k) h1 ((HLR.out.next h.bel).num k (by omega)) (by omega) (by have := HLR.out.small k (by omega); omega)).mono fun e w' ⟨he, hB⟩ => ⟨he, h.next hB⟩
                            have hg := HG.out
                            have hg2 := hg.drew
                            have hcl := HCL3.out _ hg2
                            have hc0 := HCL3.out _ hg
                            clear hs
                            go_wp2_with fail
                            go_region_held3 (fun W' : World => (W'.cell? ⟨X, 0, none⟩ = some (.slice q1 q2 q3) ∧ W'.cell? ⟨X, 1, none⟩ = some (.slice q4 q5 q6) ∧ W'.cell? ⟨B, k, none⟩ = some (.slice (o k) (nd 4294967296 (m k)) (c k))) ∧ Got wt X (.slice q1 q2 q3) (.slice q4 q5 q6) W') (first | (refine And.intro ?_ ?_ <;> assumption) | fail) (first
                              | (go_at_call 16; with_reducible refine (HNU.out _ ?h).mono ?_; (case h => assumption); rintro e w' ⟨n1, n2, n3, rfl, hnn, hs'⟩; have hc' := HCL3.out _ hs')
                              | (go_at_call 7; with_reducible refine (HAX.out _ _ ?h ?r).mono ?_; (case h => assumption); (case r => assumption); rintro e w' ⟨⟨v, rfl⟩, hs'⟩; have hc' := HCL3.out _ hs') | fail)
                            all_goals
                              clear hg hg2 hcl hc0
                              have hg : Got wt X (.slice q1 q2 q3) (.slice q4 q5 q6) w' := by assumption
                              obtain ⟨w30, rfl⟩ : ∃ w30 : World, w30 = w' := ⟨_, rfl⟩
                              have d0 := hg.c0
                              have d1 := hg.c1
                              go_wp2_with fail
                              refine (kFAdd hg.fr).mono ?_
                              rintro e w31 ⟨⟨v, rfl⟩, hb⟩
                              have hg2 := hg.next hb
                              have e0 := hg2.c0
                              have e1 := hg2.c1
                              clear d0 d1 hg hb
                              go_wp2_with fail
                              refine (kBest hg2.fr).mono ?_
                              rintro e w32 ⟨⟨v, rfl⟩, hb⟩
                              have HBF := Lib.hid (hg2.next hb).bel
                              clear e0 e1 hg2 hb
                              go_wp2
                              go_roundg (10 - (k + 1))
                              case measure => have := HKK.out; omega
                              case rel => exact ⟨k + 1, by show _ = _; omega, by go_num, HBF⟩
            · obtain rfl : k = 10 := by omega
              have HLZ := Lib.hid (HLR.out.next HB.out)
              have HTC : Hid (∀ j, j < 11 → wr.cell? ⟨g, j, none⟩ = some (.string (tx j))) := fun j hj => (HB.out.cell (p := ⟨g, j, none⟩) HGL.out).trans (htc.out j hj)
              have HGZ : Hid (g < wr.heap.size) := Nat.lt_of_lt_of_le HGL.out HB.out.size
              obtain ⟨wz, rfl⟩ : ∃ wz : World, wz = wr := ⟨_, rfl⟩
              clear HB HLR htc HGL HKK hk11
              go_wp2_with fail
              go_loopg [222] 11 (fun n x wr => ∃ k, Hid (n + k = 11) ∧ x = .int .i64 k ∧ Hid (Below wz.heap.size wz wr))
              case atStart => exact ⟨0, rfl, rfl, Below.refl _ _⟩
              case round =>
                obtain ⟨k, HKK, rfl, HB⟩ := hrel
                have hk11 : k ≤ 11 := by have := HKK.out; omega
                by_cases hlt : k < 11
                · have h1 : (k : Int) < 11 := by omega
                  have h3 : (0 : Int) ≤ (k : Int) := by omega
                  have HLK := Lib.hid (HLZ.out.next HB.out)
                  have hcell := HLK.out.cell k hlt
                  have HCL5 : Hid (∀ W', Below (wr.alloc (.cells #[(.slice (o k) (nd 4294967296 (m k)) (c k))] 26)).heap.size (wr.alloc (.cells #[(.slice (o k) (nd 4294967296 (m k)) (c k))] 26)) W' → W'.cell? ⟨wr.heap.size, 0, none⟩ = some (.slice (o k) (nd 4294967296 (m k)) (c k)) ∧ W'.cell? ⟨g, k, none⟩ = some (.string (tx k))) := fun W' h =>
                    ⟨(h.cell (p := ⟨wr.heap.size, 0, none⟩) (by simp)).trans (World.cell?_alloc_at _ _ _ _ rfl), ((HB.out.trans ((((Below.refl wr.heap.size wr).alloc (Nat.le_refl _) _).trans (h.mono (by simp))).mono HB.out.size)).cell (p := ⟨g, k, none⟩) HGZ.out).trans (HTC.out k hlt)⟩
                  have HSG : Hid (∀ W', Below (wr.alloc (.cells #[(.slice (o k) (nd 4294967296 (m k)) (c k))] 26)).heap.size (wr.alloc (.cells #[(.slice (o k) (nd 4294967296 (m k)) (c k))] 26)) W' → Calls Tryd.prog 6 #[.agg #[(.slice (o k) (nd 4294967296 (m k)) (c k))]] W' fun e w' => e = .returned (.string (tx k)) ∧ Below (wr.alloc (.cells #[(.slice (o k) (nd 4294967296 (m k)) (c k))] 26)).heap.size (wr.alloc (.cells #[(.slice (o k) (nd 4294967296 (m k)) (c k))] 26)) w') := fun W' h =>
                    (HTX.out k _ hlt ((HLK.out.alloc _).next h)).mono fun e w' ⟨he, hB⟩ => ⟨he, h.trans (hB.mono h.size)⟩
                  have hs : Below (wr.alloc (.cells #[(.slice (o k) (nd 4294967296 (m k)) (c k))] 26)).heap.size (wr.alloc (.cells #[(.slice (o k) (nd 4294967296 (m k)) (c k))] 26)) (wr.alloc (.cells #[(.slice (o k) (nd 4294967296 (m k)) (c k))] 26)) := Below.refl _ _
                  have hs2 := hs.drew
                  have hcl := HCL5.out _ hs2
                  have hc0 := HCL5.out _ hs
                  go_wp2_with fail
                  go_region_held3 (fun W' : World => (W'.cell? ⟨wr.heap.size, 0, none⟩ = some (.slice (o k) (nd 4294967296 (m k)) (c k)) ∧ W'.cell? ⟨g, k, none⟩ = some (.string (tx k))) ∧ Below (wr.alloc (.cells #[(.slice (o k) (nd 4294967296 (m k)) (c k))] 26)).heap.size (wr.alloc (.cells #[(.slice (o k) (nd 4294967296 (m k)) (c k))] 26)) W') (first | (refine And.intro ?_ ?_ <;> assumption) | fail) (first
                    | (go_at_call 6; with_reducible refine (HSG.out _ ?h).mono ?_; (case h => assumption); rintro e w' ⟨rfl, hs'⟩; have hc' := HCL5.out _ hs') | fail)
                  all_goals
                    clear hs hs2 hcl hc0
                    have hs : Below (wr.alloc (.cells #[(.slice (o k) (nd 4294967296 (m k)) (c k))] 26)).heap.size (wr.alloc (.cells #[(.slice (o k) (nd 4294967296 (m k)) (c k))] 26)) w' := by assumption
                    have HBF : Hid (Below wz.heap.size wz w') := HB.out.trans ((((Below.refl wr.heap.size wr).alloc (Nat.le_refl _) _).trans (hs.mono (by simp))).mono HB.out.size)
                    go_wp2
                    go_roundg (11 - (k + 1))
                    case measure => have := HKK.out; omega
                    case rel => exact ⟨k + 1, by show _ = _; omega, by go_num, HBF⟩
                · obtain rfl : k = 11 := by omega
                  have HLF := Lib.hid (HLZ.out.next HB.out)
                  have hcx := HLF.out.cx
                  have hcy := HLF.out.cy
                  clear HB HLZ HKK HTC HGZ
                  go_wp2_with fail
                  have hx1 := String_any _ a _ HLF.out.dx (by omega) HLF.out.env
                  rw [← HST.out] at hx1
                  refine hx1.mono ?_
                  rintro e w40 ⟨rfl, hb⟩
                  have HL2 := Lib.hid (HLF.out.next hb)
                  clear hb hcx hcy HLF hx1
                  have hcy := HL2.out.cy
                  go_wp2_with fail
                  have hy1 := String_any _ b _ HL2.out.dy (by omega) HL2.out.env
                  rw [← HTT.out] at hy1
                  refine hy1.mono ?_
                  rintro e w41 ⟨rfl, hb⟩
                  have HL3 := Lib.hid (HL2.out.next hb)
                  clear hb hcy HL2 hy1
                  go_wp2_with fail
                  refine (awake_Q (cs := []) (ns := []) (rs := []) ⟨fun p hp => (by cases hp), fun p hp => (by cases hp), fun p hp => (by cases hp), HL3.out.env, HL3.out.bel⟩).mono ?_
                  rintro e w42 ⟨rfl, hk⟩
                  go_wp2
                  go_ret
                  exact ⟨by simp, hk.bel⟩
end Go.Proofs.YthafnhjnlfpifaaDoor
namespace Go.Proofs.YthafnhjnlfpifaaDoor
open Go Go.RowKit Gu

theorem own : ownKnob Tryd.prog.godebug = none := by kernel_rfl
theorem env_of_laid {W : World} {l : List (String × DataW Unit)}
    (hl : l.filter (fun x => x.1 == "internal/strconv.uint64pow10") = [("internal/strconv.uint64pow10", Rows.laid_internal_strconv_uint64pow10)]) (h : laidMetH Tryd.prog l W) : Env W := by
  have h1 := h.filter (fun x => x.1 == "internal/strconv.uint64pow10")
  rw [hl, MakeChecks.laidMetH_plain _ _ _ (by kernel_rfl)] at h1
  exact Lib.tabIs_of_head (g := 0) (by kernel_rfl) (by kernel_rfl) Tryd.underlying123 Tryd.underlying75 (by kernel_rfl) (by kernel_rfl) h1
end Go.Proofs.YthafnhjnlfpifaaDoor
namespace Go.Proofs.YthafnhjnlfpifaaDoor
open Go Go.ChangeShapes Go.WideShapes Go.ChangeAt Go.RowKit Gu

theorem laidOut' : laidOutB Tryd.prog = true := by kernel_rfl
theorem u16_of_wf {n : Int} (h : (Lit.int .u16 n).wf = true) : 0 ≤ n ∧ n ≤ 65535 := by
  simpa [Lit.wf, IntKind.min, IntKind.max, IntKind.signed, IntKind.bits] using h
theorem raw_of {H : Type} {enc : TypeId × Value → H} {W : World} {d : DataW H} {p : List MemPlace} {a0 : Option Addr} {len cap : Nat}
    (h : DataW.Trod enc Tryd.prog W 0 (fun _ => true) true 22 (.slice a0 len cap) d p) : ∃ xs, IsRaw W (.slice a0 len cap) xs ∧ xs.length ≤ maxLen := by
  obtain ⟨fuel, hf⟩ := h
  have c16 : Tryd.prog.cellsOf 52 = 1 := by kernel_rfl
  rcases open_ints Tryd.underlying22 Tryd.underlying52 c16 hf with ⟨hcs, hx⟩ | ⟨a, len', cap', zs, hcs, _, hl, hm, hz, hx, hcell, hwz⟩
  · simp [Value.cells] at hcs
    obtain ⟨rfl, rfl, rfl⟩ := hcs
    exact ⟨[], ⟨Dig.nil _, .inl ⟨rfl, _, _, rfl⟩⟩, by simp⟩
  · simp [Value.cells] at hcs
    obtain ⟨rfl, rfl, rfl⟩ := hcs
    simp only [if_true] at hz
    rcases Nat.eq_zero_or_pos len with h0 | h0
    · subst h0
      exact ⟨[], ⟨Dig.nil _, .inl ⟨rfl, _, _, rfl⟩⟩, by simp⟩
    · obtain ⟨b, o, s⟩ := a
      obtain rfl : s = none := by
        have h1 := hcell 0 (by omega)
        cases s with
        | none => rfl
        | some _ =>
          exfalso
          unfold World.cell? Addr.add at h1
          simp only [if_true] at h1
          split at h1 <;> simp at h1
      have hl' : ((zs.take len).map Int.toNat).length = len := by rw [List.length_map, List.length_take]; omega
      have hget : ∀ i (h : i < ((zs.take len).map Int.toNat).length), ∃ hi : i < zs.length, ((zs.take len).map Int.toNat)[i] = zs[i].toNat := fun i h => ⟨by omega, by simp⟩
      refine ⟨(zs.take len).map Int.toNat, ⟨fun i hi => ?_, .inr ⟨b, o, cap, by rw [hl'], fun i hi => ?_⟩⟩, by omega⟩
      · obtain ⟨hi2, e⟩ := hget i hi
        have := u16_of_wf (hwz _ (List.getElem_mem hi2))
        rw [e]; omega
      · obtain ⟨hi2, e⟩ := hget i hi
        have := u16_of_wf (hwz _ (List.getElem_mem hi2))
        have h1 := hcell i hi2
        rw [add_plain] at h1
        rw [h1, e, List.getD, List.getElem?_eq_getElem hi2, Option.getD_some, Int.toNat_of_nonneg this.1]
end Go.Proofs.YthafnhjnlfpifaaDoor
namespace Go.Proofs.YthafnhjnlfpifaaDoor
open Go Go.ChangeShapes Go.WideShapes Go.ChangeAt Go.RowKit Gu

set_option maxRecDepth 100000 in
theorem natKeeps_lifted (os : Os) (started : os.Started) (H : Type) (enc : TypeId × Value → H) :
    ReturnsInHanded {} Tryd.checked os 3 .any (fun w args => (Rows.natKeepsSpec.pre enc Tryd.prog Tryd.f3 [] false w args ∧ laidMetH Tryd.prog Rows.natKeepsRow.laid w) ∧ sizedMet enc Tryd.prog Tryd.f3 (OpenSpec.ofChange Rows.natKeepsSpec) false w args)
      (Rows.natKeepsSpec.post enc Tryd.prog Tryd.f3 false true false false) := by
  refine returnsInHanded_of_change_and (C := Tryd.checked) (X := fun w _ => laidMetH Tryd.prog Rows.natKeepsRow.laid w) (fun _ _ _ hh h => h.of_heap hh) own started (by kernel_rfl) Tryd.func3
    (ChangeSpec.witness_shaped (enc := enc) (C := Tryd.checked) (os := os) (X := fun w _ => laidMetH Tryd.prog Rows.natKeepsRow.laid w) false (World.laidAll Tryd.prog os Rows.natKeepsRow.laid) #[.slice none 0 0, .slice none 0 0, .int .i64 0] 8 (World.laidAll_os _ _ _)
      (World.shaped_of_ZipB (by kernel_rfl) (by kernel_rfl)) (by kernel_rfl) (by kernel_rfl) (by kernel_rfl)
      (by rw [MakeChecks.laidMetH_plain _ _ _ (by kernel_rfl)]; exact laidMet_laidAll _ (by kernel_rfl) (by kernel_rfl))) ?_
  intro W base args ds gs before hval0 hW _ _ hL _
  have hval : ∀ (j : Nat) t v, Tryd.f3.params[j]? = some t → args[j]? = some v → Value.okWide Tryd.prog W .any base t v := hval0
  have hW' := hW
  obtain ⟨p, q, hA0, hV, rfl, hfz, hnd⟩ := hW
  have hA : DataW.TrodAll enc Tryd.prog W 0 (fun _ => true) true Tryd.f3.params.toList args.toList ds p := hA0
  rw [Tryd.params3] at hA hval
  obtain ⟨v0, v1, v2, d0, d1, d2, p0, p1, p2, rfl, rfl, rfl, h0, h1, h2⟩ := trodAll_three hA
  obtain ⟨rfl, rfl⟩ := trodVars_none hV
  obtain ⟨i2, rfl, rfl, rfl, wi2⟩ := open_int Tryd.underlying3 (hval 2 3 v2 rfl rfl) h2
  obtain ⟨a0, len0, cap0, rfl⟩ := okWide_slice Tryd.underlying22 (hval 0 22 v0 rfl rfl)
  obtain ⟨xs0, hraw0, hlen0⟩ := raw_of h0
  obtain ⟨a1, len1, cap1, rfl⟩ := okWide_slice Tryd.underlying22 (hval 1 22 v1 rfl rfl)
  obtain ⟨xs1, hraw1, hlen1⟩ := raw_of h1
  clear hA0 hval0
  simp only [List.append_nil, List.nil_append] at hW'
  have hlt0 : ∀ x ∈ p0, x.block < W.heap.size := fun x hx => hW'.lt x (by simp [hx])
  have hlt1 : ∀ x ∈ p1, x.block < W.heap.size := fun x hx => hW'.lt x (by simp [hx])
  have hi2 : -9223372036854775808 ≤ i2 ∧ i2 ≤ 9223372036854775807 := by simpa [Lit.wf, IntKind.min, IntKind.max, IntKind.signed, IntKind.bits] using wi2
  refine (natKeeps_walk _ _ xs0 xs1 i2 W hraw0 hraw1 hlen0 hlen1 hi2.1 hi2.2 (env_of_laid (by rfl) hL)).mono fun e W' ⟨he, hb⟩ => ?_
  subst he
  have hmk := trodAll_mk3 (Below.trod laidOut' (by kernel_rfl) (of_decide_eq_true (by kernel_rfl)) h0 hb hlt0) (Below.trod laidOut' (by kernel_rfl) (of_decide_eq_true (by kernel_rfl)) h1 hb hlt1) (shut_int Tryd.underlying3 wi2)
  simp only [List.append_nil, List.nil_append] at hmk
  exact ⟨_, rfl, _, _, _, [], _, [], hW', trodAll_mk1 (shut_bool Tryd.underlying4 _), hmk, rfl, hb.frame _, fun h => by cases h⟩
theorem natKeeps_holds : Rows.NatKeepsSaid :=
  OpenClaim.holds_of_wide 3 Tryd.f3 rfl rfl rfl rfl rfl rfl rfl ⟨rfl, rfl, rfl, rfl, rfl⟩ rfl rfl rfl rfl rfl (by kernel_rfl) Tryd.func3 (by kernel_rfl)
    (of_decide_eq_true (by kernel_rfl)) (by unfold Func.isWrapper; first | (rw [if_pos (by decide +kernel)]; kernel_rfl) | (rw [if_neg (by decide +kernel)]; exact ⟨rfl, rfl⟩))
    (fun os started H enc _ => natKeeps_lifted os started H enc)
theorem natKeeps_card_holds : Rows.NatKeepsCardSaid :=
  Claim7.holds_tied_plain_at .later [] [.data, .data, .data] true _ false
    natKeeps_holds (fun _ h => by cases h) (by kernel_rfl) (fun _ h => by cases h) natKeeps_row_tie rfl ⟨rfl, rfl⟩ (by kernel_rfl) rfl
    (fun f fn hf hfn => by
      obtain rfl : f = 3 := Option.some.inj ((show Tryd.prog.funcNamed "guilloche/guillochelaw01.NatKeeps" = some 3 by kernel_rfl).symm.trans hf) |>.symm
      obtain rfl : fn = Tryd.f3 := (Option.some.inj (Tryd.func3.symm.trans hfn)).symm
      exact ⟨by kernel_rfl, fun j t ht => by
        rw [Tryd.params3] at ht
        have hm : t ∈ [22, 22, 3] := by simpa using Array.mem_of_getElem? ht
        have hall : ([22, 22, 3].all fun u => !Tryd.prog.wantsStandIn u) = true := by kernel_rfl
        exact (show Tryd.prog.wantsStandIn t = false by simpa using List.all_eq_true.1 hall t hm)⟩)
    (by kernel_rfl)
#print axioms natKeeps_card_holds
end Go.Proofs.YthafnhjnlfpifaaDoor
