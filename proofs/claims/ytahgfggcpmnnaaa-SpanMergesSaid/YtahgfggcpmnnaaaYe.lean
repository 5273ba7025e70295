/- The contracts of tall, len and count. -/
import Derived.Test.YtahgfggcpmnnaaaYc
import Derived.Test.YtahgfggcpmnnaaaYd
namespace Go.Proofs.Ytahgfggcpmnnaaa
open Go Go.RowKit Gs

theorem tall_any (t : T) (v : Value) (W : World) (h : IsT W t v) : Calls Try.prog 79 #[v] W fun e w' => e = .returned (.int .i64 t.tall) ∧ W = w' := by
  cases t with
  | nil =>
    obtain rfl := h
    go_enter Try.func79, Try.ntmps79
    go_wp2_with fail
    go_ret
    exact ⟨rfl, rfl⟩
  | node l r k =>
    obtain ⟨b, x, y, rfl, hr, -, -⟩ := h
    have h5 := hr.cell (i := 5) (by decide)
    simp only [nodeF] at h5
    clear hr
    generalize (T.node l r k).tall = n at *
    go_enter Try.func79, Try.ntmps79
    go_wp2_with fail
    go_ret
    exact ⟨rfl, rfl⟩
theorem len_any (t : T) (v : Value) (W : World) (h : IsT W t v) : Calls Try.prog 71 #[v] W fun e w' => e = .returned (.int .i64 t.sz) ∧ W = w' := by
  cases t with
  | nil =>
    obtain rfl := h
    go_enter Try.func71, Try.ntmps71
    go_wp2_with fail
    go_ret
    exact ⟨rfl, rfl⟩
  | node l r k =>
    obtain ⟨b, x, y, rfl, hr, -, -⟩ := h
    have h6 := hr.cell (i := 6) (by decide)
    simp only [nodeF] at h6
    clear hr
    generalize (T.node l r k).sz = n at *
    go_enter Try.func71, Try.ntmps71
    go_wp2_with fail
    go_ret
    exact ⟨rfl, rfl⟩
theorem count_any (t : T) (v : Value) (W : World) (k : Nat) (hk : k < 16) (h : IsT W t v) : Calls Try.prog 53 #[v, .int .i64 k] W fun e w' => e = .returned (.int .i64 (cnt k t.L)) ∧ W = w' := by
  cases t with
  | nil =>
    obtain rfl := h
    go_enter Try.func53, Try.ntmps53
    go_wp2_with fail
    go_ret
    exact ⟨rfl, rfl⟩
  | node l r m =>
    obtain ⟨b, x, y, rfl, hr, -, -⟩ := h
    have h6 := hr.cell (i := k + 7) (by omega)
    simp only [nodeF] at h6
    rw [Nat.add_comm] at h6
    have hk1 : (k : Int) < 16 := by omega
    clear hr
    generalize cnt k (T.node l r m).L = n at *
    go_enter Try.func53, Try.ntmps53
    go_wp2_with fail
    go_ret
    exact ⟨rfl, rfl⟩
end Go.Proofs.Ytahgfggcpmnnaaa
