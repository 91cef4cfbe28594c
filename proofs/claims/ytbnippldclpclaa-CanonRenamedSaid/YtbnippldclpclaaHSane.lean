/- The statements' sanity check. -/
import Derived.Test.YtbnippldclpclaaHSem
namespace Go.Proofs.Ytbnippldclpclaa
open Go.RowKit

theorem vs_two (w : World) (x1 x2 : V) : VsAt (w.alloc (.cells #[.bool x1.1, .int .i64 x1.2, .bool x2.1, .int .i64 x2.2] 31)) (.slice (some ⟨w.heap.size, 0, none⟩) 2 2) [x1, x2] := by
  refine .inr ⟨_, _, rfl, Nat.le_refl _, rfl, fun j u hj => ?_⟩
  rw [addr_add, Nat.zero_add, cell_of_row _ _ j _ _ _ (heap_alloc_new w _)]
  simpa [vc] using hj
theorem vs_nil (w : World) : VsAt w (.slice none 0 0) [] := .inl ⟨rfl, rfl, rfl⟩
def hA : List Ob := [(5, [(false, 1), (false, 2)])]
def hB : List Ob := [(2, []), (5, [(false, 1), (false, 2)])]
def hC : List Ob := [(2, []), (5, [(false, 1), (false, 9)])]
theorem sA : ShortO [] := ⟨by decide, by intro x hx; cases hx⟩
theorem shA : ShortO hA := shortO_of (by decide)
theorem shB : ShortO hB := shortO_of (by decide)
theorem shC : ShortO hC := shortO_of (by decide)
theorem s5 (w : World) (v : Value) (h : OAt w v hC) : Calls Try.prog 29 #[.agg #[v], .int .i64 2] w (RO w (2, []) true) := by
  have := get_ok 2 h shC
  rw [show getO hC 2 = (2, []) by decide, show inO hC 2 = true by decide] at this
  exact this
theorem s7 (w : World) (v : Value) (h : OAt w v hC) : Calls Try.prog 27 #[.agg #[v]] w (RetB w true) := by
  have := valid_ok h shC
  rw [show ascO 0 hC = true by decide] at this
  exact this
end Go.Proofs.Ytbnippldclpclaa
