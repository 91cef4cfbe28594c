/- Nodes of expressions (of the reference). -/
import Derived.Test.YtilholgbepfopaaDoorTReads
namespace Go.Proofs.YtilholgbepfopaaDoor
open Go.RowKit

/-- whether name and operator of an expression are as its kind wants them, whether its number is, and how many elements its list must have -/
def okP (e : Ex) : Bool :=
  if e.kind = 1 ∨ e.kind = 2 ∨ e.kind = 4 ∨ e.kind = 6 then decide (e.name = ⟨#[]⟩) && decide (e.op = 0)
  else if e.kind = 3 then isNm e.name && decide (e.op = 0)
  else if e.kind = 5 then decide (e.name = ⟨#[]⟩) && opB e.op
  else false
def numP (e : Ex) : Bool :=
  if e.kind = 1 then true
  else if e.kind = 4 then decide (0 ≤ e.n) && decide (e.n < 16)
  else if e.kind = 6 then decide (0 ≤ e.n) && decide (e.n ≤ 16)
  else decide (e.n = 0)
def kidsP (e : Ex) : Int := if e.kind = 4 then 1 else if e.kind = 5 then 2 else 0
theorem emp_t {s : ByteArray} (h : s = ⟨#[]⟩) : s.toList.isEmpty = true := by subst h; rw [ByteArray.toList_eq]; rfl
theorem emp_f {s : ByteArray} (h : ¬ s = ⟨#[]⟩) : s.toList.isEmpty = false := by
  have := tstr_ne h
  rw [ByteArray.toList_eq] at this ⊢
  cases hh : s.data.toList with
  | nil =>
    exfalso
    exact h (ByteArray.ext (Array.toList_inj.1 hh))
  | cons x l => rfl

end Go.Proofs.YtilholgbepfopaaDoor
