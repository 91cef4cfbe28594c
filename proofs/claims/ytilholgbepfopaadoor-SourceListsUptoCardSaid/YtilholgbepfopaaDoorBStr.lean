/- General: strings, compared. -/
import Derived.Test.YtilholgbepfopaaDoorBWorld
namespace Go.Proofs.YtilholgbepfopaaDoor

theorem tstr_ne {s t : ByteArray} (h : s ≠ t) : (s.toList == t.toList) = false := by
  rw [beq_eq_false_iff_ne]
  intro e
  refine h (ByteArray.ext (Array.toList_inj.1 ?_))
  rw [ByteArray.toList_eq, ByteArray.toList_eq] at e
  exact e
theorem tstr_eq {s t : ByteArray} (h : s = t) : (s.toList == t.toList) = true := by subst h; simp

end Go.Proofs.YtilholgbepfopaaDoor
