/- copyHeap. -/
import Derived.Test.YtbnippldclpclaaHDeep
namespace Go.Proofs.Ytbnippldclpclaa
open Go.RowKit

/-- the first k objects of L' are those of L; the others are without anything -/
def CopyTo (L L' : List Lob) (k : Nat) : Prop := L'.length = L.length ∧ ∀ i, i < k → L'[i]?.map Lob.ob = L[i]?.map Lob.ob
theorem copyTo_all {L L' : List Lob} (h : CopyTo L L' L.length) : obs L' = obs L := by
  apply List.ext_getElem?
  intro i
  unfold obs
  rw [List.getElem?_map, List.getElem?_map]
  by_cases hi : i < L.length
  · exact h.2 i hi
  · have := h.1
    rw [List.getElem?_eq_none (by omega), List.getElem?_eq_none (by omega)]
theorem copyTo_next {L L' : List Lob} {k : Nat} {x y : Lob} (h : CopyTo L L' k) (hk : L[k]? = some x) (he : y.ob = x.ob) : CopyTo L (L'.set k y) (k + 1) := by
  refine ⟨by simpa using h.1, fun i hi => ?_⟩
  have hlt := (List.getElem?_eq_some_iff.1 hk).1
  by_cases hik : k = i
  · subst hik
    rw [List.getElem?_set_self (by rw [h.1]; exact hlt), hk]
    simp [he]
  · rw [List.getElem?_set_ne hik]
    exact h.2 i (by omega)
/-- a heap in new memory -/
def RetH (w : World) (O : List Ob) (e : Ending) (w' : World) : Prop := ∃ v L', e = .returned (.agg #[v]) ∧ Deep w' w.heap.size v L' ∧ obs L' = O ∧ Below w.heap.size w w' ∧ ∃ g, v = .slice (some ⟨g, 0, none⟩) L'.length L'.length

theorem one_one (w : World) (p q : Value) (t t' : TypeId) : ∃ W, (w.alloc (.cells #[p] t)).alloc (.cells #[q] t') = W ∧ Below w.heap.size w W ∧ At1 W w.heap.size p ∧ At1 W (w.heap.size + 1) q ∧ W.heap.size = w.heap.size + 2 :=
  ⟨_, rfl, Below.new (below1 _ _) _, (At1.new _ _ _).alloc _, by simpa using At1.new (w.alloc (.cells #[p] t)) q t', by simp⟩

end Go.Proofs.Ytbnippldclpclaa
