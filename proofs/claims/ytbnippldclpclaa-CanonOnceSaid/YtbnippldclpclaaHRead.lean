/- Read, of the program and of the reference. -/
import Derived.Test.YtbnippldclpclaaHGet
namespace Go.Proofs.Ytbnippldclpclaa
open Go.RowKit

def cellD (L : List Lob) (id f : Int) : V := (cellOf L id f).getD (false, 0)
/-- a value, and whether there is one -/
def RetRd (w : World) (x : V) (b : Bool) (e : Ending) (w' : World) : Prop := e = .returned (.tuple #[vv x, .bool b]) ∧ Below w.heap.size w w'
theorem cellD_no {L : List Lob} {id f : Int} (h : hasCell L id f = false) : cellD L id f = (false, 0) := by
  unfold cellD
  unfold hasCell at h
  cases hc : cellOf L id f with
  | none => rfl
  | some x => rw [hc] at h; cases h
theorem cell_yes {L : List Lob} {id f : Int} (h : hasCell L id f = true) : isIn L id = true ∧ ∃ (x : Lob) (m : Nat) (y : V), L[idx L id]? = some x ∧ f = (m : Int) ∧ x.vals[m]? = some y ∧ cellD L id f = y := by
  unfold cellD
  unfold hasCell at h
  cases hc : cellOf L id f with
  | none => rw [hc] at h; cases h
  | some y =>
    have hc' := hc
    unfold cellOf at hc'
    cases hx : L[idx L id]? with
    | none => rw [hx] at hc'; cases hc'
    | some x =>
      rw [hx] at hc'
      simp only at hc'
      by_cases h0 : f < 0
      · rw [if_pos h0] at hc'; cases hc'
      · rw [if_neg h0] at hc'
        refine ⟨?_, x, f.toNat, y, rfl, by omega, hc', rfl⟩
        unfold isIn
        exact decide_eq_true (List.getElem?_eq_some_iff.1 hx).1

theorem hasCell_isIn {L : List Lob} {id f : Int} (h : isIn L id = false) : hasCell L id f = false := hasCell_none h

end Go.Proofs.Ytbnippldclpclaa
