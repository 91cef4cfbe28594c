/- Truthy, Unit, Assoc, at. -/
import Derived.Test.YtilholgbepfopaaDoorVRef2
import Derived.Test.YtilholgbepfopaaDoorBWorld
namespace Go.Proofs.YtilholgbepfopaaDoor
open Go.RowKit Go.MapKept

/-- the unit of an operator, and whether it has one -/
def unitN (op : Int) : Int := if op = 3 then 1 else if op = 5 then 9223372036854775807 else if op = 6 then -9223372036854775808 else if op = 7 then -1 else 0
def assocB (op : Int) : Bool := decide (op = 1 ∨ op = 3 ∨ (5 ≤ op ∧ op ≤ 9))
def RetU (w : World) (n : Int) (b : Bool) (e : Ending) (w' : World) : Prop := e = .returned (.tuple #[.agg #[.bool false, .int .i64 n], .bool b]) ∧ Below w.heap.size w w'
theorem retU {w w' : World} {n m : Int} {a b : Bool} (h : m = n) (h2 : a = b) (hb : Below w.heap.size w w') : RetU w n b (.returned (.tuple #[.agg #[.bool false, .int .i64 m], .bool a])) w' := by subst h h2; exact ⟨rfl, hb⟩
theorem assoc_cases {op : Int} (h : assocB op = true) : op = 1 ∨ op = 3 ∨ op = 5 ∨ op = 6 ∨ op = 7 ∨ op = 8 ∨ op = 9 := by
  have := of_decide_eq_true h
  omega
theorem assoc_not {op : Int} (h : assocB op = false) : op ≠ 1 ∧ op ≠ 3 ∧ op ≠ 5 ∧ op ≠ 6 ∧ op ≠ 7 ∧ op ≠ 8 ∧ op ≠ 9 := by
  have := of_decide_eq_false h
  omega
theorem eqb_no {a b : Int} (h : a ≠ b) : (a == b) = false := by simpa using h
/-- what an operator gives for two numbers -/
def atN (op x y : Int) : Int := apN op false x false y
end Go.Proofs.YtilholgbepfopaaDoor
