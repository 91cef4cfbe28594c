/- The functions of the map. -/
import Derived.Test.YtilholgbepfopaaDoorVMap
namespace Go.Proofs.YtilholgbepfopaaDoor
open Go.RowKit

/-- an integer, and nothing old has changed -/
def RetIt (w : World) (n : Int) (e : Ending) (w' : World) : Prop := e = .returned (.int .i64 n) ∧ Below w.heap.size w w'
theorem below2 (w : World) (o o' : Obj) : Below w.heap.size w ((w.alloc o).alloc o') := ((Below.refl _ _).alloc (Nat.le_refl _) _).alloc (by simp) _
theorem retI {w w' : World} {n m : Int} (h : m = n) (hb : Below w.heap.size w w') : RetIt w n (.returned (.int .i64 m)) w' := by subst h; exact ⟨rfl, hb⟩
def minN (x y : Int) : Int := if y < x then y else x
def maxN (x y : Int) : Int := if x < y then y else x
def lessN (x y : Int) : Int := if x < y then 1 else 0
def sameN (r s : Bool) (x y : Int) : Int := if r = s ∧ x = y then 1 else 0

end Go.Proofs.YtilholgbepfopaaDoor
