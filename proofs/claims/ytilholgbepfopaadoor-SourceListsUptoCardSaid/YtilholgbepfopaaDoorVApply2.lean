/- Apply, at every operator. -/
import Derived.Test.YtilholgbepfopaaDoorVApply
namespace Go.Proofs.YtilholgbepfopaaDoor
open Go.RowKit Go.MapKept

/-- what Apply gives: the number and the fault -/
def rawN (op x y : Int) : Int :=
  if op = 1 then wrap64 (x + y) else if op = 2 then wrap64 (x - y) else if op = 3 then wrap64 (x * y) else if op = 4 then wrap64 (x.tdiv y) else if op = 5 then minN x y else if op = 6 then maxN x y
  else if op = 7 then bits .and .i64 x y else if op = 8 then bits .or .i64 x y else if op = 9 then bits .xor .i64 x y else lessN x y
def apN (op : Int) (r : Bool) (x : Int) (s : Bool) (y : Int) : Int :=
  if op = 11 then sameN r s x y else if op < 1 ∨ 11 < op ∨ r = true ∨ s = true then 0 else if op = 4 ∧ y = 0 then 0 else rawN op x y
def apF (op : Int) (r : Bool) (s : Bool) (y : Int) : Int :=
  if op = 11 then 0 else if op < 1 ∨ 11 < op ∨ r = true ∨ s = true then -2 else if op = 4 ∧ y = 0 then -3 else 0
end Go.Proofs.YtilholgbepfopaaDoor
