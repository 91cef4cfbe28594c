/- The functions of the map. -/
import Derived.Test.YthgefeoklmognaaDoorVMap
namespace Go.Proofs.YthgefeoklmognaaDoor
open Go.RowKit

/-- an integer, and nothing old has changed -/
def RetI (w : World) (n : Int) (e : Ending) (w' : World) : Prop := e = .returned (.int .i64 n) ∧ Below w.heap.size w w'
theorem below2 (w : World) (o o' : Obj) : Below w.heap.size w ((w.alloc o).alloc o') := ((Below.refl _ _).alloc (Nat.le_refl _) _).alloc (by simp) _
theorem retI {w w' : World} {n m : Int} (h : m = n) (hb : Below w.heap.size w w') : RetI w n (.returned (.int .i64 m)) w' := by subst h; exact ⟨rfl, hb⟩
def minN (x y : Int) : Int := if y < x then y else x
def maxN (x y : Int) : Int := if x < y then y else x
def lessN (x y : Int) : Int := if x < y then 1 else 0
def sameN (r s : Bool) (x y : Int) : Int := if r = s ∧ x = y then 1 else 0

set_option maxHeartbeats 1000000 in
set_option maxRecDepth 100000 in
theorem f1 (r s : Bool) (x y : Int) (w : World) : Calls Tryd.prog 26 #[.agg #[.bool r, .int .i64 x], .agg #[.bool s, .int .i64 y]] w (RetI w (wrap64 (x + y))) := by
  go_enter Tryd.func26, Tryd.ntmps26
  go_wp2
  all_goals
    go_ret
    exact retI rfl (below2 _ _ _)
set_option maxHeartbeats 1000000 in
set_option maxRecDepth 100000 in
theorem f2 (r s : Bool) (x y : Int) (w : World) : Calls Tryd.prog 27 #[.agg #[.bool r, .int .i64 x], .agg #[.bool s, .int .i64 y]] w (RetI w (wrap64 (x - y))) := by
  go_enter Tryd.func27, Tryd.ntmps27
  go_wp2
  all_goals
    go_ret
    exact retI rfl (below2 _ _ _)
set_option maxHeartbeats 1000000 in
set_option maxRecDepth 100000 in
theorem f3 (r s : Bool) (x y : Int) (w : World) : Calls Tryd.prog 28 #[.agg #[.bool r, .int .i64 x], .agg #[.bool s, .int .i64 y]] w (RetI w (wrap64 (x * y))) := by
  go_enter Tryd.func28, Tryd.ntmps28
  go_wp2
  all_goals
    go_ret
    exact retI rfl (below2 _ _ _)
set_option maxHeartbeats 1000000 in
set_option maxRecDepth 100000 in
theorem f4 (r s : Bool) (x y : Int) (w : World) (hy : ¬ y = 0) : Calls Tryd.prog 29 #[.agg #[.bool r, .int .i64 x], .agg #[.bool s, .int .i64 y]] w (RetI w (wrap64 (x.tdiv y))) := by
  go_enter Tryd.func29, Tryd.ntmps29
  go_wp2
  all_goals
    go_ret
    exact retI rfl (below2 _ _ _)
set_option maxHeartbeats 1000000 in
set_option maxRecDepth 100000 in
theorem f5 (r s : Bool) (x y : Int) (w : World) : Calls Tryd.prog 30 #[.agg #[.bool r, .int .i64 x], .agg #[.bool s, .int .i64 y]] w (RetI w (minN x y)) := by
  go_enter Tryd.func30, Tryd.ntmps30
  go_wp2
  all_goals
    go_ret
    exact retI (by unfold minN; split <;> omega) (below2 _ _ _)
set_option maxHeartbeats 1000000 in
set_option maxRecDepth 100000 in
theorem f6 (r s : Bool) (x y : Int) (w : World) : Calls Tryd.prog 31 #[.agg #[.bool r, .int .i64 x], .agg #[.bool s, .int .i64 y]] w (RetI w (maxN x y)) := by
  go_enter Tryd.func31, Tryd.ntmps31
  go_wp2
  all_goals
    go_ret
    exact retI (by unfold maxN; split <;> omega) (below2 _ _ _)
set_option maxHeartbeats 1000000 in
set_option maxRecDepth 100000 in
theorem f7 (r s : Bool) (x y : Int) (w : World) : Calls Tryd.prog 32 #[.agg #[.bool r, .int .i64 x], .agg #[.bool s, .int .i64 y]] w (RetI w (bits .and .i64 x y)) := by
  go_enter Tryd.func32, Tryd.ntmps32
  go_wp2
  all_goals
    go_ret
    exact retI rfl (below2 _ _ _)
set_option maxHeartbeats 1000000 in
set_option maxRecDepth 100000 in
theorem f8 (r s : Bool) (x y : Int) (w : World) : Calls Tryd.prog 33 #[.agg #[.bool r, .int .i64 x], .agg #[.bool s, .int .i64 y]] w (RetI w (bits .or .i64 x y)) := by
  go_enter Tryd.func33, Tryd.ntmps33
  go_wp2
  all_goals
    go_ret
    exact retI rfl (below2 _ _ _)
set_option maxHeartbeats 1000000 in
set_option maxRecDepth 100000 in
theorem f9 (r s : Bool) (x y : Int) (w : World) : Calls Tryd.prog 34 #[.agg #[.bool r, .int .i64 x], .agg #[.bool s, .int .i64 y]] w (RetI w (bits .xor .i64 x y)) := by
  go_enter Tryd.func34, Tryd.ntmps34
  go_wp2
  all_goals
    go_ret
    exact retI rfl (below2 _ _ _)
set_option maxHeartbeats 1000000 in
set_option maxRecDepth 100000 in
theorem f10 (r s : Bool) (x y : Int) (w : World) : Calls Tryd.prog 35 #[.agg #[.bool r, .int .i64 x], .agg #[.bool s, .int .i64 y]] w (RetI w (lessN x y)) := by
  go_enter Tryd.func35, Tryd.ntmps35
  go_wp2
  all_goals
    go_ret
    exact retI (by unfold lessN; split <;> omega) (below2 _ _ _)
set_option maxHeartbeats 1000000 in
set_option maxRecDepth 100000 in
theorem f11 (r s : Bool) (x y : Int) (w : World) : Calls Tryd.prog 37 #[.agg #[.bool r, .int .i64 x], .agg #[.bool s, .int .i64 y]] w (RetI w (sameN r s x y)) := by
  go_enter Tryd.func37, Tryd.ntmps37
  go_wp2
  all_goals
    go_ret
    exact retI (by unfold sameN; simp_all) (below2 _ _ _)
end Go.Proofs.YthgefeoklmognaaDoor
