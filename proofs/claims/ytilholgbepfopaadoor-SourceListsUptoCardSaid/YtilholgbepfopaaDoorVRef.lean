/- The reference's Apply. -/
import Derived.Test.YtilholgbepfopaaDoorVApply2
namespace Go.Proofs.YtilholgbepfopaaDoor
open Go.RowKit Go.MapKept

/-- a value that is an integer, and nothing old has changed -/
def RetN (w : World) (n : Int) (e : Ending) (w' : World) : Prop := e = .returned (.agg #[.bool false, .int .i64 n]) ∧ Below w.heap.size w w'
theorem below_one {w : World} {o : Obj} {w2 : World} (hb : Below (w.alloc o).heap.size (w.alloc o) w2) (a a' : Addr) (v v' : Value) (ha : w.heap.size ≤ a.block) (ha' : w.heap.size ≤ a'.block) : Below w.heap.size w ((w2.setCell a v).setCell a' v') :=
  ((((Below.refl _ _).alloc (Nat.le_refl _) _).trans (hb.mono (by simp))).setCell ha _).setCell ha' _
theorem below_three {w : World} {o1 o2 o3 : Obj} {w2 : World} (hb : Below (((w.alloc o1).alloc o2).alloc o3).heap.size (((w.alloc o1).alloc o2).alloc o3) w2) (a a' : Addr) (v v' : Value) (ha : w.heap.size ≤ a.block) (ha' : w.heap.size ≤ a'.block) :
    Below w.heap.size w ((w2.setCell a v).setCell a' v') :=
  ((((((Below.refl _ _).alloc (Nat.le_refl _) _).alloc (by simp) _).alloc (by simp; omega) _).trans (hb.mono (by simp; omega))).setCell ha _).setCell ha' _
theorem below_drewN {w W : World} {n : Nat} {B : Nat} (h : Below B w W) : Below B w (W.drewN n) := by
  induction n with
  | zero => exact h
  | succ n ih => exact ih.drew
theorem below_draws {w : World} {o1 o2 o3 : Obj} {n : Nat} {w2 : World} (hb : Below ((((w.alloc o1).alloc o2).alloc o3).drewN n).heap.size ((((w.alloc o1).alloc o2).alloc o3).drewN n) w2) (a a' : Addr) (v v' : Value) (ha : w.heap.size ≤ a.block) (ha' : w.heap.size ≤ a'.block) :
    Below w.heap.size w ((w2.setCell a v).setCell a' v') :=
  (((below_drewN ((((Below.refl _ _).alloc (Nat.le_refl _) _).alloc (by simp) _).alloc (by simp; omega) _)).trans (hb.mono (by simp; omega))).setCell ha _).setCell ha' _
theorem below_draws0 {w : World} {o1 o2 o3 : Obj} {n : Nat} : Below w.heap.size w ((((w.alloc o1).alloc o2).alloc o3).drewN n) :=
  below_drewN ((((Below.refl _ _).alloc (Nat.le_refl _) _).alloc (by simp) _).alloc (by simp; omega) _)
theorem below_three0 {w : World} {o1 o2 o3 : Obj} : Below w.heap.size w (((w.alloc o1).alloc o2).alloc o3) :=
  (((Below.refl _ _).alloc (Nat.le_refl _) _).alloc (by simp) _).alloc (by simp; omega) _
def bN (b : Bool) : Int := if b then 1 else 0
end Go.Proofs.YtilholgbepfopaaDoor
