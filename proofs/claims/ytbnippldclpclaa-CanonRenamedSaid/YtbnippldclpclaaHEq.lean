/- Comparing two values. -/
import Derived.Test.YtbnippldclpclaaHFind
namespace Go.Proofs.Ytbnippldclpclaa
open Go.RowKit

theorem guard_V : Try.prog.eqGuardType Try.prog.depth 31 = false := by kernel_rfl
theorem equal_V (a b : Bool) (x y : Int) (W : World) : (Op.equal 31 (.agg #[.bool a, .int .i64 x]) (.agg #[.bool b, .int .i64 y])).run Try.prog W = .ok (a == b && x == y) W := by
  have hb : (Op.equalIn 9999 4 (.bool a) (.bool b)).run Try.prog W = .ok (a == b) W := by
    rw [show (9999 : Nat) = 9998 + 1 from rfl, Op.equalIn]
    simp [run_underlying Try.underlying4]
  have hi : (Op.equalIn 9999 2 (.int .i64 x) (.int .i64 y)).run Try.prog W = .ok (x == y) W := by
    rw [show (9999 : Nat) = 9998 + 1 from rfl, Op.equalIn]
    simp [run_underlying Try.underlying2]
  have pb : ∀ (xs : Array Value) (off : Nat) (v : Value), xs[off]? = some v → (part 4 xs off).run Try.prog W = .ok v W := fun xs off v h => by
    simp [part, isAgg, run_underlying Try.underlying4, h]
  have pi : ∀ (xs : Array Value) (off : Nat) (v : Value), xs[off]? = some v → (part 2 xs off).run Try.prog W = .ok v W := fun xs off v h => by
    simp [part, isAgg, run_underlying Try.underlying2, h]
  have p1 := pb #[.bool a, .int .i64 x] 0 _ rfl
  have p2 := pb #[.bool b, .int .i64 y] 0 _ rfl
  have p3 := pi #[.bool a, .int .i64 x] 1 _ rfl
  have p4 := pi #[.bool b, .int .i64 y] 1 _ rfl
  simp only [Op.equal, Op.maxDepth]
  rw [Op.equalIn]
  simp [run_underlying Try.underlying31, p1, p2, p3, p4, hb, hi]
  by_cases h1 : a = b <;> by_cases h2 : x = y <;> simp [h1, h2]
theorem run_neq_V (a b : Bool) (x y : Int) (W : World) : (binOp .neq 31 (.agg #[.bool a, .int .i64 x]) (.agg #[.bool b, .int .i64 y])).run Try.prog W = .ok (.bool (!(a == b && x == y))) W := by
  simp [binOp, equal_V]
theorem run_eql_V (a b : Bool) (x y : Int) (W : World) : (binOp .eql 31 (.agg #[.bool a, .int .i64 x]) (.agg #[.bool b, .int .i64 y])).run Try.prog W = .ok (.bool (a == b && x == y)) W := by
  simp [binOp, equal_V]
theorem run_guard_V (op : BinOp) (p q : Operand) (xs ys : Array Value) (W : World) : (eqGuard op 31 p q (.agg xs) (.agg ys)).run Try.prog W = .ok () W := by
  unfold eqGuard
  cases op <;> simp [guard_V]
end Go.Proofs.Ytbnippldclpclaa
