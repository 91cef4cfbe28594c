/- What the rows' texts share. -/
import Derived.Test.YtbnippldclpclaaHIn
import Derived.ProofKit
import Derived.OpenShut
import Derived.LaidMore
import Derived.Deep.DeepHandedRow
import Derived.Deep.DeepWitnessRowRef
namespace Go.Proofs.Ytbnippldclpclaa
open Go.ChangeShapes Go.WideShapes Go.ChangeAt Go.RowKit

theorem own_knob : ownKnob Try.prog.godebug = none := by kernel_rfl
theorem laid_out : laidOutB Try.prog = true := by kernel_rfl
theorem u8_nat {n : Int} (h : (Lit.int .u8 n).wf = true) : ∃ k : Nat, n = (k : Int) ∧ k ≤ 255 := by
  obtain ⟨h0, h1⟩ := bounds_u8 h
  exact ⟨n.toNat, by omega, by omega⟩
theorem upto_of {H : Type} {ds : List (DataW H)} (h : Rows.uptoSmall H ds = true) : Rows.uptoBulkAll ds ≤ 1048576 := of_decide_eq_true h
section
variable {H : Type} {enc : TypeId × Value → H} {W : World} {v : Value} {d : DataW H} {p : List MemPlace} {r : Reach} {b0 : Nat}
theorem in_objects (hv : Value.okWide Try.prog W r b0 26 v) (h : DataW.Trod enc Try.prog W 0 (fun _ => true) true 26 v d p) : ∃ (a : Option Addr) (n c : Nat) (O : List Ob), v = .slice a n c ∧ OAt W (.slice a n c) O ∧ totalO O + 1 ≤ Rows.uptoBulk d := by
  obtain ⟨a, n, c, rfl⟩ := okWide_slice Try.underlying26 hv
  obtain ⟨fuel, h⟩ := h
  obtain ⟨a', n', c', O, e, ho, hb⟩ := open_os h
  simp only [Value.cells, List.cons.injEq, and_true] at e
  rw [← e] at ho
  exact ⟨a, n, c, O, rfl, ho, hb⟩
theorem in_heap (hv : Value.okWide Try.prog W r b0 28 v) (h : DataW.Trod enc Try.prog W 0 (fun _ => true) true 28 v d p) : ∃ (a : Option Addr) (n c : Nat) (O : List Ob), v = .agg #[.slice a n c] ∧ OAt W (.slice a n c) O ∧ totalO O + 1 ≤ Rows.uptoBulk d := by
  obtain ⟨cs, rfl, hsz⟩ := okWide_struct Try.underlying28 hv
  have hsz1 : cs.size = 1 := hsz.trans (by kernel_rfl)
  obtain ⟨fuel, h⟩ := h
  obtain ⟨y0, n, e, _, h0⟩ := trod_struct1 Try.underlying28 h
  obtain ⟨a', n', c', O, e1, ho, hb⟩ := open_os h0
  obtain ⟨l⟩ := cs
  match l, hsz1 with
  | [u], _ =>
    have k : Try.prog.cellsOf 26 = 1 := by kernel_rfl
    simp [Value.cells, k] at e1
    subst e1
    obtain ⟨rfl, _⟩ := Prod.mk.inj e
    refine ⟨a', n', c', O, rfl, ho, ?_⟩
    simp only [Rows.uptoBulk, Rows.uptoBulkAll]
    omega
theorem in_object (hv : Value.okWide Try.prog W r b0 43 v) (h : DataW.Trod enc Try.prog W 0 (fun _ => true) true 43 v d p) : ∃ (i : Int) (a : Option Addr) (n c : Nat) (l : List V), v = .agg #[.int .i64 i, .slice a n c] ∧ VsAt W (.slice a n c) l ∧ l.length + 1 ≤ Rows.uptoBulk d := by
  obtain ⟨cs, rfl, hsz⟩ := okWide_struct Try.underlying43 hv
  obtain ⟨fuel, h⟩ := h
  obtain ⟨y, e, hv', hb⟩ := open_O h
  obtain ⟨i, fv, l⟩ := y
  obtain ⟨a, n, c, rfl, _⟩ := VsAt.shape hv'
  obtain ⟨L⟩ := cs
  simp only [Value.cells, oc] at e
  subst e
  exact ⟨i, a, n, c, l, rfl, hv', by simp only at hb; omega⟩
theorem in_value (hv : Value.okWide Try.prog W r b0 31 v) (h : DataW.Trod enc Try.prog W 0 (fun _ => true) true 31 v d p) : ∃ (b : Bool) (i : Int), v = .agg #[.bool b, .int .i64 i] := by
  obtain ⟨cs, rfl, hsz⟩ := okWide_struct Try.underlying31 hv
  obtain ⟨fuel, h⟩ := h
  obtain ⟨y, e⟩ := open_V h
  obtain ⟨L⟩ := cs
  simp only [Value.cells, vc] at e
  subst e
  exact ⟨y.1, y.2, rfl⟩
theorem back {t : TypeId} (hr : Try.prog.readableRec t = true) (hrow : t < Try.prog.types.size) {W' : World} (h : DataW.Trod enc Try.prog W 0 (fun _ => true) true t v d p) (hb : Below W.heap.size W W') (hlt : ∀ x ∈ p, x.block < W.heap.size) : DataW.Trod enc Try.prog W' 0 (fun b => decide (b < W.heap.size)) true t v d p :=
  Below.trod laid_out hr hrow h hb hlt
end
end Go.Proofs.Ytbnippldclpclaa
