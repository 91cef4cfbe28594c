import Derived.Test.YtilholgbepfopaaDoorZ4
import Derived.Test.YtilholgbepfopaaDoorZ5
/- Trees, compared; two boxes. -/
namespace Go.Proofs.YtilholgbepfopaaDoor
open Go.RowKit

noncomputable instance : DecidableEq Ex := fun _ _ => Classical.propDecidable _
noncomputable instance : DecidableEq St := fun _ _ => Classical.propDecidable _
noncomputable instance : DecidableEq Fn := fun _ _ => Classical.propDecidable _
theorem Ex.ext' {a b : Ex} (h1 : a.kind = b.kind) (h2 : a.n = b.n) (h3 : a.name = b.name) (h4 : a.op = b.op) (h5 : a.l = b.l) : a = b := by
  cases a; cases b
  simp only [Ex.kind, Ex.n, Ex.name, Ex.op, Ex.l] at *
  subst h1 h2 h3 h4 h5
  rfl
theorem two_boxes (w : World) (cs ds : List Value) (t : TypeId) : ∃ W, (w.alloc (.cells cs.toArray t)).alloc (.cells ds.toArray t) = W ∧ Below w.heap.size w W ∧ CsAt W w.heap.size cs ∧ CsAt W (w.heap.size + 1) ds :=
  ⟨_, rfl, Below.new (below1 _ _) _, (CsAt.new _ _ _).alloc _, CsAt.newAt _ _ (by simp) _ _⟩
theorem St.ext' {a b : St} (h1 : a.kind = b.kind) (h2 : a.name = b.name) (h3 : a.fn = b.fn) (h4 : a.n = b.n) (h5 : a.op = b.op) (h6 : a.exprs = b.exprs) (h7 : a.body = b.body) (h8 : a.els = b.els) : a = b := by
  cases a; cases b
  simp only [St.kind, St.name, St.fn, St.n, St.op, St.exprs, St.body, St.els] at *
  subst h1 h2 h3 h4 h5 h6 h7 h8
  rfl
theorem two_b1 (w : World) (p q : Value) (t : TypeId) : ∃ W, (w.alloc (.cells #[p] t)).alloc (.cells #[q] t) = W ∧ Below w.heap.size w W ∧ CsAt W w.heap.size [p] ∧ CsAt W (w.heap.size + 1) [q] :=
  ⟨_, rfl, Below.new (below1 _ _) _, (CsAt.new _ [p] _).alloc _, CsAt.newAt _ _ (by simp) [q] _⟩
end Go.Proofs.YtilholgbepfopaaDoor
