/- General: what lay before stays; a bool handed back. -/
import Derived.WalkKit
import Derived.WalkSpells
import Derived.Lib.Hide
import Derived.Test.YtilholgbepfopaaDoorRows
namespace Go.Proofs.YtilholgbepfopaaDoor
open Go.RowKit

theorem Below.new {w w' : World} (hb : Below w.heap.size w w') (o : Obj) : Below w.heap.size w (w'.alloc o) := hb.alloc hb.size o
theorem Below.then_ {w w' w'' : World} (h : Below w.heap.size w w') (h2 : Below w'.heap.size w' w'') : Below w.heap.size w w'' := h.trans (h2.mono h.size)
theorem _root_.Go.RowKit.Below.then_' {w w' w'' : World} (h : Below w.heap.size w w') (h2 : Below w'.heap.size w' w'') : Below w.heap.size w w'' := h.trans (h2.mono h.size)
theorem below1 (w : World) (o : Obj) : Below w.heap.size w (w.alloc o) := (Below.refl _ _).alloc (Nat.le_refl _) _
def RetB (w : World) (b : Bool) (e : Ending) (w' : World) : Prop := e = .returned (.bool b) ∧ Below w.heap.size w w'
theorem retB {w w' : World} {a b : Bool} (h : a = b) (hb : Below w.heap.size w w') : RetB w b (.returned (.bool a)) w' := by subst h; exact ⟨rfl, hb⟩
end Go.Proofs.YtilholgbepfopaaDoor
