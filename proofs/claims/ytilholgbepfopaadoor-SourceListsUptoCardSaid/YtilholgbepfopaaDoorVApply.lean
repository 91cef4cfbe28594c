/- Apply. -/
import Derived.Test.YtilholgbepfopaaDoorVFns
namespace Go.Proofs.YtilholgbepfopaaDoor
open Go.RowKit Go.MapKept

/-- a value that is an integer, a fault, and nothing old has changed -/
def RetV (w : World) (n f : Int) (e : Ending) (w' : World) : Prop := e = .returned (.tuple #[.agg #[.bool false, .int .i64 n], .int .i64 f]) ∧ Below w.heap.size w w'
theorem retV {w w' : World} {n m f : Int} (h : m = n) (hb : Below w.heap.size w w') : RetV w n f (.returned (.tuple #[.agg #[.bool false, .int .i64 m], .int .i64 f])) w' := by subst h; exact ⟨rfl, hb⟩

/-- what lay there when a call began reads behind it as it did -/
theorem old_cells {W V : World} (hb : Below W.heap.size W V) (n k : Nat) (hn : n < W.heap.size) : V.cell? ⟨n, k, none⟩ = W.cell? ⟨n, k, none⟩ := by
  unfold World.cell?
  simp only [hb.block n hn]
theorem old_marks {W V : World} (hb : Below W.heap.size W V) (n k : Nat) (hn : n < W.heap.size) : V.frozen? ⟨n, k, none⟩ = W.frozen? ⟨n, k, none⟩ := by
  unfold World.frozen?
  simp only [hb.block n hn]
theorem last4 (w : World) (o1 o2 o3 o : Obj) : ((((w.alloc o1).alloc o2).alloc o3).alloc o).heap[w.heap.size + 1 + 1 + 1]? = some o := by simpa using (MapKept.heap_alloc (((w.alloc o1).alloc o2).alloc o3) o).1

theorem below_end {w : World} {o1 o2 o3 o : Obj} {w2 : World} (hb : Below ((((w.alloc o1).alloc o2).alloc o3).alloc o).heap.size ((((w.alloc o1).alloc o2).alloc o3).alloc o) w2) (a a' : Addr) (v v' : Value) (ha : w.heap.size ≤ a.block) (ha' : w.heap.size ≤ a'.block) :
    Below w.heap.size w ((w2.setCell a v).setCell a' v') :=
  (((((((Below.refl _ _).alloc (Nat.le_refl _) _).alloc (by simp) _).alloc (by simp; omega) _).alloc (by simp; omega) _).trans (hb.mono (by simp; omega))).setCell ha _).setCell ha' _
theorem below_end0 {w : World} {o1 o2 o3 o : Obj} :
    Below w.heap.size w ((((w.alloc o1).alloc o2).alloc o3).alloc o) :=
  ((((Below.refl _ _).alloc (Nat.le_refl _) _).alloc (by simp) _).alloc (by simp; omega) _).alloc (by simp; omega) _

end Go.Proofs.YtilholgbepfopaaDoor
