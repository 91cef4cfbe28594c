/- General: a bool handed back; comparing two lists from a place on; blocks of cells; worlds that have drawn. -/
import Derived.Test.YtilholgbepfopaaDoorHKit
namespace Go.Proofs.YtilholgbepfopaaDoor
open Go.RowKit

/-- two lists from place k on -/
def eqFrom {α : Type} [DecidableEq α] (A B : List α) (k : Nat) : Bool := decide (A.drop k = B.drop k)
theorem eqFrom_zero {α : Type} [DecidableEq α] (A B : List α) : eqFrom A B 0 = decide (A = B) := by unfold eqFrom; simp
theorem eqFrom_end {α : Type} [DecidableEq α] (A B : List α) (k : Nat) (h : A.length ≤ k) (h2 : B.length ≤ k) : eqFrom A B k = true := by
  unfold eqFrom
  rw [List.drop_eq_nil_of_le h, List.drop_eq_nil_of_le h2]
  rfl
theorem eqFrom_same {α : Type} [DecidableEq α] {A B : List α} {k : Nat} {x : α} (h : A[k]? = some x) (h2 : B[k]? = some x) : eqFrom A B k = eqFrom A B (k + 1) := by
  obtain ⟨h1, e1⟩ := List.getElem?_eq_some_iff.1 h
  obtain ⟨h3, e3⟩ := List.getElem?_eq_some_iff.1 h2
  unfold eqFrom
  rw [List.drop_eq_getElem_cons h1, List.drop_eq_getElem_cons h3, e1, e3]
  simp
theorem eqFrom_other {α : Type} [DecidableEq α] {A B : List α} {k : Nat} {x y : α} (h : A[k]? = some x) (h2 : B[k]? = some y) (hn : x ≠ y) : eqFrom A B k = false := by
  obtain ⟨h1, e1⟩ := List.getElem?_eq_some_iff.1 h
  obtain ⟨h3, e3⟩ := List.getElem?_eq_some_iff.1 h2
  unfold eqFrom
  rw [List.drop_eq_getElem_cons h1, List.drop_eq_getElem_cons h3, e1, e3]
  simp [hn]
theorem eq_lens {α : Type} [DecidableEq α] {A B : List α} (h : A.length ≠ B.length) : decide (A = B) = false := by
  apply decide_eq_false
  rintro rfl
  exact h rfl

theorem Below.drewN {B : Nat} {w w' : World} (h : Below B w w') (n : Nat) : Below B w (w'.drewN n) := ⟨h.os, h.tape, h.output, h.size, h.block⟩

/-- block b holds these cells, and they may be written -/
structure CsAt (w : World) (b : Nat) (cs : List Value) : Prop where
  cell : ∀ j u, cs[j]? = some u → w.cell? ⟨b, j, none⟩ = some u
  fr : ∀ j, w.frozen? ⟨b, j, none⟩ = false
  lt : b < w.heap.size
theorem CsAt.new (w : World) (cs : List Value) (t : TypeId) : CsAt (w.alloc (.cells cs.toArray t)) w.heap.size cs :=
  ⟨fun j u hj => by rw [cell_of_row _ _ j _ _ _ (heap_alloc_new w _)]; simpa using hj, fun j => frozen_of_row _ _ j _ _ (heap_alloc_new w _), by simp⟩
theorem CsAt.newAt (w : World) (k : Nat) (h : w.heap.size = k) (cs : List Value) (t : TypeId) : CsAt (w.alloc (.cells cs.toArray t)) k cs := h ▸ CsAt.new w cs t
theorem CsAt.below {w w' : World} {b : Nat} {cs : List Value} (h : CsAt w b cs) (hb : Below w.heap.size w w') : CsAt w' b cs :=
  ⟨fun j u hj => (hb.cell (p := ⟨b, j, none⟩) h.lt).trans (h.cell j u hj), fun j => (hb.frozen (p := ⟨b, j, none⟩) h.lt).trans (h.fr j), Nat.lt_of_lt_of_le h.lt hb.size⟩
theorem CsAt.alloc {w : World} {b : Nat} {cs : List Value} (h : CsAt w b cs) (o : Obj) : CsAt (w.alloc o) b cs := h.below (below1 w o)
theorem below_drew' (w : World) : Below w.heap.size w w.drew := (Below.refl _ _).drew
theorem CsAt.set {w : World} {b : Nat} {cs : List Value} (h : CsAt w b cs) {k : Nat} (hk : k < cs.length) (u : Value) : CsAt (w.setCell ⟨b, k, none⟩ u) b (cs.set k u) := by
  refine ⟨fun j v hj => ?_, fun j => by simpa using h.fr j, by simpa [World.setCell] using h.lt⟩
  rw [List.getElem?_set] at hj
  by_cases e : k = j
  · subst e
    rw [if_pos rfl, if_pos hk] at hj
    obtain rfl := Option.some.inj hj
    exact World.cell?_setCell_same' _ _ _ (by rw [h.cell k _ (List.getElem?_eq_getElem hk)]; rfl)
  · rw [if_neg e] at hj
    exact (World.cell?_setCell_other _ _ _ _ (by intro e2; exact e (by cases e2; rfl))).trans (h.cell j v hj)
theorem CsAt.far {w : World} {b : Nat} {cs : List Value} (h : CsAt w b cs) {p : Addr} (hp : b ≠ p.block) (u : Value) : CsAt (w.setCell p u) b cs :=
  have hh : (w.setCell p u).heap[b]? = w.heap[b]? := Below.heap_setCell w p u b hp
  ⟨fun j v hj => (World.cell?_of_block (a := ⟨b, j, none⟩) hh).trans (h.cell j v hj), fun j => (World.frozen?_of_block (a := ⟨b, j, none⟩) hh).trans (h.fr j), by simpa [World.setCell] using h.lt⟩
end Go.Proofs.YtilholgbepfopaaDoor
