/- Lists of one: what a fresh block holds. -/
import Derived.Test.YtilholgbepfopaaDoorSSame
namespace Go.Proofs.YtilholgbepfopaaDoor
open Go.RowKit

theorem sl_one (w : World) (cs : List Value) (t : TypeId) : SlAt (w.alloc (.cells cs.toArray t)) cs.length (.slice (some ⟨w.heap.size, 0, none⟩) 1 1) 1 cs := by
  refine .inr ⟨_, _, rfl, Nat.le_refl _, by rw [Nat.one_mul], fun j u hj => ?_⟩
  rw [addr_add, Nat.zero_add, cell_of_row _ _ j _ _ _ (heap_alloc_new w _)]
  simpa using hj
theorem ExsAt.nil (w : World) : ExsAt w (.slice none 0 0) [] := ⟨[], .inl ⟨rfl, rfl, rfl⟩, rfl⟩
theorem StsAt.nil (w : World) : StsAt w (.slice none 0 0) [] := ⟨[], .inl ⟨rfl, rfl, rfl⟩, rfl⟩
theorem FnsAt.nil (w : World) : FnsAt w (.slice none 0 0) [] := ⟨[], .inl ⟨rfl, rfl, rfl⟩, rfl⟩
theorem NmsAt.nil (w : World) : NmsAt w (.slice none 0 0) [] := .inl ⟨rfl, rfl, rfl⟩
theorem exs_one (w : World) (e : Ex) (v : Value) (h : ExsAt w v e.l) : ExsAt (w.alloc (.cells #[.int .i64 e.kind, .int .i64 e.n, .string e.name, .int .i64 e.op, v] 42)) (.slice (some ⟨w.heap.size, 0, none⟩) 1 1) [e] := by
  refine ⟨[exC e v], sl_one w (exC e v) 42, ?_⟩
  have h2 := h.below (below1 w (.cells #[.int .i64 e.kind, .int .i64 e.n, .string e.name, .int .i64 e.op, v] 42))
  unfold ExL
  refine ⟨_, [], rfl, ?_, by unfold ExL; rfl⟩
  cases e
  unfold ExAt
  exact ⟨v, rfl, h2⟩
theorem sts_one (w : World) (s : St) (u x y : Value) (hu : ExsAt w u s.exprs) (hx : StsAt w x s.body) (hy : StsAt w y s.els) : StsAt (w.alloc (.cells #[.int .i64 s.kind, .string s.name, .string s.fn, .int .i64 s.n, .int .i64 s.op, u, x, y] 40)) (.slice (some ⟨w.heap.size, 0, none⟩) 1 1) [s] := by
  refine ⟨[stC s u x y], sl_one w (stC s u x y) 40, ?_⟩
  have b := below1 w (.cells #[.int .i64 s.kind, .string s.name, .string s.fn, .int .i64 s.n, .int .i64 s.op, u, x, y] 40)
  have h1 := hu.below b
  have h2 := hx.below b
  have h3 := hy.below b
  unfold StL
  refine ⟨_, [], rfl, ?_, by unfold StL; rfl⟩
  cases s
  unfold StAt
  exact ⟨u, x, y, rfl, h1, h2, h3⟩
theorem fns_one (w : World) (f : Fn) (u x : Value) (hu : NmsAt w u f.params) (hx : StsAt w x f.body) : FnsAt (w.alloc (.cells #[.string f.name, u, x] 35)) (.slice (some ⟨w.heap.size, 0, none⟩) 1 1) [f] := by
  refine ⟨[[.string f.name, u, x]], sl_one w [.string f.name, u, x] 35, ?_⟩
  have b := below1 w (.cells #[.string f.name, u, x] 35)
  unfold FnL
  exact ⟨_, [], rfl, ⟨u, x, rfl, hu.below b, hx.below b⟩, by unfold FnL; rfl⟩
end Go.Proofs.YtilholgbepfopaaDoor
