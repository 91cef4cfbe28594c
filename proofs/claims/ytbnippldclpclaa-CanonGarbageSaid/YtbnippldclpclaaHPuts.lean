/- HeapPuts, walked. -/
import Derived.Test.YtbnippldclpclaaHLab
import Derived.Deep.DeepCutAuto
namespace Go.Proofs.Ytbnippldclpclaa
open Go.RowKit

theorem OAt.firsts {w : World} {a : Option Addr} {n c k : Nat} {O : List Ob} (h : OAt w (.slice a n c) O) (hk : k ≤ n) : OAt w (.slice a k c) (O.take k) := by
  obtain ⟨L, h, rfl⟩ := h
  have hn : n = L.length := by
    obtain ⟨a', n', c', hv, hn⟩ := h.shape
    obtain ⟨_, e, _⟩ := Value.slice.inj hv
    rw [e]; exact hn.out
  refine ⟨L.take k, ⟨?_, fun x hx => h.2 x (List.mem_of_mem_take hx)⟩, by unfold obs; rw [List.map_take]⟩
  rw [List.length_take, ← hn, Nat.min_eq_left hk]
  exact h.take_ hn hk
theorem short_take {O : List Ob} (h : ShortO O) (k : Nat) : ShortO (O.take k) := ⟨by rw [List.length_take]; have := h.1; omega, fun x hx => h.2 x (List.mem_of_mem_take hx)⟩
theorem totalO_take (O : List Ob) (k : Nat) : totalO (O.take k) ≤ totalO O := by
  induction O generalizing k with
  | nil => simp [totalO]
  | cons y L ih =>
    cases k with
    | zero => simp [totalO]
    | succ k => simp only [List.take_succ_cons, totalO]; have := ih k; omega
theorem short_mem' {O : List Ob} {L : List Lob} (h : ShortO O) (hob : obs L = O) {k : Nat} {x : Lob} (hk : L[k]? = some x) : x.vals.length ≤ 1000000 := by
  have h1 := obs_at hk
  rw [hob] at h1
  exact h.2 _ (List.mem_of_getElem? h1)
theorem rem_nat (k t n : Nat) : ((k : Int) + (t : Int)).tmod (n : Int) = (((k + t) % n : Nat) : Int) := by
  rw [Int.tmod_eq_emod_of_nonneg (by omega), Int.natCast_emod, Int.natCast_add]
theorem two_heaps (w : World) (t : TypeId) : ∃ W, (w.alloc (.cells #[.slice none 0 0] t)).alloc (.cells #[.slice none 0 0] t) = W ∧ Below w.heap.size w W ∧ At1 W w.heap.size (.slice none 0 0) ∧ At1 W (w.heap.size + 1) (.slice none 0 0) ∧ W.heap.size = w.heap.size + 1 + 1 :=
  ⟨_, rfl, Below.new (below1 _ _) _, (At1.new _ _ _).alloc _, by simpa using At1.new (w.alloc (.cells #[.slice none 0 0] t)) (.slice none 0 0) t, by simp⟩
theorem two_last (w : World) (p q r s : Value) (t1 t2 : TypeId) : ∃ W, (w.alloc (.cells #[p, q] t1)).alloc (.cells #[r, s] t2) = W ∧ Below w.heap.size w W ∧ At2 W w.heap.size p q ∧ At2 W (w.heap.size + 1) r s ∧ W.heap.size = w.heap.size + 1 + 1 :=
  ⟨_, rfl, Below.new (below1 _ _) _, (At2.new _ _ _ _).alloc _, by simpa using At2.new (w.alloc (.cells #[p, q] t1)) r s t2, by simp⟩
theorem vs_one {w : World} {b : Nat} {x : V} (h : At2 w b (.bool x.1) (.int .i64 x.2)) : VsAt w (.slice (some ⟨b, 0, none⟩) 1 1) [x] := by
  refine .inr ⟨_, _, rfl, Nat.le_refl _, rfl, fun j u hj => ?_⟩
  rw [addr_add, Nat.zero_add]
  match j with
  | 0 => simp [vc] at hj; subst hj; exact h.c0
  | 1 => simp [vc] at hj; subst hj; exact h.c1
  | j + 2 => simp [vc] at hj
theorem keep3 {w wx : World} {p q : Nat} {u u0 u1 : Value} (hp : At1 w p u) (hq : At2 w q u0 u1) (hb : Below w.heap.size w wx) : wx.cell? ⟨p, 0, none⟩ = some u ∧ wx.cell? ⟨q, 0, none⟩ = some u0 ∧ wx.cell? ⟨q, 1, none⟩ = some u1 := ⟨(hp.below hb).c0, (hq.below hb).c0, (hq.below hb).c1⟩
theorem Below.set2 {w wx : World} (hb : Below w.heap.size w wx) {z : Nat} (hz : w.heap.size ≤ z) (a b : Value) : Below w.heap.size w ((wx.setCell ⟨z, 0, none⟩ a).setCell ⟨z, 1, none⟩ b) := (hb.setCell (p := ⟨z, 0, none⟩) hz a).setCell (p := ⟨z, 1, none⟩) hz b
theorem OwnAt.nil (w : World) (B : Nat) : OwnAt w B (.slice none 0 0) [] := ⟨[], ⟨ownO_nil w B, by intro x hx; cases hx⟩, rfl⟩
theorem OwnAt.mono {w : World} {B B' : Nat} {v : Value} {O : List Ob} (h : OwnAt w B v O) (hb : B' ≤ B) : OwnAt w B' v O := by
  obtain ⟨L, h, e⟩ := h
  exact ⟨L, h.mono hb, e⟩

end Go.Proofs.Ytbnippldclpclaa
