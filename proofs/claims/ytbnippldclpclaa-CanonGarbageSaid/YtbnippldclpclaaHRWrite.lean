/- Write of the reference. -/
import Derived.Test.YtbnippldclpclaaHWrite
import Derived.Deep.Cut
namespace Go.Proofs.Ytbnippldclpclaa
open Go.RowKit

section
variable {w : World} {ops : Array Oper} {rest : List Oper} {o : Oper} {a : Act} {Q : Exit → Act → World → Prop}
/-- append of objects to objects that the call owns -/
theorem appO (hgd : o.guard = none) (s x : Operand) (ho : o.op = .call { callee := .builtin .append, args := #[s, x], argTypes := #[26, 26] })
    (B : Nat) (v : Value) (n : Nat) (xs : List Value) (hs : a.eval s = v) (hown : w.ownsRow B 43 2 v n xs) (xv : Value) (m : Nat) (news : List Value) (hxe : a.eval x = xv) (hx : SlAt w 2 xv m news) (h1 : ∀ u ∈ news, u.oneCell' = true) (hn : n + m ≤ 1000000000) (hbase : B ≤ w.heap.size)
    (h : ∀ a' c' w', w'.ownsRow B 43 2 (.slice a' (n + m) c') (n + m) (xs ++ news) → w.grownBy w' v.ownBlock → ((Value.slice a' (n + m) c').ownBlock = v.ownBlock ∨ (Value.slice a' (n + m) c').ownBlock = some w.heap.size) → wpList Try.prog ops Q rest (a.put o.dst (.slice a' (n + m) c')) w') :
    wpList Try.prog ops Q (o :: rest) a w := by
  refine wpList_append_sl hgd s x 26 ho B 43 _ 2 32 Try.underlying26 info_O rfl (by decide) v n xs hs hown xv m news hxe hx h1 (by unfold maxLen; omega) (by omega) hbase ?_
  intro v' w' h1 h2 h3
  obtain ⟨a', c', rfl⟩ := SlAt.shape (own_sl h1)
  exact h a' c' w' h1 h2 h3
theorem appO_step {K : Act → World → Prop} {E : Prop} (hgd : o.guard = none) (s x : Operand) (ho : o.op = .call { callee := .builtin .append, args := #[s, x], argTypes := #[26, 26] })
    (B : Nat) (v : Value) (n : Nat) (xs : List Value) (hs : a.eval s = v) (hown : w.ownsRow B 43 2 v n xs) (xv : Value) (m : Nat) (news : List Value) (hxe : a.eval x = xv) (hx : SlAt w 2 xv m news) (h1 : ∀ u ∈ news, u.oneCell' = true) (hn : n + m ≤ 1000000000) (hbase : B ≤ w.heap.size)
    (h : ∀ a' c' w', w'.ownsRow B 43 2 (.slice a' (n + m) c') (n + m) (xs ++ news) → w.grownBy w' v.ownBlock → ((Value.slice a' (n + m) c').ownBlock = v.ownBlock ∨ (Value.slice a' (n + m) c').ownBlock = some w.heap.size) → K (a.put o.dst (.slice a' (n + m) c')) w') :
    if Region.wanted o (yielded ops a.tmps) = true then Oper.wp Try.prog o a w K Q else E := by
  refine step_append_sl hgd s x 26 ho B 43 _ 2 32 Try.underlying26 info_O rfl (by decide) v n xs hs hown xv m news hxe hx h1 (by unfold maxLen; omega) (by omega) hbase ?_
  intro v' w' h1 h2 h3
  obtain ⟨a', c', rfl⟩ := SlAt.shape (own_sl h1)
  exact h a' c' w' h1 h2 h3
end
theorem ownO_nil (w : World) (B : Nat) : w.ownsRow B 43 2 (.slice none 0 0) 0 [] := World.ownsRow_nil w B 43 2
theorem row_pos {w : World} {B n c : Nat} {a : Option Addr} {xs : List Value} (h : w.ownsRow B 43 2 (.slice a n c) n xs) (hl : 0 < n) : ∃ g, a = some ⟨g, 0, none⟩ ∧ B ≤ g ∧ g < w.heap.size := by
  rcases h.2 with ⟨_, hn⟩ | ⟨g, cap, cur, hv, hb, hg, _⟩
  · omega
  · obtain ⟨e, _, _⟩ := Value.slice.inj hv
    exact ⟨g, e, hb, (Array.getElem?_eq_some_iff.1 hg).1⟩
theorem row_cells {w : World} {B g n c k : Nat} {L : List Lob} (h : w.ownsRow B 43 2 (.slice (some ⟨g, 0, none⟩) n c) n (L.flatMap oc)) {x : Lob} (hk : L[k]? = some x) :
    w.cell? ⟨g, k * 2, none⟩ = some (.int .i64 x.id) ∧ w.cell? ⟨g, k * 2 + 1, none⟩ = some x.fv ∧ w.frozen? ⟨g, k * 2, none⟩ = false ∧ w.frozen? ⟨g, k * 2 + 1, none⟩ = false := by
  have hlt := (List.getElem?_eq_some_iff.1 hk).1
  have hl := h.1
  rw [oc_len] at hl
  obtain ⟨h0, h1⟩ := oc_at L k x hk
  exact ⟨(h.cellAt (k * 2) (by omega)).trans h0, (h.cellAt (k * 2 + 1) (by omega)).trans h1, h.frozenAt _, h.frozenAt _⟩

end Go.Proofs.Ytbnippldclpclaa
