/- Copies of the statements' own: objects, a heap. -/
import Derived.Test.YtbnippldclpclaaHPut
namespace Go.Proofs.Ytbnippldclpclaa
open Go.RowKit

/-- a list of objects that reads as O -/
def RetKs (w : World) (O : List Ob) (e : Ending) (w' : World) : Prop := ∃ v L', e = .returned v ∧ OsOwn w' w.heap.size v L' ∧ obs L' = O ∧ Below w.heap.size w w'
/-- the fields of an object lie in old memory, or in a row of their own -/
def KeepV (w wr : World) (g : Nat) (old : Prop) (x : Lob) : Prop := (old ∧ VsAt w x.fv x.vals) ∨ (VsOwn wr w.heap.size x.fv x.vals ∧ x.fv.ownBlock ≠ some g)
theorem KeepV.at_ {w wr : World} {g : Nat} {old : Prop} {x : Lob} (h : KeepV w wr g old x) (hb : Below w.heap.size w wr) : VsAt wr x.fv x.vals := by
  rcases h with h | h
  · exact h.2.below hb
  · exact h.1.at_
theorem KeepV.below {w wr w' : World} {g : Nat} {old : Prop} {x : Lob} (h : KeepV w wr g old x) (hb : Below wr.heap.size wr w') : KeepV w w' g old x := by
  rcases h with h | h
  · exact .inl h
  · exact .inr ⟨h.1.below hb, h.2⟩
theorem KeepV.set {w wr : World} {g o : Nat} {old : Prop} {x : Lob} (h : KeepV w wr g old x) (u : Value) : KeepV w (wr.setCell ⟨g, o, none⟩ u) g old x := by
  rcases h with h | h
  · exact .inl h
  · exact .inr ⟨own_far h.1 (p := ⟨g, o, none⟩) h.2 u, h.2⟩
theorem short_mem {L L' : List Lob} (hL : ∀ x ∈ L, x.vals.length ≤ 1000000000) (h : obs L' = obs L) {k : Nat} {x : Lob} (hk : L'[k]? = some x) : x.vals.length ≤ 1000000000 := by
  have h1 := obs_at hk
  rw [h] at h1
  obtain ⟨y, hy, e⟩ := List.mem_map.1 (List.mem_of_getElem? h1)
  have : y.vals = x.vals := congrArg Prod.snd e
  rw [← this]
  exact hL y hy
theorem flat_setF (L : List Lob) (k : Nat) (x y : Lob) (hk : L[k]? = some x) (hid : y.id = x.id) : (L.flatMap oc).set (k * 2 + 1) y.fv = (L.set k y).flatMap oc := by
  have hlt := (List.getElem?_eq_some_iff.1 hk).1
  have h := flat_set L k y
  rw [if_pos hlt] at h
  rw [← h]
  congr 1
  apply List.ext_getElem?
  intro j
  rw [List.getElem?_set]
  split
  · rename_i e
    subst e
    rw [if_pos (by rw [oc_len]; omega), (oc_at L k x hk).1, hid]
  · rfl

end Go.Proofs.Ytbnippldclpclaa
