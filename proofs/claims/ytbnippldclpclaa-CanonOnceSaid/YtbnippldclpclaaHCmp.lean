/- Comparing: lists of values, objects, heaps. -/
import Derived.Test.YtbnippldclpclaaHEq
import Derived.Test.YtbnippldclpclaaBEq
namespace Go.Proofs.Ytbnippldclpclaa
open Go.RowKit

theorem VsAt.elem {w : World} {v : Value} {L : List V} (h : VsAt w v L) {k : Nat} {x : V} (hk : L[k]? = some x) :
    ∃ b o c, v = .slice (some ⟨b, o, none⟩) L.length c ∧ b < w.heap.size ∧ w.cell? ⟨b, o + k * 2, none⟩ = some (.bool x.1) ∧ w.cell? ⟨b, o + k * 2 + 1, none⟩ = some (.int .i64 x.2) := by
  have hlt := (List.getElem?_eq_some_iff.1 hk).1
  obtain ⟨b, o, c, hv, hb, hc⟩ := SlAt.pos h (by omega) (by decide)
  obtain ⟨h0, h1⟩ := vc_at L k x hk
  exact ⟨b, o, c, hv, hb, hc _ _ h0, by rw [Nat.add_assoc]; exact hc _ _ h1⟩
theorem VsAt.shape {w : World} {v : Value} {L : List V} (h : VsAt w v L) : ∃ a n c, v = .slice a n c ∧ Hid (n = L.length) := by
  obtain ⟨a, c, e⟩ := SlAt.shape h
  exact ⟨a, _, c, e, rfl⟩
def obs (L : List Lob) : List Ob := L.map Lob.ob
theorem obs_at {L : List Lob} {k : Nat} {x : Lob} (h : L[k]? = some x) : (obs L)[k]? = some x.ob := by unfold obs; rw [List.getElem?_map, h]; rfl
theorem obs_len (L : List Lob) : (obs L).length = L.length := by simp [obs]

def sameO (x y : Lob) : Bool := x.id == y.id && decide (x.vals = y.vals)
theorem sameO_iff (x y : Lob) : sameO x y = true ↔ x.ob = y.ob := by unfold sameO Lob.ob; simp
theorem sameO_false {x y : Lob} (h : sameO x y = false) : x.ob ≠ y.ob := by
  intro e
  rw [(sameO_iff x y).2 e] at h
  cases h

def sameL (L M : List Lob) : Bool := decide (obs L = obs M)
def Short (L : List Lob) : Prop := L.length ≤ 1000000000 ∧ ∀ x ∈ L, x.vals.length ≤ 1000000000
end Go.Proofs.Ytbnippldclpclaa
