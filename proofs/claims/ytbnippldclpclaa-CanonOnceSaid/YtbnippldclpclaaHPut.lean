/- Put of the program. -/
import Derived.Test.YtbnippldclpclaaHRWrite
namespace Go.Proofs.Ytbnippldclpclaa
open Go.RowKit

def putD (L : List Lob) (o : Ob) : List Ob := if isIn L o.1 then (obs L).set (idx L o.1) o else (obs L).take (pos L o.1) ++ o :: (obs L).drop (pos L o.1)
/-- a heap -/
def RetP (w : World) (O : List Ob) (e : Ending) (w' : World) : Prop := ∃ v L', e = .returned (.agg #[v]) ∧ OsAt w' v L' ∧ obs L' = O ∧ Below w.heap.size w w'
/-- a heap in new memory -/
def RetPO (w : World) (O : List Ob) (e : Ending) (w' : World) : Prop := ∃ v L', e = .returned (.agg #[v]) ∧ OsOwn w' w.heap.size v L' ∧ obs L' = O ∧ Below w.heap.size w w'
theorem OsOwn.mono {w : World} {B B' : Nat} {v : Value} {L : List Lob} (h : OsOwn w B v L) (hb : B' ≤ B) : OsOwn w B' v L := ⟨own_mono h.row hb, fun x hx => (h.vals x hx).mono hb⟩
theorem Deep.own_ {w : World} {B : Nat} {v : Value} {L : List Lob} (h : Deep w B v L) : OsOwn w B v L := ⟨h.row, h.vals⟩
theorem findI_out {L : List Lob} {id : Int} (h : isIn L id = false) : findI L id = pos L id := by
  have h' : ¬ idx L id < L.length := of_decide_eq_false h
  unfold findI
  rw [if_neg h']
theorem short_obs {L L' : List Lob} (h : obs L' = obs L) (hL : Short L) : Short L' := by
  refine ⟨by rw [← obs_len L', h, obs_len]; exact hL.1, fun x hx => ?_⟩
  have h1 : x.ob ∈ obs L' := List.mem_map_of_mem hx
  rw [h] at h1
  obtain ⟨y, hy, e⟩ := List.mem_map.1 h1
  have : y.vals = x.vals := congrArg Prod.snd e
  rw [← this]
  exact hL.2 y hy
theorem obs_ins (L : List Lob) (k : Nat) (x : Lob) : obs (insL L k x) = (obs L).take k ++ x.ob :: (obs L).drop k := by
  unfold obs insL
  rw [List.map_append, List.map_cons, List.map_take, List.map_drop]
theorem two_one (w : World) (p q r s : Value) (t t' t'' : TypeId) : ∃ W, ((w.alloc (.cells #[p] t)).alloc (.cells #[q, r] t')).alloc (.cells #[s] t'') = W ∧ Below w.heap.size w W ∧ At1 W w.heap.size p ∧ At2 W (w.heap.size + 1) q r ∧ At1 W (w.heap.size + 1 + 1) s ∧ W.heap.size = w.heap.size + 3 := three_new w p q r s t t' t''

end Go.Proofs.Ytbnippldclpclaa
