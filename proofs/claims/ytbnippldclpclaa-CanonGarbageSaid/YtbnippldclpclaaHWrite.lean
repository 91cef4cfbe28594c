/- Write of the program. -/
import Derived.Test.YtbnippldclpclaaHRead
namespace Go.Proofs.Ytbnippldclpclaa
open Go.RowKit

def writeD (L : List Lob) (id f : Int) (v : V) : List Ob := if hasCell L id f then (match L[idx L id]? with | some x => (obs L).set (idx L id) (x.id, x.vals.set f.toNat v) | none => []) else []
/-- a heap, and whether it is one -/
def RetW (w : World) (O : List Ob) (b : Bool) (e : Ending) (w' : World) : Prop := ∃ v L', e = .returned (.tuple #[.agg #[v], .bool b]) ∧ OsAt w' v L' ∧ obs L' = O ∧ Below w.heap.size w w'
theorem obs_set (L : List Lob) (k : Nat) (x : Lob) : obs (L.set k x) = (obs L).set k x.ob := by unfold obs; rw [List.map_set]

/-- the heap L, in rows that the call owns -/
structure OsOwn (w : World) (B : Nat) (v : Value) (L : List Lob) : Prop where
  row : w.ownsRow B 43 2 v L.length (L.flatMap oc)
  vals : ∀ x ∈ L, VsOwn w B x.fv x.vals
theorem OsOwn.at_ {w : World} {B : Nat} {v : Value} {L : List Lob} (h : OsOwn w B v L) : OsAt w v L := ⟨own_sl h.row, fun x hx => (h.vals x hx).at_⟩
theorem OsOwn.far {w : World} {B : Nat} {v : Value} {L : List Lob} (h : OsOwn w B v L) {p : Addr} (hp : p.block < B) (u : Value) : OsOwn (w.setCell p u) B v L :=
  ⟨ownsRow_setCell_below h.row hp u, fun x hx => (h.vals x hx).set hp u⟩
theorem OsOwn.below {w w' : World} {B : Nat} {v : Value} {L : List Lob} (h : OsOwn w B v L) (hb : Below w.heap.size w w') : OsOwn w' B v L :=
  ⟨own_below h.row hb, fun x hx => (h.vals x hx).below hb⟩
theorem OsOwn.drew {w : World} {B : Nat} {v : Value} {L : List Lob} (h : OsOwn w B v L) : OsOwn w.drew B v L := h.below (below_drew w)
/-- a value is stored into field m of object k -/
theorem Deep.field {w : World} {B k m n c gf : Nat} {v : Value} {L : List Lob} (h : Deep w B v L) {x : Lob} (hk : L[k]? = some x) (hf : x.fv = .slice (some ⟨gf, 0, none⟩) n c) (hm : m < x.vals.length) (y : V) :
    OsOwn ((w.setCell ⟨gf, m * 2, none⟩ (.bool y.1)).setCell ⟨gf, m * 2 + 1, none⟩ (.int .i64 y.2)) B v (L.set k ⟨x.id, x.fv, x.vals.set m y⟩) := by
  have hmem := List.mem_of_getElem? hk
  have hlt := (List.getElem?_eq_some_iff.1 hk).1
  have hgf : x.fv.ownBlock = some gf := by rw [hf]; rfl
  have hoff := h.off x hmem gf hgf
  have hn : n = x.vals.length := by
    obtain ⟨a, c', e⟩ := SlAt.shape (h.vals x hmem).at_
    rw [hf] at e
    obtain ⟨_, e, _⟩ := Value.slice.inj e
    exact e
  have hcells : (L.set k ⟨x.id, x.fv, x.vals.set m y⟩).flatMap oc = L.flatMap oc := by
    have h1 : (L.set k ⟨x.id, x.fv, x.vals.set m y⟩).flatMap oc = (L.set k x).flatMap oc := by
      simp only [List.flatMap_def, List.map_set]
      rfl
    rw [h1]
    congr 1
    apply List.ext_getElem?
    intro j
    rw [List.getElem?_set]
    split
    · rename_i e
      subst e
      first | rw [if_pos hlt, hk] | rw [hk]
    · rfl
  refine ⟨?_, ?_⟩
  · rw [hcells, List.length_set]
    exact own_far (own_far h.row (p := ⟨gf, m * 2, none⟩) hoff _) (p := ⟨gf, m * 2 + 1, none⟩) hoff _
  · intro z hz
    obtain ⟨j, hj⟩ := List.getElem?_of_mem hz
    rw [List.getElem?_set] at hj
    by_cases hkj : k = j
    · rw [if_pos hkj, if_pos (by omega)] at hj
      obtain rfl := Option.some.inj hj
      have hown := h.vals x hmem
      unfold VsOwn at hown
      rw [hf, ← hn] at hown
      have h1 := (World.ownsRow.stored (World.ownsRow.stored hown (m * 2) (.bool y.1)).1 (m * 2 + 1) (.int .i64 y.2)).1
      rw [flat_setV, if_pos hm] at h1
      show VsOwn _ B x.fv (x.vals.set m y)
      unfold VsOwn
      rw [hf, List.length_set, ← hn]
      exact h1
    · rw [if_neg hkj] at hj
      have hzm := List.mem_of_getElem? hj
      have hne : z.fv.ownBlock ≠ some gf := fun e => hkj (h.apart k j x z gf hk hj hgf e)
      exact own_far (own_far (h.vals z hzm) (p := ⟨gf, m * 2, none⟩) hne _) (p := ⟨gf, m * 2 + 1, none⟩) hne _
theorem obs_get {L L' : List Lob} (h : obs L' = obs L) {k : Nat} {x : Lob} (hk : L[k]? = some x) : ∃ x', L'[k]? = some x' ∧ x'.id = x.id ∧ x'.vals = x.vals := by
  have h1 := obs_at hk
  rw [← h] at h1
  unfold obs at h1
  rw [List.getElem?_map] at h1
  cases hx : L'[k]? with
  | none => rw [hx] at h1; cases h1
  | some x' =>
    rw [hx] at h1
    have h2 : x'.ob = x.ob := Option.some.inj h1
    exact ⟨x', rfl, congrArg Prod.fst h2, congrArg Prod.snd h2⟩
theorem own_pos {w : World} {B : Nat} {v : Value} {l : List V} (h : VsOwn w B v l) (hl : 0 < l.length) : ∃ gf c, v = .slice (some ⟨gf, 0, none⟩) l.length c ∧ B ≤ gf ∧ gf < w.heap.size := by
  rcases h.2 with ⟨_, hn⟩ | ⟨g, cap, cur, rfl, hb, hg, _⟩
  · omega
  · exact ⟨g, cap, rfl, hb, (Array.getElem?_eq_some_iff.1 hg).1⟩
theorem VsOwn.cells_ {w : World} {B gf n c m : Nat} {l : List V} (h : VsOwn w B (.slice (some ⟨gf, 0, none⟩) n c) l) {y : V} (hy : l[m]? = some y) :
    w.cell? ⟨gf, m * 2, none⟩ = some (.bool y.1) ∧ w.cell? ⟨gf, m * 2 + 1, none⟩ = some (.int .i64 y.2) ∧ w.frozen? ⟨gf, m * 2, none⟩ = false ∧ w.frozen? ⟨gf, m * 2 + 1, none⟩ = false := by
  have hn : n = l.length := by
    obtain ⟨a, c', e⟩ := SlAt.shape h.at_
    obtain ⟨_, e, _⟩ := Value.slice.inj e
    exact e
  subst hn
  have hlt := (List.getElem?_eq_some_iff.1 hy).1
  obtain ⟨h0, h1⟩ := vc_at l m y hy
  exact ⟨(World.ownsRow.cellAt h (m * 2) (by omega)).trans h0, (World.ownsRow.cellAt h (m * 2 + 1) (by omega)).trans h1, World.ownsRow.frozenAt h _, World.ownsRow.frozenAt h _⟩
theorem Deep.row_pos {w : World} {B : Nat} {v : Value} {L : List Lob} (h : Deep w B v L) (hl : 0 < L.length) : ∃ g c, v = .slice (some ⟨g, 0, none⟩) L.length c ∧ B ≤ g ∧ g < w.heap.size := by
  rcases h.row.2 with ⟨_, hn⟩ | ⟨g, cap, cur, rfl, hb, hg, _⟩
  · omega
  · exact ⟨g, cap, rfl, hb, (Array.getElem?_eq_some_iff.1 hg).1⟩
theorem three_new (w : World) (p q r s : Value) (t t' t'' : TypeId) : ∃ W, ((w.alloc (.cells #[p] t)).alloc (.cells #[q, r] t')).alloc (.cells #[s] t'') = W ∧ Below w.heap.size w W ∧ At1 W w.heap.size p ∧ At2 W (w.heap.size + 1) q r ∧ At1 W (w.heap.size + 1 + 1) s ∧ W.heap.size = w.heap.size + 3 :=
  ⟨_, rfl, Below.new (Below.new (below1 _ _) _) _, ((At1.new _ _ _).alloc _).alloc _, by simpa using (At2.new (w.alloc (.cells #[p] t)) q r t').alloc _, by simpa using At1.new ((w.alloc (.cells #[p] t)).alloc (.cells #[q, r] t')) s t'', by simp⟩

end Go.Proofs.Ytbnippldclpclaa
