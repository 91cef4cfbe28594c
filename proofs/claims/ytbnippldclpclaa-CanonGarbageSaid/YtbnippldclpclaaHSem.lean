/- What the functions of heap give, said of objects without their places. -/
import Derived.Test.YtbnippldclpclaaHKeep
import Derived.Test.YtbnippldclpclaaHRPut
namespace Go.Proofs.Ytbnippldclpclaa
open Go.RowKit

def idxO (O : List Ob) (id : Int) : Nat := O.findIdx fun x => x.1 == id
def posO (O : List Ob) (id : Int) : Nat := O.findIdx fun x => decide (id < x.1)
def inO (O : List Ob) (id : Int) : Bool := decide (idxO O id < O.length)
def getO (O : List Ob) (id : Int) : Ob := match O[idxO O id]? with | some x => x | none => (0, [])
def cellO (O : List Ob) (id f : Int) : Option V := match O[idxO O id]? with
  | some x => if f < 0 then none else x.2[f.toNat]?
  | none => none
def hasO (O : List Ob) (id f : Int) : Bool := (cellO O id f).isSome
def readO (O : List Ob) (id f : Int) : V := (cellO O id f).getD (false, 0)
def putO (O : List Ob) (o : Ob) : List Ob := if inO O o.1 then O.set (idxO O o.1) o else O.take (posO O o.1) ++ o :: O.drop (posO O o.1)
def writeO (O : List Ob) (id f : Int) (v : V) : List Ob := if hasO O id f then (match O[idxO O id]? with | some x => O.set (idxO O id) (x.1, x.2.set f.toNat v) | none => []) else []
def ascO (last : Int) : List Ob → Bool
  | [] => true
  | x :: r => decide (last < x.1) && ascO x.1 r

theorem findIdx_obs (L : List Lob) (p : Ob → Bool) : (obs L).findIdx p = L.findIdx fun x => p x.ob := by
  unfold obs
  rw [List.findIdx_map]
  rfl
theorem idx_obs (L : List Lob) (id : Int) : idx L id = idxO (obs L) id := by
  unfold idx idxO
  rw [findIdx_obs]
  rfl
theorem pos_obs (L : List Lob) (id : Int) : pos L id = posO (obs L) id := by
  unfold pos posO
  rw [findIdx_obs]
  rfl
theorem isIn_obs (L : List Lob) (id : Int) : isIn L id = inO (obs L) id := by unfold isIn inO; rw [idx_obs, obs_len]
theorem get_obs (L : List Lob) (k : Nat) : (obs L)[k]? = L[k]?.map Lob.ob := by unfold obs; rw [List.getElem?_map]
theorem obD_obs (L : List Lob) (id : Int) : obD L id = getO (obs L) id := by
  unfold obD getO
  rw [idx_obs, get_obs]
  cases L[idxO (obs L) id]? <;> rfl
theorem cellOf_obs (L : List Lob) (id f : Int) : cellOf L id f = cellO (obs L) id f := by
  unfold cellOf cellO
  rw [idx_obs, get_obs]
  cases L[idxO (obs L) id]? <;> rfl
theorem hasCell_obs (L : List Lob) (id f : Int) : hasCell L id f = hasO (obs L) id f := by unfold hasCell hasO; rw [cellOf_obs]
theorem cellD_obs (L : List Lob) (id f : Int) : cellD L id f = readO (obs L) id f := by unfold cellD readO; rw [cellOf_obs]
theorem putD_obs (L : List Lob) (o : Ob) : putD L o = putO (obs L) o := by unfold putD putO; rw [isIn_obs, idx_obs, pos_obs]
theorem writeD_obs (L : List Lob) (id f : Int) (v : V) : writeD L id f v = writeO (obs L) id f v := by
  unfold writeD writeO
  rw [hasCell_obs, idx_obs, get_obs]
  cases L[idxO (obs L) id]? <;> rfl
theorem asc_obs (last : Int) (L : List Lob) : asc last L = ascO last (obs L) := by
  induction L generalizing last with
  | nil => rfl
  | cons x L ih => simp only [asc, obs, List.map_cons, ascO]; rw [ih]; rfl
/-- a heap and its reading -/
def OAt (w : World) (v : Value) (O : List Ob) : Prop := ∃ L, OsAt w v L ∧ obs L = O
def ShortO (O : List Ob) : Prop := O.length ≤ 1000000 ∧ ∀ x ∈ O, x.2.length ≤ 1000000
theorem shortO {L : List Lob} (h : ShortO (obs L)) : Short L :=
  ⟨by have := h.1; rw [obs_len] at this; omega, fun x hx => by have := h.2 x.ob (List.mem_map_of_mem hx); have e : x.ob.2 = x.vals := rfl; rw [e] at this; omega⟩
def OwnAt (w : World) (B : Nat) (v : Value) (O : List Ob) : Prop := ∃ L, OsOwn w B v L ∧ obs L = O
theorem OwnAt.at_ {w : World} {B : Nat} {v : Value} {O : List Ob} (h : OwnAt w B v O) : OAt w v O := by
  obtain ⟨L, h, e⟩ := h
  exact ⟨L, h.at_, e⟩
theorem OwnAt.set {w : World} {B : Nat} {v : Value} {O : List Ob} (h : OwnAt w B v O) {p : Addr} (hp : p.block < B) (u : Value) : OwnAt (w.setCell p u) B v O := by
  obtain ⟨L, h, e⟩ := h
  exact ⟨L, h.far hp u, e⟩
theorem OwnAt.below {w w' : World} {B : Nat} {v : Value} {O : List Ob} (h : OwnAt w B v O) (hb : Below w.heap.size w w') : OwnAt w' B v O := by
  obtain ⟨L, h, e⟩ := h
  exact ⟨L, h.below hb, e⟩
theorem OAt.below {w w' : World} {v : Value} {O : List Ob} (h : OAt w v O) (hb : Below w.heap.size w w') : OAt w' v O := by
  obtain ⟨L, h, e⟩ := h
  exact ⟨L, h.below hb, e⟩
theorem OAt.shape {w : World} {v : Value} {O : List Ob} (h : OAt w v O) : ∃ a n c, v = .slice a n c ∧ Hid (n = O.length) := by
  obtain ⟨L, h, e⟩ := h
  obtain ⟨a, n, c, hv, hn⟩ := OsAt.shape h
  exact ⟨a, n, c, hv, by rw [← e, obs_len]; exact hn⟩

theorem OAt.len {w : World} {a : Option Addr} {n c : Nat} {O : List Ob} (h : OAt w (.slice a n c) O) : n = O.length := by
  obtain ⟨a', n', c', hv, hn⟩ := h.shape
  obtain ⟨_, e, _⟩ := Value.slice.inj hv
  rw [e]
  exact hn.out

/-- a heap -/
def RH (w : World) (O : List Ob) (e : Ending) (w' : World) : Prop := ∃ a n c, e = .returned (.agg #[.slice a n c]) ∧ OAt w' (.slice a n c) O ∧ Below w.heap.size w w'
def RHB (w : World) (O : List Ob) (b : Bool) (e : Ending) (w' : World) : Prop := ∃ a n c, e = .returned (.tuple #[.agg #[.slice a n c], .bool b]) ∧ OAt w' (.slice a n c) O ∧ Below w.heap.size w w'
def RO (w : World) (o : Ob) (b : Bool) (e : Ending) (w' : World) : Prop := ∃ a n c, e = .returned (.tuple #[.agg #[.int .i64 o.1, .slice a n c], .bool b]) ∧ VsAt w' (.slice a n c) o.2 ∧ Below w.heap.size w w'
def RV (w : World) (x : V) (b : Bool) (e : Ending) (w' : World) : Prop := e = .returned (.tuple #[.agg #[.bool x.1, .int .i64 x.2], .bool b]) ∧ Below w.heap.size w w'

/-- a heap in new memory -/
def RHO (w : World) (O : List Ob) (e : Ending) (w' : World) : Prop := ∃ a n c, e = .returned (.agg #[.slice a n c]) ∧ OwnAt w' w.heap.size (.slice a n c) O ∧ Below w.heap.size w w'
theorem PO_of {w : World} {O : List Ob} {e : Ending} {w' : World} (h : RetPO w O e w') : RHO w O e w' := by
  obtain ⟨v, L', rfl, h1, h2, h3⟩ := h
  obtain ⟨a, n, c, rfl, _⟩ := OsAt.shape h1.at_
  exact ⟨a, n, c, rfl, ⟨L', h1, h2⟩, h3⟩
theorem P_of {w : World} {O : List Ob} {e : Ending} {w' : World} (h : RetP w O e w') : RH w O e w' := by
  obtain ⟨v, L', rfl, h1, h2, h3⟩ := h
  obtain ⟨a, n, c, rfl, _⟩ := OsAt.shape h1
  exact ⟨a, n, c, rfl, ⟨L', h1, h2⟩, h3⟩
theorem W_of {w : World} {O : List Ob} {b : Bool} {e : Ending} {w' : World} (h : RetW w O b e w') : RHB w O b e w' := by
  obtain ⟨v, L', rfl, h1, h2, h3⟩ := h
  obtain ⟨a, n, c, rfl, _⟩ := OsAt.shape h1
  exact ⟨a, n, c, rfl, ⟨L', h1, h2⟩, h3⟩
theorem G_of {w : World} {o : Ob} {b : Bool} {e : Ending} {w' : World} (h : RetGet w o b e w') : RO w o b e w' := by
  obtain ⟨y, rfl, h1, rfl, h3⟩ := h
  obtain ⟨i, v, l⟩ := y
  obtain ⟨a, n, c, e, _⟩ := VsAt.shape h1
  simp only at e
  subst e
  exact ⟨a, n, c, rfl, h1, h3⟩

section
variable {v u : Value} {O M : List Ob} {w : World}
theorem get_ok (id : Int) (h : OAt w v O) (hs : ShortO O) : Calls Try.prog 29 #[.agg #[v], .int .i64 id] w (RO w (getO O id) (inO O id)) := by
  obtain ⟨L, h, rfl⟩ := h
  rw [← obD_obs, ← isIn_obs]
  exact (get_any v L id w h (shortO hs)).mono fun e w' hh => G_of hh
theorem rput_ok (id : Int) (l : List V) (h : OAt w v O) (ho : VsAt w u l) (hs : ShortO O) (hl : l.length ≤ 1000000) : Calls Try.prog 15 #[.agg #[v], .agg #[.int .i64 id, u]] w (RH w (putO O (id, l))) := by
  obtain ⟨L, h, rfl⟩ := h
  rw [← putD_obs]
  exact (rput_any v u L id l w h ho (shortO hs) hl (by have := hs.1; rw [obs_len] at this; exact this)).mono fun e w' hh => P_of hh
theorem valid_ok (h : OAt w v O) (hs : ShortO O) : Calls Try.prog 27 #[.agg #[v]] w (RetB w (ascO 0 O)) := by
  obtain ⟨L, h, rfl⟩ := h
  rw [← asc_obs]
  exact valid_any v L w h (shortO hs).1
theorem rvalid_ok (h : OAt w v O) (hs : ShortO O) : Calls Try.prog 13 #[.agg #[v]] w (RetB w (ascO 0 O)) := by
  obtain ⟨L, h, rfl⟩ := h
  rw [← asc_obs]
  exact rvalid_any v L w h (shortO hs).1
theorem rsame_ok (h : OAt w v O) (h2 : OAt w u M) (hs : ShortO O) (hs2 : ShortO M) : Calls Try.prog 11 #[.agg #[v], .agg #[u]] w (RetB w (decide (O = M))) := by
  obtain ⟨L, h, rfl⟩ := h
  obtain ⟨K, h2, rfl⟩ := h2
  exact rsame_any v u L K w h h2 (shortO hs) (shortO hs2)
theorem rsameO_ok (i j : Int) (l m : List V) (h : VsAt w v l) (h2 : VsAt w u m) (hs : l.length ≤ 1000000) (hs2 : m.length ≤ 1000000) (b : Bool) (hb : decide ((i, l) = (j, m)) = b) : Calls Try.prog 26 #[.agg #[.int .i64 i, v], .agg #[.int .i64 j, u]] w (RetB w b) := by
  have e : sameO ⟨i, v, l⟩ ⟨j, u, m⟩ = b := by
    rw [← hb]
    cases hq : sameO ⟨i, v, l⟩ ⟨j, u, m⟩ with
    | true => exact (decide_eq_true ((sameO_iff _ _).1 hq)).symm
    | false => exact (decide_eq_false (sameO_false hq)).symm
  rw [← e]
  exact rsameObject_any ⟨i, v, l⟩ ⟨j, u, m⟩ w h h2 (by show l.length ≤ _; omega) (by show m.length ≤ _; omega)
def totalO : List Ob → Nat
  | [] => 0
  | x :: r => 1 + x.2.length + totalO r
theorem total_obs (L : List Lob) : total L = totalO (obs L) := by
  induction L with
  | nil => rfl
  | cons x L ih => simp only [total, obs, List.map_cons, totalO]; rw [ih]; rfl
theorem totalO_len (O : List Ob) : O.length ≤ totalO O := by
  induction O with
  | nil => simp [totalO]
  | cons y L ih => simp only [List.length_cons, totalO]; omega
theorem totalO_mem {O : List Ob} {x : Ob} (h : x ∈ O) : x.2.length ≤ totalO O := by
  induction O with
  | nil => cases h
  | cons y L ih =>
    simp only [totalO]
    rcases List.mem_cons.1 h with rfl | h
    · omega
    · have := ih h
      omega
theorem shortO_of (h : totalO O ≤ 1000000) : ShortO O := ⟨Nat.le_trans (totalO_len O) h, fun _ hx => Nat.le_trans (totalO_mem hx) h⟩
end
theorem OAt.nil (w : World) : OAt w (.slice none 0 0) [] := ⟨[], ⟨.inl ⟨rfl, rfl, rfl⟩, by intro x hx; cases hx⟩, rfl⟩
theorem putO_mem {O : List Ob} {o x : Ob} (h : x ∈ putO O o) : x = o ∨ x ∈ O := by
  unfold putO at h
  split at h
  · rcases List.mem_or_eq_of_mem_set h with h | h
    · exact .inr h
    · exact .inl h
  · rcases List.mem_append.1 h with h | h
    · exact .inr (List.mem_of_mem_take h)
    · rcases List.mem_cons.1 h with h | h
      · exact .inl h
      · exact .inr (List.mem_of_mem_drop h)
theorem putO_len (O : List Ob) (o : Ob) : (putO O o).length ≤ O.length + 1 := by
  unfold putO
  split
  · simp
  · rw [List.length_append, List.length_cons, List.length_take, List.length_drop]; omega
theorem putO_short {O : List Ob} {o : Ob} (h : ShortO O) (hO : O.length ≤ 999999) (ho : o.2.length ≤ 1000000) : ShortO (putO O o) :=
  ⟨by have := putO_len O o; omega, fun x hx => by rcases putO_mem hx with rfl | h1; exact ho; exact h.2 x h1⟩
theorem getO_short {O : List Ob} (h : ShortO O) (id : Int) : (getO O id).2.length ≤ 1000000 := by
  unfold getO
  split
  · rename_i x hx
    exact h.2 x (List.mem_of_getElem? hx)
  · simp
theorem writeO_short {O : List Ob} (h : ShortO O) (id f : Int) (v : V) : ShortO (writeO O id f v) := by
  unfold writeO
  split
  · split
    · rename_i x hx
      refine ⟨by simpa using h.1, fun y hy => ?_⟩
      rcases List.mem_or_eq_of_mem_set hy with hy | rfl
      · exact h.2 y hy
      · simpa using h.2 x (List.mem_of_getElem? hx)
    · exact ⟨by simp, by intro x hx; cases hx⟩
  · exact ⟨by simp, by intro x hx; cases hx⟩
end Go.Proofs.Ytbnippldclpclaa
