/- Values, objects and heaps: what they read as. -/
import Derived.Test.YtbnippldclpclaaHKit
namespace Go.Proofs.Ytbnippldclpclaa
open Go.RowKit

/-- a value: whether it is a reference, and its number -/
abbrev V := Bool × Int
def vc (x : V) : List Value := [.bool x.1, .int .i64 x.2]
def vv (x : V) : Value := .agg #[.bool x.1, .int .i64 x.2]
/-- an object, with the slice that holds its fields -/
structure Lob where
  id : Int
  fv : Value
  vals : List V
def oc (x : Lob) : List Value := [.int .i64 x.id, x.fv]
def ov (x : Lob) : Value := .agg #[.int .i64 x.id, x.fv]
/-- an object without its place -/
abbrev Ob := Int × List V
def Lob.ob (x : Lob) : Ob := (x.id, x.vals)

theorem vc_len (l : List V) : (l.flatMap vc).length = l.length * 2 := by
  induction l with
  | nil => rfl
  | cons x l ih => simp only [List.flatMap_cons, List.length_append, ih, vc, List.length_cons, List.length_nil]; omega
theorem oc_len (l : List Lob) : (l.flatMap oc).length = l.length * 2 := by
  induction l with
  | nil => rfl
  | cons x l ih => simp only [List.flatMap_cons, List.length_append, ih, oc, List.length_cons, List.length_nil]; omega
theorem flat2 {α : Type} (f g : α → Value) (l : List α) (k : Nat) (x : α) (h : l[k]? = some x) : (l.flatMap fun y => [f y, g y])[k * 2]? = some (f x) ∧ (l.flatMap fun y => [f y, g y])[k * 2 + 1]? = some (g x) := by
  induction l generalizing k with
  | nil => simp at h
  | cons y l ih =>
    cases k with
    | zero => simp at h; subst h; simp
    | succ k =>
      simp only [List.getElem?_cons_succ] at h
      obtain ⟨h1, h2⟩ := ih k h
      have e1 : (k + 1) * 2 = (k * 2 + 1) + 1 := by omega
      have e2 : (k + 1) * 2 + 1 = (k * 2 + 1 + 1) + 1 := by omega
      rw [e2, e1]
      simp only [List.flatMap_cons, List.cons_append, List.nil_append, List.getElem?_cons_succ]
      exact ⟨h1, h2⟩
theorem vc_at (l : List V) (k : Nat) (x : V) (h : l[k]? = some x) : (l.flatMap vc)[k * 2]? = some (.bool x.1) ∧ (l.flatMap vc)[k * 2 + 1]? = some (.int .i64 x.2) := flat2 (fun y : V => .bool y.1) (fun y : V => .int .i64 y.2) l k x h
theorem oc_at (l : List Lob) (k : Nat) (x : Lob) (h : l[k]? = some x) : (l.flatMap oc)[k * 2]? = some (.int .i64 x.id) ∧ (l.flatMap oc)[k * 2 + 1]? = some x.fv := flat2 (fun y : Lob => .int .i64 y.id) (fun y : Lob => y.fv) l k x h

/-- v is a slice of the values l -/
def VsAt (w : World) (v : Value) (l : List V) : Prop := SlAt w 2 v l.length (l.flatMap vc)
/-- v is a slice of the objects L -/
def OsAt (w : World) (v : Value) (L : List Lob) : Prop := SlAt w 2 v L.length (L.flatMap oc) ∧ ∀ x ∈ L, VsAt w x.fv x.vals
theorem VsAt.below {w w' : World} {v : Value} {l : List V} (h : VsAt w v l) (hb : Below w.heap.size w w') : VsAt w' v l := SlAt.below h hb
theorem OsAt.below {w w' : World} {v : Value} {l : List Lob} (h : OsAt w v l) (hb : Below w.heap.size w w') : OsAt w' v l := ⟨h.1.below hb, fun x hx => (h.2 x hx).below hb⟩
/-- the values l, in a row that the call owns -/
def VsOwn (w : World) (B : Nat) (v : Value) (l : List V) : Prop := w.ownsRow B 31 2 v l.length (l.flatMap vc)
theorem VsOwn.at_ {w : World} {B : Nat} {v : Value} {l : List V} (h : VsOwn w B v l) : VsAt w v l := own_sl h
theorem VsOwn.below {w w' : World} {B : Nat} {v : Value} {l : List V} (h : VsOwn w B v l) (hb : Below w.heap.size w w') : VsOwn w' B v l := own_below h hb
theorem vc_one (l : List V) : ∀ u ∈ l.flatMap vc, u.oneCell' = true := by
  intro u hu
  obtain ⟨x, _, hx⟩ := List.mem_flatMap.1 hu
  simp [vc] at hx
  rcases hx with rfl | rfl <;> rfl
theorem oc_one {w : World} {v : Value} {L : List Lob} (h : OsAt w v L) : ∀ u ∈ L.flatMap oc, u.oneCell' = true := by
  intro u hu
  obtain ⟨x, hxL, hx⟩ := List.mem_flatMap.1 hu
  simp [oc] at hx
  rcases hx with rfl | rfl
  · rfl
  · obtain ⟨a, c, e⟩ := SlAt.shape (h.2 x hxL)
    rw [e]
    rfl

theorem info_V : (Try.prog.info? 31).map (fun i => (i.zero, i.size, i.bytes)) = some (some (.agg #[.bool false, .int .i64 0]), 2, 16) := by kernel_rfl
theorem info_O : (Try.prog.info? 43).map (fun i => (i.zero, i.size, i.bytes)) = some (some (.agg #[.int .i64 0, .slice none 0 0]), 2, 32) := by kernel_rfl

section
variable {w : World} {ops : Array Oper} {rest : List Oper} {o : Oper} {a : Act} {Q : Exit → Act → World → Prop}
/-- append([]api.Value(nil), l...) -/
theorem appV (hgd : o.guard = none) (s x : Operand) (ho : o.op = .call { callee := .builtin .append, args := #[s, x], argTypes := #[33, 33] })
    (B : Nat) (v : Value) (l : List V) (hs : a.eval s = v) (hown : VsOwn w B v l) (xv : Value) (m : List V) (hxe : a.eval x = xv) (hx : VsAt w xv m) (hn : l.length + m.length ≤ 1000000000) (hbase : B ≤ w.heap.size)
    (h : ∀ v' w', VsOwn w' B v' (l ++ m) → w.grownBy w' v.ownBlock → (v'.ownBlock = v.ownBlock ∨ v'.ownBlock = some w.heap.size) → wpList Try.prog ops Q rest (a.put o.dst v') w') :
    wpList Try.prog ops Q (o :: rest) a w := by
  refine wpList_append_sl hgd s x 33 ho B 31 _ 2 16 Try.underlying33 info_V rfl (by decide) v l.length _ hs hown xv m.length _ hxe hx (vc_one m) (by unfold maxLen; omega) (by omega) hbase ?_
  intro v' w' h1 h2 h3
  refine h v' w' ?_ h2 h3
  unfold VsOwn
  rw [List.length_append, List.flatMap_append]
  exact h1
theorem appV_step {K : Act → World → Prop} {E : Prop} (hgd : o.guard = none) (s x : Operand) (ho : o.op = .call { callee := .builtin .append, args := #[s, x], argTypes := #[33, 33] })
    (B : Nat) (v : Value) (l : List V) (hs : a.eval s = v) (hown : VsOwn w B v l) (xv : Value) (m : List V) (hxe : a.eval x = xv) (hx : VsAt w xv m) (hn : l.length + m.length ≤ 1000000000) (hbase : B ≤ w.heap.size)
    (h : ∀ v' w', VsOwn w' B v' (l ++ m) → w.grownBy w' v.ownBlock → (v'.ownBlock = v.ownBlock ∨ v'.ownBlock = some w.heap.size) → K (a.put o.dst v') w') :
    if Region.wanted o (yielded ops a.tmps) = true then Oper.wp Try.prog o a w K Q else E := by
  refine step_append_sl hgd s x 33 ho B 31 _ 2 16 Try.underlying33 info_V rfl (by decide) v l.length _ hs hown xv m.length _ hxe hx (vc_one m) (by unfold maxLen; omega) (by omega) hbase ?_
  intro v' w' h1 h2 h3
  refine h v' w' ?_ h2 h3
  unfold VsOwn
  rw [List.length_append, List.flatMap_append]
  exact h1
end
theorem VsOwn.nil (w : World) (B : Nat) : VsOwn w B (.slice none 0 0) [] := World.ownsRow_nil w B 31 2
section
variable {w : World} {ops : Array Oper} {rest : List Oper} {o : Oper} {a : Act} {Q : Exit → Act → World → Prop}
/-- a copy: append([]api.Value(nil), l...) -/
theorem cpV (hgd : o.guard = none) (s x : Operand) (ho : o.op = .call { callee := .builtin .append, args := #[s, x], argTypes := #[33, 33] })
    (hs : a.eval s = .slice none 0 0) (xv : Value) (m : List V) (hxe : a.eval x = xv) (hx : VsAt w xv m) (hn : m.length ≤ 1000000000)
    (h : ∀ a' c' w', VsOwn w' w.heap.size (.slice a' m.length c') m → Below w.heap.size w w' → wpList Try.prog ops Q rest (a.put o.dst (.slice a' m.length c')) w') :
    wpList Try.prog ops Q (o :: rest) a w := by
  refine appV hgd s x ho w.heap.size _ [] hs (VsOwn.nil _ _) xv m hxe hx (by simp; omega) (Nat.le_refl _) ?_
  intro v' w' h1 h2 _
  obtain ⟨a', c', rfl⟩ := SlAt.shape h1.at_
  exact h a' c' w' h1 (Below.grewNone h2)
theorem cpV_step {K : Act → World → Prop} {E : Prop} (hgd : o.guard = none) (s x : Operand) (ho : o.op = .call { callee := .builtin .append, args := #[s, x], argTypes := #[33, 33] })
    (hs : a.eval s = .slice none 0 0) (xv : Value) (m : List V) (hxe : a.eval x = xv) (hx : VsAt w xv m) (hn : m.length ≤ 1000000000)
    (h : ∀ a' c' w', VsOwn w' w.heap.size (.slice a' m.length c') m → Below w.heap.size w w' → K (a.put o.dst (.slice a' m.length c')) w') :
    if Region.wanted o (yielded ops a.tmps) = true then Oper.wp Try.prog o a w K Q else E := by
  refine appV_step hgd s x ho w.heap.size _ [] hs (VsOwn.nil _ _) xv m hxe hx (by simp; omega) (Nat.le_refl _) ?_
  intro v' w' h1 h2 _
  obtain ⟨a', c', rfl⟩ := SlAt.shape h1.at_
  exact h a' c' w' h1 (Below.grewNone h2)
end

/-- block b holds two cells -/
structure At2 (w : World) (b : Nat) (u0 u1 : Value) : Prop where
  c0 : w.cell? ⟨b, 0, none⟩ = some u0
  c1 : w.cell? ⟨b, 1, none⟩ = some u1
  f0 : w.frozen? ⟨b, 0, none⟩ = false
  f1 : w.frozen? ⟨b, 1, none⟩ = false
  lt : b < w.heap.size
theorem At2.new (w : World) (u0 u1 : Value) (t : TypeId) : At2 (w.alloc (.cells #[u0, u1] t)) w.heap.size u0 u1 :=
  ⟨by rw [cell_of_row _ _ 0 _ _ _ (heap_alloc_new w _)]; rfl, by rw [cell_of_row _ _ 1 _ _ _ (heap_alloc_new w _)]; rfl, frozen_of_row _ _ 0 _ _ (heap_alloc_new w _), frozen_of_row _ _ 1 _ _ (heap_alloc_new w _), by simp⟩
theorem At2.below {w w' : World} {b : Nat} {u0 u1 : Value} (h : At2 w b u0 u1) (hb : Below w.heap.size w w') : At2 w' b u0 u1 :=
  ⟨(hb.cell (p := ⟨b, 0, none⟩) h.lt).trans h.c0, (hb.cell (p := ⟨b, 1, none⟩) h.lt).trans h.c1, (hb.frozen (p := ⟨b, 0, none⟩) h.lt).trans h.f0, (hb.frozen (p := ⟨b, 1, none⟩) h.lt).trans h.f1, Nat.lt_of_lt_of_le h.lt hb.size⟩
theorem At2.alloc {w : World} {b : Nat} {u0 u1 : Value} (h : At2 w b u0 u1) (o : Obj) : At2 (w.alloc o) b u0 u1 := h.below (below1 w o)
theorem At2.drew {w : World} {b : Nat} {u0 u1 : Value} (h : At2 w b u0 u1) : At2 w.drew b u0 u1 := ⟨h.c0, h.c1, h.f0, h.f1, h.lt⟩
/-- block b holds one cell -/
structure At1 (w : World) (b : Nat) (u0 : Value) : Prop where
  c0 : w.cell? ⟨b, 0, none⟩ = some u0
  f0 : w.frozen? ⟨b, 0, none⟩ = false
  lt : b < w.heap.size
theorem At1.new (w : World) (u0 : Value) (t : TypeId) : At1 (w.alloc (.cells #[u0] t)) w.heap.size u0 :=
  ⟨by rw [cell_of_row _ _ 0 _ _ _ (heap_alloc_new w _)]; rfl, frozen_of_row _ _ 0 _ _ (heap_alloc_new w _), by simp⟩
theorem At1.below {w w' : World} {b : Nat} {u0 : Value} (h : At1 w b u0) (hb : Below w.heap.size w w') : At1 w' b u0 :=
  ⟨(hb.cell (p := ⟨b, 0, none⟩) h.lt).trans h.c0, (hb.frozen (p := ⟨b, 0, none⟩) h.lt).trans h.f0, Nat.lt_of_lt_of_le h.lt hb.size⟩
theorem At1.alloc {w : World} {b : Nat} {u0 : Value} (h : At1 w b u0) (o : Obj) : At1 (w.alloc o) b u0 := h.below (below1 w o)
theorem At1.drew {w : World} {b : Nat} {u0 : Value} (h : At1 w b u0) : At1 w.drew b u0 := ⟨h.c0, h.f0, h.lt⟩
theorem below_drew (w : World) : Below w.heap.size w w.drew := (Below.refl _ _).drew
theorem VsAt.drew {w : World} {v : Value} {l : List V} (h : VsAt w v l) : VsAt w.drew v l := h.below (below_drew w)
theorem OsAt.drew {w : World} {v : Value} {l : List Lob} (h : OsAt w v l) : OsAt w.drew v l := h.below (below_drew w)
theorem VsOwn.set {w : World} {B : Nat} {v : Value} {l : List V} (h : VsOwn w B v l) {p : Addr} (hp : p.block < B) (u : Value) : VsOwn (w.setCell p u) B v l := ownsRow_setCell_below h hp u
theorem VsOwn.mono {w : World} {B B' : Nat} {v : Value} {l : List V} (h : VsOwn w B v l) (hb : B' ≤ B) : VsOwn w B' v l := own_mono h hb
end Go.Proofs.Ytbnippldclpclaa
