/- Programs as trees, and how memory holds them. -/
import Derived.Test.YtilholgbepfopaaDoorHKit
namespace Go.Proofs.YtilholgbepfopaaDoor
open Go.RowKit

inductive Ex where
  | mk (kind n : Int) (name : ByteArray) (op : Int) (l : List Ex)
def Ex.kind : Ex → Int | .mk k _ _ _ _ => k
def Ex.n : Ex → Int | .mk _ n _ _ _ => n
def Ex.name : Ex → ByteArray | .mk _ _ s _ _ => s
def Ex.op : Ex → Int | .mk _ _ _ o _ => o
def Ex.l : Ex → List Ex | .mk _ _ _ _ l => l
inductive St where
  | mk (kind : Int) (name fn : ByteArray) (n op : Int) (exprs : List Ex) (body els : List St)
def St.kind : St → Int | .mk k _ _ _ _ _ _ _ => k
def St.name : St → ByteArray | .mk _ s _ _ _ _ _ _ => s
def St.fn : St → ByteArray | .mk _ _ s _ _ _ _ _ => s
def St.n : St → Int | .mk _ _ _ n _ _ _ _ => n
def St.op : St → Int | .mk _ _ _ _ o _ _ _ => o
def St.exprs : St → List Ex | .mk _ _ _ _ _ l _ _ => l
def St.body : St → List St | .mk _ _ _ _ _ _ l _ => l
def St.els : St → List St | .mk _ _ _ _ _ _ _ l => l
structure Fn where
  name : ByteArray
  params : List ByteArray
  body : List St

theorem flatten_len {css : List (List Value)} {s : Nat} (h : ∀ c ∈ css, c.length = s) : css.flatten.length = css.length * s := by
  induction css with
  | nil => simp
  | cons c r ih =>
    rw [List.flatten_cons, List.length_append, ih (fun x hx => h x (List.mem_cons_of_mem _ hx)), h c (List.mem_cons_self ..), List.length_cons, Nat.succ_mul]
    omega
theorem flatten_at {css : List (List Value)} {s : Nat} (h : ∀ c ∈ css, c.length = s) {k : Nat} {c : List Value} (hk : css[k]? = some c) {j : Nat} (hj : j < s) : css.flatten[k * s + j]? = c[j]? := by
  induction css generalizing k with
  | nil => simp at hk
  | cons d r ih =>
    have hd := h d (List.mem_cons_self ..)
    rw [List.flatten_cons]
    cases k with
    | zero =>
      simp only [List.getElem?_cons_zero, Option.some.injEq] at hk
      subst hk
      rw [Nat.zero_mul, Nat.zero_add, List.getElem?_append_left (by omega)]
    | succ k =>
      rw [List.getElem?_cons_succ] at hk
      rw [List.getElem?_append_right (by rw [hd, Nat.succ_mul]; omega), hd, show (k + 1) * s + j - s = k * s + j by rw [Nat.succ_mul]; omega]
      exact ih (fun x hx => h x (List.mem_cons_of_mem _ hx)) hk

mutual
/-- these cells are an expression's -/
def ExAt (w : World) : Ex → List Value → Prop
  | .mk k n nm op l, cs => ∃ u, cs = [.int .i64 k, .int .i64 n, .string nm, .int .i64 op, u] ∧ ∃ css : List (List Value), SlAt w 5 u l.length css.flatten ∧ ExL w l css
def ExL (w : World) : List Ex → List (List Value) → Prop
  | [], css => css = []
  | e :: l, css => ∃ c r, css = c :: r ∧ ExAt w e c ∧ ExL w l r
end
/-- v is a slice of the expressions l -/
def ExsAt (w : World) (v : Value) (l : List Ex) : Prop := ∃ css : List (List Value), SlAt w 5 v l.length css.flatten ∧ ExL w l css
mutual
/-- these cells are a statement's -/
def StAt (w : World) : St → List Value → Prop
  | .mk k nm f n op es b e, cs => ∃ u v x, cs = [.int .i64 k, .string nm, .string f, .int .i64 n, .int .i64 op, u, v, x] ∧ ExsAt w u es ∧ (∃ css : List (List Value), SlAt w 8 v b.length css.flatten ∧ StL w b css) ∧ (∃ css : List (List Value), SlAt w 8 x e.length css.flatten ∧ StL w e css)
def StL (w : World) : List St → List (List Value) → Prop
  | [], css => css = []
  | e :: l, css => ∃ c r, css = c :: r ∧ StAt w e c ∧ StL w l r
end
/-- v is a slice of the statements l -/
def StsAt (w : World) (v : Value) (l : List St) : Prop := ∃ css : List (List Value), SlAt w 8 v l.length css.flatten ∧ StL w l css
/-- v is a slice of the strings l -/
def NmsAt (w : World) (v : Value) (l : List ByteArray) : Prop := SlAt w 1 v l.length (l.map Value.string)
/-- these cells are a function's -/
def FnAt (w : World) (f : Fn) (cs : List Value) : Prop := ∃ u v, cs = [.string f.name, u, v] ∧ NmsAt w u f.params ∧ StsAt w v f.body
def FnL (w : World) : List Fn → List (List Value) → Prop
  | [], css => css = []
  | e :: l, css => ∃ c r, css = c :: r ∧ FnAt w e c ∧ FnL w l r
/-- v is a slice of the functions l -/
def FnsAt (w : World) (v : Value) (l : List Fn) : Prop := ∃ css : List (List Value), SlAt w 3 v l.length css.flatten ∧ FnL w l css

theorem ExAt.len {w : World} {e : Ex} {cs : List Value} (h : ExAt w e cs) : cs.length = 5 := by
  cases e
  unfold ExAt at h
  obtain ⟨u, rfl, _⟩ := h
  rfl
theorem StAt.len {w : World} {e : St} {cs : List Value} (h : StAt w e cs) : cs.length = 8 := by
  cases e
  unfold StAt at h
  obtain ⟨u, v, x, rfl, _⟩ := h
  rfl
theorem FnAt.len {w : World} {e : Fn} {cs : List Value} (h : FnAt w e cs) : cs.length = 3 := by
  obtain ⟨u, v, rfl, _⟩ := h
  rfl
theorem ExL.len {w : World} {l : List Ex} {css : List (List Value)} (h : ExL w l css) : css.length = l.length ∧ ∀ c ∈ css, c.length = 5 := by
  induction l generalizing css with
  | nil => unfold ExL at h; subst h; simp
  | cons e l ih =>
    unfold ExL at h
    obtain ⟨c, r, rfl, h1, h2⟩ := h
    obtain ⟨h3, h4⟩ := ih h2
    refine ⟨by simp [h3], fun x hx => ?_⟩
    rcases List.mem_cons.1 hx with rfl | hx
    · exact h1.len
    · exact h4 x hx
theorem StL.len {w : World} {l : List St} {css : List (List Value)} (h : StL w l css) : css.length = l.length ∧ ∀ c ∈ css, c.length = 8 := by
  induction l generalizing css with
  | nil => unfold StL at h; subst h; simp
  | cons e l ih =>
    unfold StL at h
    obtain ⟨c, r, rfl, h1, h2⟩ := h
    obtain ⟨h3, h4⟩ := ih h2
    refine ⟨by simp [h3], fun x hx => ?_⟩
    rcases List.mem_cons.1 hx with rfl | hx
    · exact h1.len
    · exact h4 x hx
theorem FnL.len {w : World} {l : List Fn} {css : List (List Value)} (h : FnL w l css) : css.length = l.length ∧ ∀ c ∈ css, c.length = 3 := by
  induction l generalizing css with
  | nil => unfold FnL at h; subst h; simp
  | cons e l ih =>
    unfold FnL at h
    obtain ⟨c, r, rfl, h1, h2⟩ := h
    obtain ⟨h3, h4⟩ := ih h2
    refine ⟨by simp [h3], fun x hx => ?_⟩
    rcases List.mem_cons.1 hx with rfl | hx
    · exact h1.len
    · exact h4 x hx
theorem ExL.get {w : World} {l : List Ex} {css : List (List Value)} (h : ExL w l css) {k : Nat} {e : Ex} (hk : l[k]? = some e) : ∃ c, css[k]? = some c ∧ ExAt w e c := by
  induction l generalizing css k with
  | nil => simp at hk
  | cons d l ih =>
    unfold ExL at h
    obtain ⟨c, r, rfl, h1, h2⟩ := h
    cases k with
    | zero => simp at hk; subst hk; exact ⟨c, rfl, h1⟩
    | succ k => rw [List.getElem?_cons_succ] at hk ⊢; exact ih h2 hk
theorem StL.get {w : World} {l : List St} {css : List (List Value)} (h : StL w l css) {k : Nat} {e : St} (hk : l[k]? = some e) : ∃ c, css[k]? = some c ∧ StAt w e c := by
  induction l generalizing css k with
  | nil => simp at hk
  | cons d l ih =>
    unfold StL at h
    obtain ⟨c, r, rfl, h1, h2⟩ := h
    cases k with
    | zero => simp at hk; subst hk; exact ⟨c, rfl, h1⟩
    | succ k => rw [List.getElem?_cons_succ] at hk ⊢; exact ih h2 hk
theorem FnL.get {w : World} {l : List Fn} {css : List (List Value)} (h : FnL w l css) {k : Nat} {e : Fn} (hk : l[k]? = some e) : ∃ c, css[k]? = some c ∧ FnAt w e c := by
  induction l generalizing css k with
  | nil => simp at hk
  | cons d l ih =>
    unfold FnL at h
    obtain ⟨c, r, rfl, h1, h2⟩ := h
    cases k with
    | zero => simp at hk; subst hk; exact ⟨c, rfl, h1⟩
    | succ k => rw [List.getElem?_cons_succ] at hk ⊢; exact ih h2 hk

mutual
theorem ExAt.below {w w' : World} (hb : Below w.heap.size w w') : ∀ (e : Ex) (cs : List Value), ExAt w e cs → ExAt w' e cs
  | .mk k n nm op l, cs, h => by
    unfold ExAt at h ⊢
    obtain ⟨u, e, css, h1, h2⟩ := h
    exact ⟨u, e, css, h1.below hb, ExL.below hb l css h2⟩
theorem ExL.below {w w' : World} (hb : Below w.heap.size w w') : ∀ (l : List Ex) (css : List (List Value)), ExL w l css → ExL w' l css
  | [], css, h => by unfold ExL at h ⊢; exact h
  | e :: l, css, h => by
    unfold ExL at h ⊢
    obtain ⟨c, r, h0, h1, h2⟩ := h
    exact ⟨c, r, h0, ExAt.below hb e c h1, ExL.below hb l r h2⟩
end
theorem ExsAt.below {w w' : World} {v : Value} {l : List Ex} (h : ExsAt w v l) (hb : Below w.heap.size w w') : ExsAt w' v l := by
  obtain ⟨css, h1, h2⟩ := h
  exact ⟨css, h1.below hb, ExL.below hb l css h2⟩
mutual
theorem StAt.below {w w' : World} (hb : Below w.heap.size w w') : ∀ (e : St) (cs : List Value), StAt w e cs → StAt w' e cs
  | .mk k nm f n op es b e, cs, h => by
    unfold StAt at h ⊢
    obtain ⟨u, v, x, e0, h1, ⟨c1, h2, h3⟩, ⟨c2, h4, h5⟩⟩ := h
    exact ⟨u, v, x, e0, h1.below hb, ⟨c1, h2.below hb, StL.below hb b c1 h3⟩, ⟨c2, h4.below hb, StL.below hb e c2 h5⟩⟩
theorem StL.below {w w' : World} (hb : Below w.heap.size w w') : ∀ (l : List St) (css : List (List Value)), StL w l css → StL w' l css
  | [], css, h => by unfold StL at h ⊢; exact h
  | e :: l, css, h => by
    unfold StL at h ⊢
    obtain ⟨c, r, h0, h1, h2⟩ := h
    exact ⟨c, r, h0, StAt.below hb e c h1, StL.below hb l r h2⟩
end
theorem StsAt.below {w w' : World} {v : Value} {l : List St} (h : StsAt w v l) (hb : Below w.heap.size w w') : StsAt w' v l := by
  obtain ⟨css, h1, h2⟩ := h
  exact ⟨css, h1.below hb, StL.below hb l css h2⟩
theorem NmsAt.below {w w' : World} {v : Value} {l : List ByteArray} (h : NmsAt w v l) (hb : Below w.heap.size w w') : NmsAt w' v l := SlAt.below h hb
theorem FnL.below {w w' : World} (hb : Below w.heap.size w w') : ∀ (l : List Fn) (css : List (List Value)), FnL w l css → FnL w' l css
  | [], css, h => by unfold FnL at h ⊢; exact h
  | e :: l, css, h => by
    unfold FnL at h ⊢
    obtain ⟨c, r, h0, ⟨u, v, h1, h2, h3⟩, h4⟩ := h
    exact ⟨c, r, h0, ⟨u, v, h1, h2.below hb, h3.below hb⟩, FnL.below hb l r h4⟩
theorem FnsAt.below {w w' : World} {v : Value} {l : List Fn} (h : FnsAt w v l) (hb : Below w.heap.size w w') : FnsAt w' v l := by
  obtain ⟨css, h1, h2⟩ := h
  exact ⟨css, h1.below hb, FnL.below hb l css h2⟩

theorem ExsAt.shape {w : World} {v : Value} {l : List Ex} (h : ExsAt w v l) : ∃ a c, v = .slice a l.length c := by
  obtain ⟨css, h1, _⟩ := h
  exact h1.shape
theorem StsAt.shape {w : World} {v : Value} {l : List St} (h : StsAt w v l) : ∃ a c, v = .slice a l.length c := by
  obtain ⟨css, h1, _⟩ := h
  exact h1.shape
theorem NmsAt.shape {w : World} {v : Value} {l : List ByteArray} (h : NmsAt w v l) : ∃ a c, v = .slice a l.length c := SlAt.shape h
theorem FnsAt.shape {w : World} {v : Value} {l : List Fn} (h : FnsAt w v l) : ∃ a c, v = .slice a l.length c := by
  obtain ⟨css, h1, _⟩ := h
  exact h1.shape
/-- element k of a slice of expressions: its cells, and what its own list is -/
theorem ExsAt.elem {w : World} {v : Value} {l : List Ex} (h : ExsAt w v l) {k : Nat} {e : Ex} (hk : l[k]? = some e) :
    ∃ b o c u, v = .slice (some ⟨b, o, none⟩) l.length c ∧ b < w.heap.size ∧ w.cell? ⟨b, o + k * 5, none⟩ = some (.int .i64 e.kind) ∧ w.cell? ⟨b, o + k * 5 + 1, none⟩ = some (.int .i64 e.n) ∧ w.cell? ⟨b, o + k * 5 + 2, none⟩ = some (.string e.name) ∧
      w.cell? ⟨b, o + k * 5 + 3, none⟩ = some (.int .i64 e.op) ∧ w.cell? ⟨b, o + k * 5 + 4, none⟩ = some u ∧ ExsAt w u e.l := by
  obtain ⟨css, h1, h2⟩ := h
  have hlt := (List.getElem?_eq_some_iff.1 hk).1
  obtain ⟨b, o, c, hv, hb, hc⟩ := h1.pos (by omega) (by decide)
  obtain ⟨cs, hcs, he⟩ := h2.get hk
  obtain ⟨hl1, hl2⟩ := h2.len
  have at_ : ∀ j u, cs[j]? = some u → w.cell? ⟨b, o + k * 5 + j, none⟩ = some u := fun j u hj => by
    have hj5 : j < 5 := by have := (List.getElem?_eq_some_iff.1 hj).1; rw [hl2 cs (List.mem_of_getElem? hcs)] at this; exact this
    rw [Nat.add_assoc]
    exact hc _ _ (by rw [flatten_at hl2 hcs hj5]; exact hj)
  obtain ⟨kd, n, nm, op, l'⟩ := e
  unfold ExAt at he
  obtain ⟨u, rfl, css', h3, h4⟩ := he
  exact ⟨b, o, c, u, hv, hb, at_ 0 _ rfl, at_ 1 _ rfl, at_ 2 _ rfl, at_ 3 _ rfl, at_ 4 _ rfl, css', h3, h4⟩
/-- element k of a slice of statements -/
theorem StsAt.elem {w : World} {v : Value} {l : List St} (h : StsAt w v l) {k : Nat} {e : St} (hk : l[k]? = some e) :
    ∃ b o c u x y, v = .slice (some ⟨b, o, none⟩) l.length c ∧ b < w.heap.size ∧ w.cell? ⟨b, o + k * 8, none⟩ = some (.int .i64 e.kind) ∧ w.cell? ⟨b, o + k * 8 + 1, none⟩ = some (.string e.name) ∧ w.cell? ⟨b, o + k * 8 + 2, none⟩ = some (.string e.fn) ∧
      w.cell? ⟨b, o + k * 8 + 3, none⟩ = some (.int .i64 e.n) ∧ w.cell? ⟨b, o + k * 8 + 4, none⟩ = some (.int .i64 e.op) ∧ w.cell? ⟨b, o + k * 8 + 5, none⟩ = some u ∧ w.cell? ⟨b, o + k * 8 + 6, none⟩ = some x ∧ w.cell? ⟨b, o + k * 8 + 7, none⟩ = some y ∧
      ExsAt w u e.exprs ∧ StsAt w x e.body ∧ StsAt w y e.els := by
  obtain ⟨css, h1, h2⟩ := h
  have hlt := (List.getElem?_eq_some_iff.1 hk).1
  obtain ⟨b, o, c, hv, hb, hc⟩ := h1.pos (by omega) (by decide)
  obtain ⟨cs, hcs, he⟩ := h2.get hk
  obtain ⟨hl1, hl2⟩ := h2.len
  have at_ : ∀ j u, cs[j]? = some u → w.cell? ⟨b, o + k * 8 + j, none⟩ = some u := fun j u hj => by
    have hj8 : j < 8 := by have := (List.getElem?_eq_some_iff.1 hj).1; rw [hl2 cs (List.mem_of_getElem? hcs)] at this; exact this
    rw [Nat.add_assoc]
    exact hc _ _ (by rw [flatten_at hl2 hcs hj8]; exact hj)
  obtain ⟨kd, nm, f, n, op, es, bd, el⟩ := e
  unfold StAt at he
  obtain ⟨u, x, y, rfl, h3, h4, h5⟩ := he
  exact ⟨b, o, c, u, x, y, hv, hb, at_ 0 _ rfl, at_ 1 _ rfl, at_ 2 _ rfl, at_ 3 _ rfl, at_ 4 _ rfl, at_ 5 _ rfl, at_ 6 _ rfl, at_ 7 _ rfl, h3, h4, h5⟩
/-- element k of a slice of functions -/
theorem FnsAt.elem {w : World} {v : Value} {l : List Fn} (h : FnsAt w v l) {k : Nat} {e : Fn} (hk : l[k]? = some e) :
    ∃ b o c u x, v = .slice (some ⟨b, o, none⟩) l.length c ∧ b < w.heap.size ∧ w.cell? ⟨b, o + k * 3, none⟩ = some (.string e.name) ∧ w.cell? ⟨b, o + k * 3 + 1, none⟩ = some u ∧ w.cell? ⟨b, o + k * 3 + 2, none⟩ = some x ∧ NmsAt w u e.params ∧ StsAt w x e.body := by
  obtain ⟨css, h1, h2⟩ := h
  have hlt := (List.getElem?_eq_some_iff.1 hk).1
  obtain ⟨b, o, c, hv, hb, hc⟩ := h1.pos (by omega) (by decide)
  obtain ⟨cs, hcs, he⟩ := h2.get hk
  obtain ⟨hl1, hl2⟩ := h2.len
  have at_ : ∀ j u, cs[j]? = some u → w.cell? ⟨b, o + k * 3 + j, none⟩ = some u := fun j u hj => by
    have hj3 : j < 3 := by have := (List.getElem?_eq_some_iff.1 hj).1; rw [hl2 cs (List.mem_of_getElem? hcs)] at this; exact this
    rw [Nat.add_assoc]
    exact hc _ _ (by rw [flatten_at hl2 hcs hj3]; exact hj)
  obtain ⟨u, x, rfl, h3, h4⟩ := he
  exact ⟨b, o, c, u, x, hv, hb, at_ 0 _ rfl, at_ 1 _ rfl, at_ 2 _ rfl, h3, h4⟩
theorem NmsAt.elem {w : World} {v : Value} {l : List ByteArray} (h : NmsAt w v l) {k : Nat} {s : ByteArray} (hk : l[k]? = some s) :
    ∃ b o c, v = .slice (some ⟨b, o, none⟩) l.length c ∧ b < w.heap.size ∧ w.cell? ⟨b, o + k, none⟩ = some (.string s) := by
  have hlt := (List.getElem?_eq_some_iff.1 hk).1
  obtain ⟨b, o, c, hv, hb, hc⟩ := SlAt.pos h (by omega) (by decide)
  exact ⟨b, o, c, hv, hb, hc k _ (by rw [List.getElem?_map, hk]; rfl)⟩
end Go.Proofs.YtilholgbepfopaaDoor
