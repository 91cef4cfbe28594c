/- What calls through a function value leave alone: a frame by the blocks that may change and the rows of strings. -/
import Derived.Test.YtilholgbepfopaaDoorSName
import Derived.Test.YtilholgbepfopaaDoorTVars2
namespace Go.Proofs.YtilholgbepfopaaDoor
open Go.RowKit

/-- neither a row of strings nor a map -/
def Safe (o : Option Obj) : Prop := (∀ cs fr, o ≠ some (.cells cs 9 fr)) ∧ ∀ es c, o ≠ some (.map es c)
/-- from w to w' nothing has changed but the blocks E and, from block B on, rows of strings and maps -/
structure Fr (B : Nat) (E : Nat → Prop) (w w' : World) : Prop where
  os : w'.os = w.os
  tape : w'.tape = w.tape
  output : w'.output = w.output
  size : w.heap.size ≤ w'.heap.size
  block : ∀ k, k < w.heap.size → ¬ E k → (k < B ∨ Safe w.heap[k]?) → w'.heap[k]? = w.heap[k]?
theorem Fr.refl (B : Nat) (E : Nat → Prop) (w : World) : Fr B E w w := ⟨rfl, rfl, rfl, Nat.le_refl _, fun _ _ _ _ => rfl⟩
theorem Fr.trans {B : Nat} {E : Nat → Prop} {w w1 w2 : World} (h : Fr B E w w1) (h2 : Fr B E w1 w2) : Fr B E w w2 :=
  ⟨h2.os.trans h.os, h2.tape.trans h.tape, h2.output.trans h.output, Nat.le_trans h.size h2.size, fun k hk he hr => by
    have e1 := h.block k hk he hr
    exact (h2.block k (Nat.lt_of_lt_of_le hk h.size) he (by rw [e1]; exact hr)).trans e1⟩
theorem Fr.of_below {B : Nat} {E : Nat → Prop} {w w' : World} (h : Below w.heap.size w w') : Fr B E w w' := ⟨h.os, h.tape, h.output, h.size, fun k hk _ _ => h.block k hk⟩
theorem Fr.below {B : Nat} {E : Nat → Prop} {w w1 w2 : World} (h : Fr B E w w1) (hb : Below w1.heap.size w1 w2) : Fr B E w w2 := h.trans (.of_below hb)
theorem Fr.set {B : Nat} {E : Nat → Prop} {w w1 : World} (h : Fr B E w w1) {p : Addr} (hp : E p.block) (u : Value) : Fr B E w (w1.setCell p u) :=
  h.trans ⟨rfl, rfl, rfl, by simp [World.setCell], fun k _ he _ => Below.heap_setCell w1 p u k (by rintro rfl; exact he hp)⟩
theorem Fr.low {B : Nat} {E : Nat → Prop} {w0 w w' : World} (h : Fr B E w w') (hb : Below w0.heap.size w0 w) (hB : w0.heap.size ≤ B) (hE : ∀ k, E k → w0.heap.size ≤ k) : Below w0.heap.size w0 w' :=
  ⟨h.os.trans hb.os, h.tape.trans hb.tape, h.output.trans hb.output, Nat.le_trans hb.size h.size, fun k hk => (h.block k (Nat.lt_of_lt_of_le hk hb.size) (fun he => by have := hE k he; omega) (.inl (by omega))).trans (hb.block k hk)⟩
theorem Fr.mono {B : Nat} {E E' : Nat → Prop} {w w' : World} (h : Fr B E w w') (he : ∀ k, k < w.heap.size → E k → E' k) : Fr B E' w w' := ⟨h.os, h.tape, h.output, h.size, fun k hk hn hr => h.block k hk (fun e => hn (he k hk e)) hr⟩

/-- block b is these cells, of type t -/
def CsT (w : World) (b : Nat) (cs : List Value) (t : TypeId) : Prop := w.heap[b]? = some (.cells cs.toArray t)
theorem CsT.new (w : World) (cs : List Value) (t : TypeId) : CsT (w.alloc (.cells cs.toArray t)) w.heap.size cs t := heap_alloc_new w _
theorem CsT.lt {w : World} {b : Nat} {cs : List Value} {t : TypeId} (h : CsT w b cs t) : b < w.heap.size := (Array.getElem?_eq_some_iff.1 h).1
theorem CsT.at_ {w : World} {b : Nat} {cs : List Value} {t : TypeId} (h : CsT w b cs t) : CsAt w b cs :=
  ⟨fun j u hj => by rw [cell_of_row _ _ j _ _ _ h]; simpa using hj, fun j => frozen_of_row _ _ j _ _ h, h.lt⟩
theorem CsT.below {w w' : World} {b : Nat} {cs : List Value} {t : TypeId} (h : CsT w b cs t) (hb : Below w.heap.size w w') : CsT w' b cs t := (hb.block b h.lt).trans h
theorem CsT.frame {B : Nat} {E : Nat → Prop} {w w' : World} {b : Nat} {cs : List Value} {t : TypeId} (h : CsT w b cs t) (hf : Fr B E w w') (he : ¬ E b) (ht : t ≠ 9) : CsT w' b cs t :=
  (hf.block b h.lt he (.inr ⟨fun cs' fr e => by rw [h] at e; injection e with e; injection e with _ e _; exact ht e, fun es c e => by rw [h] at e; injection e with e; cases e⟩)).trans h
end Go.Proofs.YtilholgbepfopaaDoor
