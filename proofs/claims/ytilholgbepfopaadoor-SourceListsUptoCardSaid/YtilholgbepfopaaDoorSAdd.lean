/- names.add: a list in which each name stands once, and the set of them. -/
import Derived.Test.YtilholgbepfopaaDoorSVisit
import Derived.Test.YtilholgbepfopaaDoorBSet
namespace Go.Proofs.YtilholgbepfopaaDoor
open Go.RowKit

/-- block nb is the list l with its set -/
structure NSt (w : World) (B0 nb : Nat) (a : Option Addr) (n c : Nat) (mp : Option Nat) (l : List ByteArray) : Prop where
  cs : CsT w nb [.slice a n c, .map mp] 63
  own : NmsOwn w B0 (.slice a n c) l
  map : (mp = none ∧ l = []) ∨ ∃ b, mp = some b ∧ B0 ≤ b ∧ SetAt w b l
  lo : B0 ≤ nb
theorem NSt.len {w : World} {B0 nb n c : Nat} {a : Option Addr} {mp : Option Nat} {l : List ByteArray} (h : NSt w B0 nb a n c mp l) : n = l.length := by
  obtain ⟨a', c', e⟩ := h.own.at_.shape
  exact (Value.slice.inj e).2.1
theorem NSt.below {w w' : World} {B0 nb n c : Nat} {a : Option Addr} {mp : Option Nat} {l : List ByteArray} (h : NSt w B0 nb a n c mp l) (hb : Below w.heap.size w w') : NSt w' B0 nb a n c mp l :=
  ⟨h.cs.below hb, h.own.below hb, h.map.imp id (fun ⟨b, h1, h2, h3⟩ => ⟨b, h1, h2, h3.below hb⟩), h.lo⟩
/-- the row's block is a row of strings -/
theorem own_cells {w : World} {B : Nat} {v : Value} {l : List ByteArray} (h : NmsOwn w B v l) {g : Nat} (hg : v.ownBlock = some g) : ∃ cs fr, w.heap[g]? = some (.cells cs 9 fr) := by
  obtain ⟨_, h2⟩ := h
  rcases h2 with ⟨rfl, _⟩ | ⟨g', cap, cur, rfl, _, hgg, _⟩
  · cases hg
  · simp only [Value.ownBlock] at hg
    obtain rfl := Option.some.inj hg
    exact ⟨_, _, hgg⟩
structure GrN (nb : Nat) (mp row : Option Nat) (w w' : World) (mp' row' : Option Nat) : Prop where
  os : w'.os = w.os
  tape : w'.tape = w.tape
  output : w'.output = w.output
  size : w.heap.size ≤ w'.heap.size
  block : ∀ k, k < w.heap.size → k ≠ nb → mp ≠ some k → row ≠ some k → w'.heap[k]? = w.heap[k]?
  mp_ : mp' = mp ∨ ∃ g, mp' = some g ∧ w.heap.size ≤ g
  row_ : row' = row ∨ ∃ g, row' = some g ∧ w.heap.size ≤ g
theorem GrN.refl (nb : Nat) (mp row : Option Nat) (w : World) : GrN nb mp row w w mp row := ⟨rfl, rfl, rfl, Nat.le_refl _, fun _ _ _ _ _ => rfl, .inl rfl, .inl rfl⟩
theorem GrN.trans {nb : Nat} {mp row mp1 row1 mp2 row2 : Option Nat} {w w1 w2 : World} (h : GrN nb mp row w w1 mp1 row1) (h2 : GrN nb mp1 row1 w1 w2 mp2 row2) : GrN nb mp row w w2 mp2 row2 := by
  refine ⟨h2.os.trans h.os, h2.tape.trans h.tape, h2.output.trans h.output, Nat.le_trans h.size h2.size, fun k hk h3 h4 h5 => ?_, ?_, ?_⟩
  · refine (h2.block k (Nat.lt_of_lt_of_le hk h.size) h3 ?_ ?_).trans (h.block k hk h3 h4 h5)
    · rcases h.mp_ with e | ⟨g, e, hg⟩
      · rw [e]; exact h4
      · rw [e]; intro e2; have := Option.some.inj e2; omega
    · rcases h.row_ with e | ⟨g, e, hg⟩
      · rw [e]; exact h5
      · rw [e]; intro e2; have := Option.some.inj e2; omega
  · rcases h2.mp_ with e | ⟨g, e, hg⟩
    · rw [e]; exact h.mp_
    · exact .inr ⟨g, e, Nat.le_trans h.size hg⟩
  · rcases h2.row_ with e | ⟨g, e, hg⟩
    · rw [e]; exact h.row_
    · exact .inr ⟨g, e, Nat.le_trans h.size hg⟩
theorem GrN.of_below {nb : Nat} {mp row : Option Nat} {w w' : World} (h : Below w.heap.size w w') : GrN nb mp row w w' mp row := ⟨h.os, h.tape, h.output, h.size, fun k hk _ _ _ => h.block k hk, .inl rfl, .inl rfl⟩
theorem GrN.below {nb : Nat} {mp row mp' row' : Option Nat} {w w1 w2 : World} (h : GrN nb mp row w w1 mp' row') (hb : Below w1.heap.size w1 w2) : GrN nb mp row w w2 mp' row' := h.trans (.of_below hb)
theorem NSt.fr {w w' : World} {B0 nb n c B : Nat} {a : Option Addr} {mp mp' row' : Option Nat} {l : List ByteArray} (h : NSt w B0 nb a n c mp l) (hB : nb < B) (hg : GrN nb mp (Value.slice a n c).ownBlock w w' mp' row') : Fr B (fun k => B0 ≤ k ∧ k < B) w w' := by
  refine ⟨hg.os, hg.tape, hg.output, hg.size, fun k hk he hs => hg.block k hk (fun e => he ⟨e ▸ h.lo, e ▸ hB⟩) (fun e => ?_) (fun e => ?_)⟩
  · rcases h.map with ⟨h1, _⟩ | ⟨b, h1, h2, h3⟩
    · rw [h1] at e; cases e
    · rw [h1] at e
      obtain rfl := Option.some.inj e
      rcases hs with hs | hs
      · exact he ⟨h2, hs⟩
      · obtain ⟨es, q, h4, _⟩ := h3
        exact hs.2 _ _ h4
  · have h1 := (World.ownsRow.lt h.own k e).1
    rcases hs with hs | hs
    · exact he ⟨h1, hs⟩
    · obtain ⟨cs, fr, h2⟩ := own_cells h.own e
      exact hs.1 _ _ h2
theorem CsT.set0 {w : World} {b : Nat} {u v : Value} {cs : List Value} {t : TypeId} (h : CsT w b (u :: cs) t) : CsT (w.setCell ⟨b, 0, none⟩ v) b (v :: cs) t := by
  unfold CsT World.setCell at *
  simp [Array.getElem?_modify, h]
theorem CsT.set1 {w : World} {b : Nat} {u u1 v : Value} {cs : List Value} {t : TypeId} (h : CsT w b (u :: u1 :: cs) t) : CsT (w.setCell ⟨b, 1, none⟩ v) b (u :: v :: cs) t := by
  unfold CsT World.setCell at *
  simp [Array.getElem?_modify, h]
theorem own_ne {w : World} {B b : Nat} {v : Value} {l : List ByteArray} (h : NmsOwn w B v l) {cs : List Value} {t : TypeId} (hc : CsT w b cs t) (ht : t ≠ 9) : v.ownBlock ≠ some b := fun e => by
  obtain ⟨cs', fr, h2⟩ := own_cells h e
  unfold CsT at hc
  rw [hc] at h2
  injection h2 with h2
  injection h2 with _ h2 _
  exact ht h2
theorem own_ne_map {w : World} {B b : Nat} {v : Value} {l m : List ByteArray} (h : NmsOwn w B v l) (hc : SetAt w b m) : v.ownBlock ≠ some b := fun e => by
  obtain ⟨cs', fr, h2⟩ := own_cells h e
  exact hc.no_row h2
theorem NmsOwn.kept {w w' : World} {B : Nat} {v : Value} {l : List ByteArray} (h : NmsOwn w B v l) {r : Option Nat} (hg : w.grownBy w' r) (hr : ∀ b, r = some b → v.ownBlock ≠ some b) : NmsOwn w' B v l :=
  World.ownsRow.kept h hg (by
    cases e : v.ownBlock with
    | none => exact .inl rfl
    | some g => exact .inr (fun e2 => hr g e2.symm e))
theorem NSt.added {w w5 w7 : World} {B0 nb n c b : Nat} {a : Option Addr} {l : List ByteArray} {s : ByteArray} {a7 : Option Addr} {n7 c7 : Nat} (h : NSt w B0 nb a n c (some b) l) (hm : SetAt w5 b (l ++ [s])) (hg : w.grownBy w5 (some b))
    (ho : NmsOwn w7 B0 (.slice a7 n7 c7) (l ++ [s])) (hg7 : (w5.alloc (.cells #[.string s] 9)).grownBy w7 (Value.slice a n c).ownBlock) (hat : (Value.slice a7 n7 c7).ownBlock = (Value.slice a n c).ownBlock ∨ (Value.slice a7 n7 c7).ownBlock = some (w5.alloc (.cells #[.string s] 9)).heap.size) :
    NSt (w7.setCell ⟨nb, 0, none⟩ (.slice a7 n7 c7)) B0 nb a7 n7 c7 (some b) (l ++ [s]) ∧ GrN nb (some b) (Value.slice a n c).ownBlock w (w7.setCell ⟨nb, 0, none⟩ (.slice a7 n7 c7)) (some b) (Value.slice a7 n7 c7).ownBlock := by
  obtain ⟨b', hb1, hb2, hb3⟩ : ∃ b', some b = some b' ∧ B0 ≤ b' ∧ SetAt w b' l := by
    rcases h.map with ⟨h1, _⟩ | h1
    · cases h1
    · exact h1
  obtain rfl := Option.some.inj hb1
  have hnb : nb ≠ b := fun e => by
    have := h.cs
    unfold CsT at this
    rw [e] at this
    exact hb3.no_row this
  have hrow := own_ne h.own h.cs (by decide)
  have hrb := own_ne_map h.own hb3
  have c5 : CsT w5 nb [.slice a n c, .map (some b)] 63 := (hg.block nb h.cs.lt (fun e => hnb (Option.some.inj e))).trans h.cs
  have c6 := c5.below (below1 w5 (.cells #[.string s] 9))
  have c7' : CsT w7 nb [.slice a n c, .map (some b)] 63 := (hg7.block nb c6.lt (fun e => hrow e.symm)).trans c6
  have m6 := hm.below (below1 w5 (.cells #[.string s] 9))
  have m7 : SetAt w7 b (l ++ [s]) := m6.kept (hg7.block b m6.lt (fun e => hrb e.symm))
  have hne : (Value.slice a7 n7 c7).ownBlock ≠ some nb := own_ne ho c7' (by decide)
  refine ⟨⟨c7'.set0, ?_, .inr ⟨b, rfl, hb2, m7.kept (Below.heap_setCell w7 _ _ b (fun e => hnb e.symm))⟩, h.lo⟩, hg7.os.trans (hg.os), hg7.tape.trans hg.tape, hg7.output.trans hg.output, ?_, ?_, .inl rfl, ?_⟩
  · refine NmsOwn.kept (w := w7) (r := some nb) ho ⟨rfl, rfl, rfl, by simp [World.setCell], fun k _ hk => Below.heap_setCell w7 _ _ k (fun e => hk (by rw [e]))⟩ (fun b' e => by rw [← Option.some.inj e]; exact hne)
  · have := hg.size; have := hg7.size; simp [World.setCell] at *; omega
  · intro k hk h1 h2 h3
    refine (Below.heap_setCell w7 _ _ k h1).trans ?_
    have hk5 : k < w5.heap.size := Nat.lt_of_lt_of_le hk hg.size
    refine (hg7.block k (by simp; omega) (fun e => h3 e.symm)).trans ?_
    refine ((below1 w5 _).block k hk5).trans (hg.block k hk (fun e => h2 e.symm))
  · rcases hat with e | e
    · exact .inl e
    · exact .inr ⟨_, e, by have := hg.size; simp; omega⟩
end Go.Proofs.YtilholgbepfopaaDoor
