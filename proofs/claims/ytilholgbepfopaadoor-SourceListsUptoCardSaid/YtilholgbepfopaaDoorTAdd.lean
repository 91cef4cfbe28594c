/- Adding a name to a list that the call owns (of the reference). -/
import Derived.Test.YtilholgbepfopaaDoorTVars
namespace Go.Proofs.YtilholgbepfopaaDoor
open Go.RowKit

/-- the names l, in a row that the call owns -/
def NmsOwn (w : World) (B : Nat) (v : Value) (l : List ByteArray) : Prop := w.ownsRow B 9 1 v l.length (l.map Value.string)
theorem NmsOwn.at_ {w : World} {B : Nat} {v : Value} {l : List ByteArray} (h : NmsOwn w B v l) : NmsAt w v l := own_sl h
theorem NmsOwn.below {w w' : World} {B : Nat} {v : Value} {l : List ByteArray} (h : NmsOwn w B v l) (hb : Below w.heap.size w w') : NmsOwn w' B v l := own_below h hb
theorem NmsOwn.nil (w : World) (B : Nat) : NmsOwn w B (.slice none 0 0) [] := World.ownsRow_nil w B 9 1
theorem info_S : (Tryd.prog.info? 9).map (fun i => (i.zero, i.size, i.bytes)) = some (some (.string ⟨#[]⟩), 1, 16) := by kernel_rfl
theorem strs_one (l : List ByteArray) : ∀ u ∈ l.map Value.string, u.oneCell' = true := by
  intro u hu
  obtain ⟨x, _, rfl⟩ := List.mem_map.1 hu
  rfl
section
variable {w : World} {ops : Array Oper} {rest : List Oper} {o : Oper} {a : Act} {Q : Exit → Act → World → Prop}
/-- append(l, m...) for strings -/
theorem appN (hgd : o.guard = none) (s x : Operand) (ho : o.op = .call { callee := .builtin .append, args := #[s, x], argTypes := #[32, 32] })
    (B : Nat) (v : Value) (l : List ByteArray) (hs : a.eval s = v) (hown : NmsOwn w B v l) (xv : Value) (m : List ByteArray) (hxe : a.eval x = xv) (hx : NmsAt w xv m) (hn : l.length + m.length ≤ 1000000000) (hbase : B ≤ w.heap.size)
    (h : ∀ v' w', NmsOwn w' B v' (l ++ m) → w.grownBy w' v.ownBlock → (v'.ownBlock = v.ownBlock ∨ v'.ownBlock = some w.heap.size) → wpList Tryd.prog ops Q rest (a.put o.dst v') w') :
    wpList Tryd.prog ops Q (o :: rest) a w := by
  refine wpList_append_sl hgd s x 32 ho B 9 _ 1 16 Tryd.underlying32 info_S rfl (by decide) v l.length _ hs hown xv m.length _ hxe hx (strs_one m) (by unfold maxLen; omega) (by omega) hbase ?_
  intro v' w' h1 h2 h3
  refine h v' w' ?_ h2 h3
  unfold NmsOwn
  rw [List.length_append, List.map_append]
  exact h1
end
/-- from w to w' nothing old but block 'row' has changed, and v lies in that block or in a new one -/
def Grow (w : World) (row : Option Nat) (w' : World) (v : Value) : Prop := w.grownBy w' row ∧ (v.ownBlock = row ∨ ∃ g, v.ownBlock = some g ∧ w.heap.size ≤ g)
theorem Grow.refl (w : World) (v : Value) : Grow w v.ownBlock w v := ⟨World.grownBy.refl _ _, .inl rfl⟩
theorem Grow.step {w wr w' : World} {row : Option Nat} {v v' : Value} (h : Grow w row wr v) (h' : Grow wr v.ownBlock w' v') : Grow w row w' v' := by
  obtain ⟨h1, h2⟩ := h
  obtain ⟨hg, hl⟩ := h'
  refine ⟨⟨hg.os.trans h1.os, hg.tape.trans h1.tape, hg.output.trans h1.output, Nat.le_trans h1.size hg.size, fun k hk hne => ?_⟩, ?_⟩
  · refine (hg.block k (Nat.lt_of_lt_of_le hk h1.size) ?_).trans (h1.block k hk hne)
    intro e
    rcases h2 with h2 | ⟨g, h2, hg2⟩
    · exact hne (e.trans h2)
    · rw [h2] at e
      cases e
      omega
  · rcases hl with hl | ⟨g, hl, hgl⟩
    · rw [hl]; exact h2
    · exact .inr ⟨g, hl, Nat.le_trans h1.size hgl⟩
theorem Grow.below {w wr w' : World} {row : Option Nat} {v : Value} (h : Grow w row wr v) (hb : Below wr.heap.size wr w') : Grow w row w' v :=
  h.step ⟨⟨hb.os, hb.tape, hb.output, hb.size, fun k hk _ => hb.block k hk⟩, .inl rfl⟩
theorem Grow.from {w0 w w' : World} {row : Option Nat} {v : Value} {B : Nat} (h : Grow w row w' v) (hb : Below w0.heap.size w0 w) (hB : w0.heap.size ≤ B) (hr : ∀ g, row = some g → B ≤ g) : Below w0.heap.size w0 w' :=
  hb.grown h.1 hb.size (fun k e => Nat.le_trans hB (hr k e))
theorem CsAt.grow {w w' : World} {b : Nat} {cs : List Value} {row : Option Nat} {v : Value} (h : CsAt w b cs) (hg : Grow w row w' v) (hr : row ≠ some b) : CsAt w' b cs :=
  have hh := hg.1.block b h.lt (fun e => hr e.symm)
  ⟨fun j u hj => (World.cell?_of_block (a := ⟨b, j, none⟩) hh).trans (h.cell j u hj), fun j => (World.frozen?_of_block (a := ⟨b, j, none⟩) hh).trans (h.fr j), Nat.lt_of_lt_of_le h.lt hg.1.size⟩
/-- what a function that adds to a list of the call's own hands back -/
def RAdd (w : World) (B : Nat) (row : Option Nat) (l : List ByteArray) (e : Ending) (w' : World) : Prop := ∃ a n c, e = .returned (.slice a n c) ∧ NmsOwn w' B (.slice a n c) l ∧ Grow w row w' (.slice a n c)
theorem grown_below {w w' : World} (h : Below w.heap.size w w') (r : Option Nat) : w.grownBy w' r := ⟨h.os, h.tape, h.output, h.size, fun k hk _ => h.block k hk⟩
theorem grown_trans {w w1 w2 : World} {r : Option Nat} (h : w.grownBy w1 r) (h2 : w1.grownBy w2 r) : w.grownBy w2 r :=
  ⟨h2.os.trans h.os, h2.tape.trans h.tape, h2.output.trans h.output, Nat.le_trans h.size h2.size, fun k hk hne => (h2.block k (Nat.lt_of_lt_of_le hk h.size) hne).trans (h.block k hk hne)⟩
theorem nms_at1 (w : World) (s : ByteArray) : NmsAt (w.alloc (.cells #[.string s] 9)) (.slice (some ⟨w.heap.size, 0, none⟩) 1 1) [s] := by
  refine .inr ⟨_, _, rfl, Nat.le_refl _, rfl, fun j u hj => ?_⟩
  rw [addr_add, Nat.zero_add, cell_of_row _ _ j _ _ _ (heap_alloc_new w _)]
  simpa using hj
theorem add_yes {l : List ByteArray} {s : ByteArray} (h : hasN l s = true) : addN l s = l := by unfold addN; rw [if_pos h]
theorem add_no {l : List ByteArray} {s : ByteArray} (h : hasN l s = false) : addN l s = l ++ [s] := by unfold addN; rw [if_neg (by rw [h]; decide)]

set_option maxHeartbeats 1000000 in
set_option maxRecDepth 100000 in
theorem radd_any (B : Nat) (v : Value) (l : List ByteArray) (s : ByteArray) (w : World) (hv : NmsOwn w B v l) (hB : B ≤ w.heap.size) (hl : l.length ≤ 100000000) :
    Calls Tryd.prog 41 #[v, .string s] w (RAdd w B v.ownBlock (addN l s)) := by
  obtain ⟨a, c, rfl⟩ := hv.at_.shape
  have H := Lib.hid hv
  have HL := Lib.hid hl
  clear hv
  go_enter Tryd.func41, Tryd.ntmps41
  cases hh : hasN l s with
  | true =>
    have HH := Lib.hid hh
    clear hh
    rw [add_yes HH.out]
    go_wp2_with fail
    refine (rhas_any _ l s _ H.out.at_ (by omega)).mono ?_
    rw [HH.out]
    rintro e w1 ⟨rfl, hb⟩
    go_wp2
    go_ret
    exact ⟨_, _, _, rfl, H.out.below hb, grown_below hb _, .inl rfl⟩
  | false =>
    have HH := Lib.hid hh
    clear hh
    rw [add_no HH.out]
    go_wp2_with fail
    refine (rhas_any _ l s _ H.out.at_ (by omega)).mono ?_
    rw [HH.out]
    rintro e w1 ⟨rfl, hb⟩
    have B1 := Lib.hid hb
    have H1 := Lib.hid (H.out.below (hb.then_' (below1 w1 (.cells #[.string s] 9))))
    have hB1 : B ≤ (w1.alloc (.cells #[.string s] 9)).heap.size := Nat.le_trans hB (hb.then_' (below1 w1 (.cells #[.string s] 9))).size
    have HB1 := Lib.hid hB1
    clear hb hB1
    go_wp2_with (first
      | (at_builtin; refine appN rfl _ _ rfl B (.slice a l.length c) l rfl H1.out _ [s] rfl (nms_at1 w1 s) (by have := HL.out; simp; omega) HB1.out ?_; intro v' w3 ho hg hat; obtain ⟨a3, c3, rfl⟩ := ho.at_.shape; have e1 : (l ++ [s]).length = l.length + 1 := (by simp); rw [e1] at ho hat; have O3 := Lib.hid ho; have G3 := Lib.hid hg; have A3 := Lib.hid hat; clear ho hg hat e1)
      | fail)
    go_ret
    refine ⟨_, _, _, rfl, O3.out, grown_trans (grown_below (B1.out.then_' (below1 w1 (.cells #[.string s] 9))) _) G3.out, ?_⟩
    rcases A3.out with h | h
    · exact .inl h
    · exact .inr ⟨_, h, by have := B1.out.size; simp; omega⟩
end Go.Proofs.YtilholgbepfopaaDoor
