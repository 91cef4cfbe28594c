import Derived.Deep.DeepCutAuto
import Derived.BigQuiet
import Derived.Deep.QuietTactic
import Derived.Deep.RegionLaw
import Derived.Maps.OwnOps
import Derived.Laws.EntriesVeiled
import Derived.Test.YtilholgbepfopaaDoorZ4
/- Adding a name to a list that the call owns (of the reference). -/
namespace Go.Proofs.YtilholgbepfopaaDoor
open Go.RowKit

/-- the names l, in a row that the call owns -/
def NmsOwn (w : World) (B : Nat) (v : Value) (l : List ByteArray) : Prop := w.ownsRow B 9 1 v l.length (l.map Value.string)
theorem NmsOwn.at_ {w : World} {B : Nat} {v : Value} {l : List ByteArray} (h : NmsOwn w B v l) : NmsAt w v l := own_sl h
theorem NmsOwn.below {w w' : World} {B : Nat} {v : Value} {l : List ByteArray} (h : NmsOwn w B v l) (hb : Below w.heap.size w w') : NmsOwn w' B v l := own_below h hb
theorem NmsOwn.nil (w : World) (B : Nat) : NmsOwn w B (.slice none 0 0) [] := World.ownsRow_nil w B 9 1
theorem info_S : (Tryd.prog.info? 9).map (fun i => (i.zero, i.size, i.bytes)) = some (some (.string ⟨#[]⟩), 1, 16) := by kernel_rfl
theorem strs_one (l : List ByteArray) : ∀ u ∈ l.map Value.string, u.oneCell' = true := by
  intro u hu
  obtain ⟨x, _, rfl⟩ := List.mem_map.1 hu
  rfl
section
variable {w : World} {ops : Array Oper} {rest : List Oper} {o : Oper} {a : Act} {Q : Exit → Act → World → Prop}
/-- append(l, m...) for strings -/
theorem appN (hgd : o.guard = none) (s x : Operand) (ho : o.op = .call { callee := .builtin .append, args := #[s, x], argTypes := #[32, 32] })
    (B : Nat) (v : Value) (l : List ByteArray) (hs : a.eval s = v) (hown : NmsOwn w B v l) (xv : Value) (m : List ByteArray) (hxe : a.eval x = xv) (hx : NmsAt w xv m) (hn : l.length + m.length ≤ 1000000000) (hbase : B ≤ w.heap.size)
    (h : ∀ v' w', NmsOwn w' B v' (l ++ m) → w.grownBy w' v.ownBlock → (v'.ownBlock = v.ownBlock ∨ v'.ownBlock = some w.heap.size) → wpList Tryd.prog ops Q rest (a.put o.dst v') w') :
    wpList Tryd.prog ops Q (o :: rest) a w := by
  refine wpList_append_sl hgd s x 32 ho B 9 _ 1 16 Tryd.underlying32 info_S rfl (by decide) v l.length _ hs hown xv m.length _ hxe hx (strs_one m) (by unfold maxLen; omega) (by omega) hbase ?_
  intro v' w' h1 h2 h3
  refine h v' w' ?_ h2 h3
  unfold NmsOwn
  rw [List.length_append, List.map_append]
  exact h1
end
/-- from w to w' nothing old but block 'row' has changed, and v lies in that block or in a new one -/
def Grow (w : World) (row : Option Nat) (w' : World) (v : Value) : Prop := w.grownBy w' row ∧ (v.ownBlock = row ∨ ∃ g, v.ownBlock = some g ∧ w.heap.size ≤ g)
theorem Grow.refl (w : World) (v : Value) : Grow w v.ownBlock w v := ⟨World.grownBy.refl _ _, .inl rfl⟩
theorem Grow.step {w wr w' : World} {row : Option Nat} {v v' : Value} (h : Grow w row wr v) (h' : Grow wr v.ownBlock w' v') : Grow w row w' v' := by
  obtain ⟨h1, h2⟩ := h
  obtain ⟨hg, hl⟩ := h'
  refine ⟨⟨hg.os.trans h1.os, hg.tape.trans h1.tape, hg.output.trans h1.output, Nat.le_trans h1.size hg.size, fun k hk hne => ?_⟩, ?_⟩
  · refine (hg.block k (Nat.lt_of_lt_of_le hk h1.size) ?_).trans (h1.block k hk hne)
    intro e
    rcases h2 with h2 | ⟨g, h2, hg2⟩
    · exact hne (e.trans h2)
    · rw [h2] at e
      cases e
      omega
  · rcases hl with hl | ⟨g, hl, hgl⟩
    · rw [hl]; exact h2
    · exact .inr ⟨g, hl, Nat.le_trans h1.size hgl⟩
theorem Grow.below {w wr w' : World} {row : Option Nat} {v : Value} (h : Grow w row wr v) (hb : Below wr.heap.size wr w') : Grow w row w' v :=
  h.step ⟨⟨hb.os, hb.tape, hb.output, hb.size, fun k hk _ => hb.block k hk⟩, .inl rfl⟩
theorem Grow.from {w0 w w' : World} {row : Option Nat} {v : Value} {B : Nat} (h : Grow w row w' v) (hb : Below w0.heap.size w0 w) (hB : w0.heap.size ≤ B) (hr : ∀ g, row = some g → B ≤ g) : Below w0.heap.size w0 w' :=
  hb.grown h.1 hb.size (fun k e => Nat.le_trans hB (hr k e))
theorem CsAt.grow {w w' : World} {b : Nat} {cs : List Value} {row : Option Nat} {v : Value} (h : CsAt w b cs) (hg : Grow w row w' v) (hr : row ≠ some b) : CsAt w' b cs :=
  have hh := hg.1.block b h.lt (fun e => hr e.symm)
  ⟨fun j u hj => (World.cell?_of_block (a := ⟨b, j, none⟩) hh).trans (h.cell j u hj), fun j => (World.frozen?_of_block (a := ⟨b, j, none⟩) hh).trans (h.fr j), Nat.lt_of_lt_of_le h.lt hg.1.size⟩
/-- what a function that adds to a list of the call's own hands back -/
def RAdd (w : World) (B : Nat) (row : Option Nat) (l : List ByteArray) (e : Ending) (w' : World) : Prop := ∃ a n c, e = .returned (.slice a n c) ∧ NmsOwn w' B (.slice a n c) l ∧ Grow w row w' (.slice a n c)
theorem grown_below {w w' : World} (h : Below w.heap.size w w') (r : Option Nat) : w.grownBy w' r := ⟨h.os, h.tape, h.output, h.size, fun k hk _ => h.block k hk⟩
theorem grown_trans {w w1 w2 : World} {r : Option Nat} (h : w.grownBy w1 r) (h2 : w1.grownBy w2 r) : w.grownBy w2 r :=
  ⟨h2.os.trans h.os, h2.tape.trans h.tape, h2.output.trans h.output, Nat.le_trans h.size h2.size, fun k hk hne => (h2.block k (Nat.lt_of_lt_of_le hk h.size) hne).trans (h.block k hk hne)⟩
theorem nms_at1 (w : World) (s : ByteArray) : NmsAt (w.alloc (.cells #[.string s] 9)) (.slice (some ⟨w.heap.size, 0, none⟩) 1 1) [s] := by
  refine .inr ⟨_, _, rfl, Nat.le_refl _, rfl, fun j u hj => ?_⟩
  rw [addr_add, Nat.zero_add, cell_of_row _ _ j _ _ _ (heap_alloc_new w _)]
  simpa using hj
theorem add_yes {l : List ByteArray} {s : ByteArray} (h : hasN l s = true) : addN l s = l := by unfold addN; rw [if_pos h]
theorem add_no {l : List ByteArray} {s : ByteArray} (h : hasN l s = false) : addN l s = l ++ [s] := by unfold addN; rw [if_neg (by rw [h]; decide)]

set_option maxHeartbeats 1000000 in
set_option maxRecDepth 100000 in
theorem radd_any (B : Nat) (v : Value) (l : List ByteArray) (s : ByteArray) (w : World) (hv : NmsOwn w B v l) (hB : B ≤ w.heap.size) (hl : l.length ≤ 100000000) :
    Calls Tryd.prog 41 #[v, .string s] w (RAdd w B v.ownBlock (addN l s)) := by
  obtain ⟨a, c, rfl⟩ := hv.at_.shape
  have H := Lib.hid hv
  have HL := Lib.hid hl
  clear hv
  go_enter Tryd.func41, Tryd.ntmps41
  cases hh : hasN l s with
  | true =>
    have HH := Lib.hid hh
    clear hh
    rw [add_yes HH.out]
    go_wp2_with fail
    refine (rhas_any _ l s _ H.out.at_ (by omega)).mono ?_
    rw [HH.out]
    rintro e w1 ⟨rfl, hb⟩
    go_wp2
    go_ret
    exact ⟨_, _, _, rfl, H.out.below hb, grown_below hb _, .inl rfl⟩
  | false =>
    have HH := Lib.hid hh
    clear hh
    rw [add_no HH.out]
    go_wp2_with fail
    refine (rhas_any _ l s _ H.out.at_ (by omega)).mono ?_
    rw [HH.out]
    rintro e w1 ⟨rfl, hb⟩
    have B1 := Lib.hid hb
    have H1 := Lib.hid (H.out.below (hb.then_' (below1 w1 (.cells #[.string s] 9))))
    have hB1 : B ≤ (w1.alloc (.cells #[.string s] 9)).heap.size := Nat.le_trans hB (hb.then_' (below1 w1 (.cells #[.string s] 9))).size
    have HB1 := Lib.hid hB1
    clear hb hB1
    go_wp2_with (first
      | (at_builtin; refine appN rfl _ _ rfl B (.slice a l.length c) l rfl H1.out _ [s] rfl (nms_at1 w1 s) (by have := HL.out; simp; omega) HB1.out ?_; intro v' w3 ho hg hat; obtain ⟨a3, c3, rfl⟩ := ho.at_.shape; have e1 : (l ++ [s]).length = l.length + 1 := (by simp); rw [e1] at ho hat; have O3 := Lib.hid ho; have G3 := Lib.hid hg; have A3 := Lib.hid hat; clear ho hg hat e1)
      | fail)
    go_ret
    refine ⟨_, _, _, rfl, O3.out, grown_trans (grown_below (B1.out.then_' (below1 w1 (.cells #[.string s] 9))) _) G3.out, ?_⟩
    rcases A3.out with h | h
    · exact .inl h
    · exact .inr ⟨_, h, by have := B1.out.size; simp; omega⟩
end Go.Proofs.YtilholgbepfopaaDoor
/- How large trees are. -/
namespace Go.Proofs.YtilholgbepfopaaDoor

mutual
/-- nodes of an expression -/
def Ex.sz : Ex → Nat
  | .mk _ _ _ _ l => 1 + szE l
def szE : List Ex → Nat
  | [] => 0
  | e :: l => e.sz + szE l
end
theorem Ex.sz_pos (e : Ex) : 0 < e.sz := by cases e; unfold Ex.sz; omega
theorem Ex.sz_l (e : Ex) : szE e.l < e.sz := by cases e; unfold Ex.sz; show szE _ < _; simp only [Ex.l]; omega
theorem szE_mem {l : List Ex} {e : Ex} (h : e ∈ l) : e.sz ≤ szE l := by
  induction l with
  | nil => cases h
  | cons d l ih =>
    unfold szE
    rcases List.mem_cons.1 h with rfl | h
    · omega
    · have := ih h; omega
theorem szE_len (l : List Ex) : l.length ≤ szE l := by
  induction l with
  | nil => simp
  | cons d l ih => unfold szE; have := d.sz_pos; simp only [List.length_cons]; omega
mutual
/-- nodes of a statement -/
def St.sz : St → Nat
  | .mk _ _ _ _ _ es b e => 1 + szE es + szS b + szS e
def szS : List St → Nat
  | [] => 0
  | s :: l => s.sz + szS l
end
theorem St.sz_pos (e : St) : 0 < e.sz := by cases e; unfold St.sz; omega
theorem St.sz_parts (e : St) : 1 + szE e.exprs + szS e.body + szS e.els = e.sz := by cases e; unfold St.sz; rfl
theorem szS_mem {l : List St} {e : St} (h : e ∈ l) : e.sz ≤ szS l := by
  induction l with
  | nil => cases h
  | cons d l ih =>
    unfold szS
    rcases List.mem_cons.1 h with rfl | h
    · omega
    · have := ih h; omega
theorem szS_len (l : List St) : l.length ≤ szS l := by
  induction l with
  | nil => simp
  | cons d l ih => unfold szS; have := d.sz_pos; simp only [List.length_cons]; omega
/-- how much a program holds -/
def szF (f : Fn) : Nat := 1 + f.params.length + szS f.body
def szP : List Fn → Nat
  | [] => 0
  | f :: l => szF f + szP l
theorem szP_mem {l : List Fn} {f : Fn} (h : f ∈ l) : szF f ≤ szP l := by
  induction l with
  | nil => cases h
  | cons d l ih =>
    unfold szP
    rcases List.mem_cons.1 h with rfl | h
    · omega
    · have := ih h; omega
theorem szF_pos (f : Fn) : 0 < szF f := by unfold szF; omega
theorem szP_len (l : List Fn) : l.length ≤ szP l := by
  induction l with
  | nil => simp
  | cons d l ih => unfold szP; have h1 : 0 < szF d := szF_pos d; simp only [List.length_cons]; omega
theorem Fn.ext' {a b : Fn} (h1 : a.name = b.name) (h2 : a.params = b.params) (h3 : a.body = b.body) : a = b := by
  cases a; cases b
  simp only at *
  subst h1 h2 h3
  rfl
def stC (s : St) (u x y : Value) : List Value := [.int .i64 s.kind, .string s.name, .string s.fn, .int .i64 s.n, .int .i64 s.op, u, x, y]
def exV (e : Ex) (v : Value) : Value := .agg #[.int .i64 e.kind, .int .i64 e.n, .string e.name, .int .i64 e.op, v]
def exC (e : Ex) (v : Value) : List Value := [.int .i64 e.kind, .int .i64 e.n, .string e.name, .int .i64 e.op, v]
end Go.Proofs.YtilholgbepfopaaDoor
/- The variables of statements (of the reference). -/
namespace Go.Proofs.YtilholgbepfopaaDoor
open Go.RowKit

mutual
/-- the names that a statement adds -/
def walkS (out : List ByteArray) : St → List ByteArray
  | .mk k nm _ _ _ _ b e => walkL (walkL (if (partsOf k).name = true then addN out nm else out) b) e
def walkL (out : List ByteArray) : List St → List ByteArray
  | [] => out
  | s :: l => walkL (walkS out s) l
end
theorem walkL_snoc (out : List ByteArray) (l : List St) (x : St) : walkL out (l ++ [x]) = walkS (walkL out l) x := by
  induction l generalizing out with
  | nil => simp [walkL]
  | cons y l ih => simp only [List.cons_append, walkL]; exact ih _
theorem walkS_parts (out : List ByteArray) (x : St) : walkS out x = walkL (walkL (if (partsOf x.kind).name = true then addN out x.name else out) x.body) x.els := by
  cases x
  rw [walkS]
  rfl
theorem addN_len (l : List ByteArray) (s : ByteArray) : (addN l s).length ≤ l.length + 1 := by
  unfold addN
  split <;> simp
mutual
theorem walkS_len (out : List ByteArray) : ∀ (x : St), (walkS out x).length ≤ out.length + x.sz
  | .mk k nm f n op es b e => by
    rw [walkS]
    have h1 := walkL_len (walkL (if (partsOf k).name = true then addN out nm else out) b) e
    have h2 := walkL_len (if (partsOf k).name = true then addN out nm else out) b
    have h3 : (if (partsOf k).name = true then addN out nm else out).length ≤ out.length + 1 := by
      split
      · exact addN_len _ _
      · omega
    unfold St.sz
    omega
theorem walkL_len (out : List ByteArray) : ∀ (l : List St), (walkL out l).length ≤ out.length + szS l
  | [] => by unfold walkL szS; omega
  | x :: l => by
    unfold walkL szS
    have h1 := walkL_len (walkS out x) l
    have h2 := walkS_len out x
    omega
end
theorem szS_take (l : List St) (k : Nat) : szS (l.take k) ≤ szS l := by
  induction l generalizing k with
  | nil => simp
  | cons x l ih =>
    cases k with
    | zero => simp [szS]
    | succ k => simp only [List.take_succ_cons, szS]; have := ih k; omega
theorem szS_take_add {l : List St} {k : Nat} {x : St} (h : l[k]? = some x) : szS (l.take k) + x.sz ≤ szS l := by
  induction l generalizing k with
  | nil => simp at h
  | cons y l ih =>
    cases k with
    | zero => simp at h; subst h; simp [szS]
    | succ k =>
      rw [List.getElem?_cons_succ] at h
      have := ih h
      simp only [List.take_succ_cons, szS]
      omega
theorem take_snoc' {α : Type} {l : List α} {k : Nat} {x : α} (h : l[k]? = some x) : l.take (k + 1) = l.take k ++ [x] := by
  rw [List.take_add_one, h]
  rfl

set_option maxHeartbeats 4000000 in
set_option maxRecDepth 100000 in
theorem rwalk_any (m : Nat) : ∀ (l : List St) (v ov : Value) (out : List ByteArray) (B : Nat) (w0 w : World), szS l < m → StsAt w0 v l → Below w0.heap.size w0 w → w0.heap.size ≤ B → B ≤ w.heap.size → NmsOwn w B ov out → out.length + szS l ≤ 10000000 →
    Calls Tryd.prog 42 #[ov, v] w (RAdd w B ov.ownBlock (walkL out l)) := by
  induction m with
  | zero => intro _ _ _ _ _ _ _ h; omega
  | succ m ih =>
    intro l v ov out B w0 w hsz hv hb0 hB0 hB ho hlen
    obtain ⟨a, c, rfl⟩ := hv.shape
    obtain ⟨oa, oc, rfl⟩ := ho.at_.shape
    have H := Lib.hid hv
    have HO := Lib.hid ho
    have B0 := Lib.hid hb0
    have HLEN := Lib.hid hlen
    have HSZ := Lib.hid hsz
    have IH := Lib.hid ih
    have hl : l.length ≤ 10000000 := by have := szS_len l; omega
    obtain ⟨n, hn⟩ : ∃ n, n = l.length := ⟨_, rfl⟩
    have HN := Lib.hid hn
    rw [← hn] at H hl ⊢
    clear ih hsz hv hb0 ho hlen hn
    generalize hrow : (Value.slice oa out.length oc).ownBlock = row
    have HROW := Lib.hid hrow
    clear hrow
    go_enter Tryd.func42, Tryd.ntmps42
    go_wp2
    go_loopw [0, 6, 9] (fun o_ _ k_ wr => ∃ (k : Nat) (a2 : Option Addr) (c2 n2 : Nat), k ≤ n ∧ k_ = .int .i64 k ∧ o_ = .slice a2 n2 c2 ∧ NmsOwn wr B (.slice a2 n2 c2) (walkL out (l.take k)) ∧ Grow w row wr (.slice a2 n2 c2)) (fun _ _ k_ _ => n - (intOf k_).toNat)
    case atStart => exact ⟨0, oa, oc, _, Nat.zero_le _, rfl, rfl, by simpa [walkL] using HO.out, by rw [← HROW.out]; exact Grow.refl _ _⟩
    case round =>
      obtain ⟨k, a2, c2, n2, hk, rfl, rfl, hown, hg⟩ := hrel
      have OW := Lib.hid hown
      have GW := Lib.hid hg
      clear hown hg
      by_cases hlt : k < n
      · obtain ⟨x, hx⟩ : ∃ x, l[k]? = some x := ⟨_, List.getElem?_eq_getElem (by rw [← HN.out]; exact hlt)⟩
        have hrowB : ∀ g, row = some g → B ≤ g := fun g e => (World.ownsRow.lt HO.out g (HROW.out.trans e)).1
        have hb0r : Below w0.heap.size w0 wr := GW.out.from B0.out hB0 hrowB
        obtain ⟨b, o, c', u, xb, xe, hv, hbl, f0, f1, f2, f3, f4, f5, f6, f7, hu, hxb, hxe⟩ := H.out.elem hx
        obtain ⟨rfl, -, rfl⟩ := Value.slice.inj hv
        obtain ⟨ua, uc, rfl⟩ := hu.shape
        obtain ⟨ba, bc, rfl⟩ := hxb.shape
        obtain ⟨ea, ec, rfl⟩ := hxe.shape
        replace f0 := (hb0r.cell (p := ⟨b, o + k * 8, none⟩) hbl).trans f0
        replace f1 := (hb0r.cell (p := ⟨b, o + k * 8 + 1, none⟩) hbl).trans f1
        replace f2 := (hb0r.cell (p := ⟨b, o + k * 8 + 2, none⟩) hbl).trans f2
        replace f3 := (hb0r.cell (p := ⟨b, o + k * 8 + 3, none⟩) hbl).trans f3
        replace f4 := (hb0r.cell (p := ⟨b, o + k * 8 + 4, none⟩) hbl).trans f4
        replace f5 := (hb0r.cell (p := ⟨b, o + k * 8 + 5, none⟩) hbl).trans f5
        replace f6 := (hb0r.cell (p := ⟨b, o + k * 8 + 6, none⟩) hbl).trans f6
        replace f7 := (hb0r.cell (p := ⟨b, o + k * 8 + 7, none⟩) hbl).trans f7
        have XB := Lib.hid hxb
        have XE := Lib.hid hxe
        have BR := Lib.hid hb0r
        have HTK := Lib.hid (take_snoc' hx)
        have hxs := szS_mem (List.mem_of_getElem? hx)
        have hxp := x.sz_parts
        have HLT : Hid ((walkL out (l.take k)).length + 1 + szS x.body + szS x.els ≤ 10000000) := Lib.hid (by have h1 := walkL_len out (l.take k); have h2 := szS_take_add hx; have h3 := HLEN.out; omega)
        have HSM : Hid (szS x.body < m ∧ szS x.els < m) := Lib.hid (by have := HSZ.out; omega)
        have hki : (k : Int) < (n : Int) := by omega
        have hBw : B ≤ wr.heap.size := Nat.le_trans hB GW.out.1.size
        have zne : Hid (∀ g, (Value.slice a2 n2 c2).ownBlock = some g → g < wr.heap.size) := Lib.hid (fun g e => (World.ownsRow.lt OW.out g e).2)
        have T := Lib.hid (CsAt.new wr (stC x (.slice ua x.exprs.length uc) (.slice ba x.body.length bc) (.slice ea x.els.length ec)) 40)
        have Bz := Lib.hid (below1 wr (.cells (stC x (.slice ua x.exprs.length uc) (.slice ba x.body.length bc) (.slice ea x.els.length ec)).toArray 40))
        have t0 := T.out.cell 0 _ rfl
        have t1 := T.out.cell 1 _ rfl
        unfold stC at t0 t1 T Bz
        clear hx hv hu hxb hxe hb0r hxs hxp hrowB
        go_wp2_with fail
        generalize wr.alloc (.cells #[.int .i64 x.kind, .string x.name, .string x.fn, .int .i64 x.n, .int .i64 x.op, .slice ua x.exprs.length uc, .slice ba x.body.length bc, .slice ea x.els.length ec] 40) = wz at *
        clear t0 t1 f0 f1 f2 f3 f4 f5 f6 f7
        refine (rnames_any x.kind wz).mono ?_
        rintro e w1 ⟨rfl, hb⟩
        have T1 := Lib.hid (T.out.below hb)
        have B1 := Lib.hid (Bz.out.then_' hb)
        clear hb
        cases hnm : (partsOf x.kind).name with
        | true =>
          have HNM := Lib.hid hnm
          clear hnm
          have t1 := T1.out.cell 1 _ rfl
          go_wp2_with fail
          refine (radd_any B (.slice a2 n2 c2) (walkL out (l.take k)) x.name w1 (OW.out.below B1.out) (Nat.le_trans hBw B1.out.size) (by have := HLT.out; omega)).mono ?_
          rintro e w2 ⟨a3, n3, c3, rfl, ho3, hg3⟩
          have O1 := Lib.hid ho3
          have hG := ((Grow.refl wr (.slice a2 n2 c2)).below B1.out).step hg3
          have G01 := Lib.hid hG
          have BO := Lib.hid ((GW.out.step hG).from B0.out hB0 (fun g e => (World.ownsRow.lt HO.out g (HROW.out.trans e)).1))
          have SZ1 : Hid (B ≤ w2.heap.size) := Lib.hid (Nat.le_trans hBw hG.1.size)
          have ne1 : Hid ((Value.slice a3 n3 c3).ownBlock ≠ some wr.heap.size) := Lib.hid (fun e => by
            rcases hg3.2 with h | ⟨g, h, hge⟩
            · have := zne.out _ (h.symm.trans e); omega
            · rw [h] at e; have := Option.some.inj e; have h5 := T1.out.lt; omega)
          replace T1 := Lib.hid (T1.out.grow hg3 (fun e => by have := zne.out _ e; omega))
          have HL1 := Lib.hid (addN_len (walkL out (l.take k)) x.name)
          clear ho3 hg3 hG t1
          have HLN : Hid ((addN (walkL out (l.take k)) x.name).length + szS x.body ≤ 10000000 ∧ (walkL (addN (walkL out (l.take k)) x.name) x.body).length + szS x.els ≤ 10000000) := Lib.hid (by have h1 := HLT.out; have h2 := walkL_len (addN (walkL out (l.take k)) x.name) x.body; have h3 := HL1.out; omega)
          have HMark := Lib.hid True.intro
          have y6 := T1.out.cell 6 _ rfl
          have y7 := T1.out.cell 7 _ rfl
          go_wp2_with fail
          go_region_law (first
            | (clear HMark; go_simp; go_at_call 42; refine (IH.out x.body _ _ (addN (walkL out (l.take k)) x.name) B w0 _ HSM.out.1 XB.out (BO.out.then_' (below_drew' _)) hB0 (Nat.le_trans SZ1.out (below_drew' _).size) (O1.out.below (below_drew' _)) HLN.out.1).mono ?_; rintro e w4 ⟨a4, n4, c4, rfl, ho4, hg4⟩; have O4 := Lib.hid ho4; have G4 := Lib.hid hg4; have T4 := (T1.out.below (below_drew' _)).grow hg4 ne1.out; have y7' := T4.cell 7 _ rfl; clear ho4 hg4 T4)
            | (go_simp; go_at_call 42; refine (IH.out x.els _ _ (walkL (addN (walkL out (l.take k)) x.name) x.body) B w0 _ HSM.out.2 XE.out (G4.out.from (BO.out.then_' (below_drew' _)) hB0 (fun g e => (World.ownsRow.lt O1.out g e).1)) hB0 (Nat.le_trans SZ1.out (Nat.le_trans (below_drew' _).size G4.out.1.size)) O4.out HLN.out.2).mono ?_; rintro e w5 ⟨a5, n5, c5, rfl, ho5, hg5⟩; have O5 := Lib.hid ho5; have G5 := Lib.hid hg5; clear ho5 hg5)
            | fail)
          all_goals
            go_wp2
            go_roundw
            case rel => exact ⟨k + 1, a5, c5, n5, by omega, by go_num, rfl, by rw [HTK.out, walkL_snoc, walkS_parts, if_pos HNM.out]; exact O5.out, GW.out.step (((G01.out.below (below_drew' _)).step G4.out).step G5.out)⟩
            case measure => simp [intOf]; omega
        | false =>
          have HNM := Lib.hid hnm
          clear hnm
          have O1 := Lib.hid (OW.out.below B1.out)
          have hG := (Grow.refl wr (.slice a2 n2 c2)).below B1.out
          have G01 := Lib.hid hG
          have BO := Lib.hid ((GW.out.step hG).from B0.out hB0 (fun g e => (World.ownsRow.lt HO.out g (HROW.out.trans e)).1))
          have SZ1 : Hid (B ≤ w1.heap.size) := Lib.hid (Nat.le_trans hBw hG.1.size)
          have ne1 : Hid ((Value.slice a2 n2 c2).ownBlock ≠ some wr.heap.size) := Lib.hid (fun e => by have := zne.out _ e; omega)
          have HL1 : Hid ((walkL out (l.take k)).length ≤ (walkL out (l.take k)).length + 1) := Lib.hid (by omega)
          clear hG
          have HLN : Hid ((walkL out (l.take k)).length + szS x.body ≤ 10000000 ∧ (walkL (walkL out (l.take k)) x.body).length + szS x.els ≤ 10000000) := Lib.hid (by have h1 := HLT.out; have h2 := walkL_len (walkL out (l.take k)) x.body; have h3 := HL1.out; omega)
          have HMark := Lib.hid True.intro
          have y6 := T1.out.cell 6 _ rfl
          have y7 := T1.out.cell 7 _ rfl
          go_wp2_with fail
          go_region_law (first
            | (clear HMark; go_simp; go_at_call 42; refine (IH.out x.body _ _ (walkL out (l.take k)) B w0 _ HSM.out.1 XB.out (BO.out.then_' (below_drew' _)) hB0 (Nat.le_trans SZ1.out (below_drew' _).size) (O1.out.below (below_drew' _)) HLN.out.1).mono ?_; rintro e w4 ⟨a4, n4, c4, rfl, ho4, hg4⟩; have O4 := Lib.hid ho4; have G4 := Lib.hid hg4; have T4 := (T1.out.below (below_drew' _)).grow hg4 ne1.out; have y7' := T4.cell 7 _ rfl; clear ho4 hg4 T4)
            | (go_simp; go_at_call 42; refine (IH.out x.els _ _ (walkL (walkL out (l.take k)) x.body) B w0 _ HSM.out.2 XE.out (G4.out.from (BO.out.then_' (below_drew' _)) hB0 (fun g e => (World.ownsRow.lt O1.out g e).1)) hB0 (Nat.le_trans SZ1.out (Nat.le_trans (below_drew' _).size G4.out.1.size)) O4.out HLN.out.2).mono ?_; rintro e w5 ⟨a5, n5, c5, rfl, ho5, hg5⟩; have O5 := Lib.hid ho5; have G5 := Lib.hid hg5; clear ho5 hg5)
            | fail)
          all_goals
            go_wp2
            go_roundw
            case rel => exact ⟨k + 1, a5, c5, n5, by omega, by go_num, rfl, by rw [HTK.out, walkL_snoc, walkS_parts, if_neg (by rw [HNM.out]; decide)]; exact O5.out, GW.out.step (((G01.out.below (below_drew' _)).step G4.out).step G5.out)⟩
            case measure => simp [intOf]; omega
      · obtain rfl : k = n := by omega
        have e1 : l.take k = l := List.take_of_length_le (Nat.le_of_eq HN.out.symm)
        rw [e1] at OW
        go_wp2
        go_ret
        exact ⟨_, _, _, rfl, OW.out, GW.out⟩
end Go.Proofs.YtilholgbepfopaaDoor
/- Vars (of the reference). -/
namespace Go.Proofs.YtilholgbepfopaaDoor
open Go.RowKit

def addAll (out l : List ByteArray) : List ByteArray := l.foldl addN out
def varsO (f : Fn) : List ByteArray := walkL (addAll [] f.params) f.body
theorem addAll_snoc (out l : List ByteArray) (x : ByteArray) : addAll out (l ++ [x]) = addN (addAll out l) x := by
  unfold addAll
  rw [List.foldl_append]
  rfl
theorem addAll_len (out l : List ByteArray) : (addAll out l).length ≤ out.length + l.length := by
  induction l generalizing out with
  | nil => exact Nat.le_refl _
  | cons x l ih =>
    have h1 := ih (addN out x)
    have h2 := addN_len out x
    show (addAll (addN out x) l).length ≤ _
    simp only [List.length_cons]
    omega
theorem take_small {l : List ByteArray} {k n : Nat} (hk : k ≤ n) (hn : n ≤ 10000000) : (addAll [] (l.take k)).length ≤ 10000000 := by
  have h1 := addAll_len [] (l.take k)
  have h2 : (l.take k).length ≤ k := by simp; omega
  simp only [List.length_nil] at h1
  omega
/-- names in new memory -/
def RNms (w : World) (l : List ByteArray) (e : Ending) (w' : World) : Prop := ∃ a n c, e = .returned (.slice a n c) ∧ NmsOwn w' w.heap.size (.slice a n c) l ∧ Below w.heap.size w w'

set_option maxHeartbeats 4000000 in
set_option maxRecDepth 100000 in
theorem rvars_any (f : Fn) (u x : Value) (w : World) (hsz : szF f ≤ 10000000) (hu : NmsAt w u f.params) (hx : StsAt w x f.body) :
    Calls Tryd.prog 19 #[.agg #[.string f.name, u, x]] w (RNms w (varsO f)) := by
  obtain ⟨ua, uc, rfl⟩ := hu.shape
  obtain ⟨xa, xc, rfl⟩ := hx.shape
  have HU := Lib.hid hu
  have HX := Lib.hid hx
  have HSZ := Lib.hid hsz
  have hl : f.params.length ≤ 10000000 := by unfold szF at hsz; omega
  clear hu hx hsz
  obtain ⟨n, hn⟩ : ∃ n, n = f.params.length := ⟨_, rfl⟩
  have HN := Lib.hid hn
  rw [← hn] at HU hl ⊢
  clear hn
  have P := Lib.hid (CsAt.new w [.string f.name, .slice ua n uc, .slice xa f.body.length xc] 35)
  have B1 := Lib.hid (below1 w (.cells #[.string f.name, .slice ua n uc, .slice xa f.body.length xc] 35))
  have p1 := P.out.cell 1 _ rfl
  go_enter Tryd.func19, Tryd.ntmps19
  go_wp2_with fail
  generalize w.alloc (.cells #[.string f.name, .slice ua n uc, .slice xa f.body.length xc] 35) = w1 at *
  clear p1
  have hB1 := B1.out.size
  go_loopw [3, 5, 9] (fun o_ _ k_ wr => ∃ (k : Nat) (a2 : Option Addr) (c2 n2 : Nat), k ≤ n ∧ k_ = .int .i64 k ∧ o_ = .slice a2 n2 c2 ∧ NmsOwn wr w1.heap.size (.slice a2 n2 c2) (addAll [] (f.params.take k)) ∧ Below w1.heap.size w1 wr) (fun _ _ k_ _ => n - (intOf k_).toNat)
  case atStart => exact ⟨0, none, 0, 0, Nat.zero_le _, rfl, rfl, NmsOwn.nil _ _, Below.refl _ _⟩
  case round =>
    obtain ⟨k, a2, c2, n2, hk, rfl, rfl, hown, hb⟩ := hrel
    have OW := Lib.hid hown
    have BW := Lib.hid hb
    clear hown
    by_cases hlt : k < n
    · obtain ⟨s, hs⟩ : ∃ s, f.params[k]? = some s := ⟨_, List.getElem?_eq_getElem (by rw [← HN.out]; exact hlt)⟩
      obtain ⟨b, o, c', hv, _, c0⟩ := (HU.out.below (B1.out.then_' hb)).elem hs
      obtain ⟨rfl, -, rfl⟩ := Value.slice.inj hv
      have HS := Lib.hid (take_snoc' hs)
      have hki : (k : Int) < (n : Int) := by omega
      have HL : Hid ((addAll [] (f.params.take k)).length ≤ 10000000) := Lib.hid (take_small hk hl)
      clear hv hs hb
      go_wp2_with fail
      refine (radd_any w1.heap.size _ _ s _ OW.out BW.out.size (by have := HL.out; omega)).mono ?_
      rintro e w2 ⟨a3, n3, c3, rfl, ho3, hg3⟩
      have O3 := Lib.hid ho3
      have B3 := Lib.hid (hg3.from BW.out (Nat.le_refl _) (fun g e => (World.ownsRow.lt OW.out g e).1))
      clear ho3 hg3
      go_wp2
      go_roundw
      case rel => exact ⟨k + 1, a3, c3, n3, by omega, by go_num, rfl, by rw [HS.out, addAll_snoc]; exact O3.out, B3.out⟩
      case measure => simp [intOf]; omega
    · obtain rfl : k = n := by omega
      have e1 : f.params.take k = f.params := List.take_of_length_le (Nat.le_of_eq HN.out.symm)
      rw [e1] at OW
      have p2 := (P.out.below hb).cell 2 _ rfl
      have HL : Hid ((addAll [] f.params).length + szS f.body ≤ 10000000) := Lib.hid (by have := addAll_len [] f.params; have h2 := HSZ.out; unfold szF at h2; simp only [List.length_nil] at this; omega)
      have hsz := HL.out
      clear hb e1
      go_wp2_with fail
      refine (rwalk_any (szS f.body + 1) f.body _ _ (addAll [] f.params) w1.heap.size w1 _ (Nat.lt_succ_self _) (HX.out.below B1.out) BW.out (Nat.le_refl _) BW.out.size OW.out HL.out).mono ?_
      rintro e w2 ⟨a3, n3, c3, rfl, ho3, hg3⟩
      go_wp2
      go_ret
      obtain ⟨h1, h2⟩ := ho3
      exact ⟨_, _, _, rfl, own_mono ⟨h1, h2⟩ hB1, B1.out.then_' (hg3.from BW.out (Nat.le_refl _) (fun g e => (World.ownsRow.lt OW.out g e).1))⟩
end Go.Proofs.YtilholgbepfopaaDoor
/- What calls through a function value leave alone: a frame by the blocks that may change and the rows of strings. -/
namespace Go.Proofs.YtilholgbepfopaaDoor
open Go.RowKit

/-- neither a row of strings nor a map -/
def Safe (o : Option Obj) : Prop := (∀ cs fr, o ≠ some (.cells cs 9 fr)) ∧ ∀ es c, o ≠ some (.map es c)
/-- from w to w' nothing has changed but the blocks E and, from block B on, rows of strings and maps -/
structure Fr (B : Nat) (E : Nat → Prop) (w w' : World) : Prop where
  os : w'.os = w.os
  tape : w'.tape = w.tape
  output : w'.output = w.output
  size : w.heap.size ≤ w'.heap.size
  block : ∀ k, k < w.heap.size → ¬ E k → (k < B ∨ Safe w.heap[k]?) → w'.heap[k]? = w.heap[k]?
theorem Fr.refl (B : Nat) (E : Nat → Prop) (w : World) : Fr B E w w := ⟨rfl, rfl, rfl, Nat.le_refl _, fun _ _ _ _ => rfl⟩
theorem Fr.trans {B : Nat} {E : Nat → Prop} {w w1 w2 : World} (h : Fr B E w w1) (h2 : Fr B E w1 w2) : Fr B E w w2 :=
  ⟨h2.os.trans h.os, h2.tape.trans h.tape, h2.output.trans h.output, Nat.le_trans h.size h2.size, fun k hk he hr => by
    have e1 := h.block k hk he hr
    exact (h2.block k (Nat.lt_of_lt_of_le hk h.size) he (by rw [e1]; exact hr)).trans e1⟩
theorem Fr.of_below {B : Nat} {E : Nat → Prop} {w w' : World} (h : Below w.heap.size w w') : Fr B E w w' := ⟨h.os, h.tape, h.output, h.size, fun k hk _ _ => h.block k hk⟩
theorem Fr.below {B : Nat} {E : Nat → Prop} {w w1 w2 : World} (h : Fr B E w w1) (hb : Below w1.heap.size w1 w2) : Fr B E w w2 := h.trans (.of_below hb)
theorem Fr.set {B : Nat} {E : Nat → Prop} {w w1 : World} (h : Fr B E w w1) {p : Addr} (hp : E p.block) (u : Value) : Fr B E w (w1.setCell p u) :=
  h.trans ⟨rfl, rfl, rfl, by simp [World.setCell], fun k _ he _ => Below.heap_setCell w1 p u k (by rintro rfl; exact he hp)⟩
theorem Fr.low {B : Nat} {E : Nat → Prop} {w0 w w' : World} (h : Fr B E w w') (hb : Below w0.heap.size w0 w) (hB : w0.heap.size ≤ B) (hE : ∀ k, E k → w0.heap.size ≤ k) : Below w0.heap.size w0 w' :=
  ⟨h.os.trans hb.os, h.tape.trans hb.tape, h.output.trans hb.output, Nat.le_trans hb.size h.size, fun k hk => (h.block k (Nat.lt_of_lt_of_le hk hb.size) (fun he => by have := hE k he; omega) (.inl (by omega))).trans (hb.block k hk)⟩
theorem Fr.mono {B : Nat} {E E' : Nat → Prop} {w w' : World} (h : Fr B E w w') (he : ∀ k, k < w.heap.size → E k → E' k) : Fr B E' w w' := ⟨h.os, h.tape, h.output, h.size, fun k hk hn hr => h.block k hk (fun e => hn (he k hk e)) hr⟩

/-- block b is these cells, of type t -/
def CsT (w : World) (b : Nat) (cs : List Value) (t : TypeId) : Prop := w.heap[b]? = some (.cells cs.toArray t)
theorem CsT.new (w : World) (cs : List Value) (t : TypeId) : CsT (w.alloc (.cells cs.toArray t)) w.heap.size cs t := heap_alloc_new w _
theorem CsT.lt {w : World} {b : Nat} {cs : List Value} {t : TypeId} (h : CsT w b cs t) : b < w.heap.size := (Array.getElem?_eq_some_iff.1 h).1
theorem CsT.at_ {w : World} {b : Nat} {cs : List Value} {t : TypeId} (h : CsT w b cs t) : CsAt w b cs :=
  ⟨fun j u hj => by rw [cell_of_row _ _ j _ _ _ h]; simpa using hj, fun j => frozen_of_row _ _ j _ _ h, h.lt⟩
theorem CsT.below {w w' : World} {b : Nat} {cs : List Value} {t : TypeId} (h : CsT w b cs t) (hb : Below w.heap.size w w') : CsT w' b cs t := (hb.block b h.lt).trans h
theorem CsT.frame {B : Nat} {E : Nat → Prop} {w w' : World} {b : Nat} {cs : List Value} {t : TypeId} (h : CsT w b cs t) (hf : Fr B E w w') (he : ¬ E b) (ht : t ≠ 9) : CsT w' b cs t :=
  (hf.block b h.lt he (.inr ⟨fun cs' fr e => by rw [h] at e; injection e with e; injection e with _ e _; exact ht e, fun es c e => by rw [h] at e; injection e with e; cases e⟩)).trans h
end Go.Proofs.YtilholgbepfopaaDoor
/- Statements visited by a closure that calls itself. -/
namespace Go.Proofs.YtilholgbepfopaaDoor
open Go.RowKit

theorem call_enter {N : FuncId} {fn : Func} (hf : Tryd.prog.funcs[N]? = some fn) (hn : (fn.name == "runtime.NumGoroutine") = false) (hb : fn.body.isSome = true) (args : Array Value) (w : World) : (callFunc N args).run Tryd.prog w = .ok (.enter N args) w := by
  obtain ⟨c, hc⟩ := Option.isSome_iff_exists.1 hb
  have h1 : fn.name ≠ "runtime.NumGoroutine" := by simpa using hn
  simp [callFunc, hf, h1, hc]
def stV (s : St) (u x y : Value) : Value := .agg #[.int .i64 s.kind, .string s.name, .string s.fn, .int .i64 s.n, .int .i64 s.op, u, x, y]
section
variable {σ : Type} (N : FuncId) (caps : Array Value) (R : Nat → World → σ → Prop) (f : σ → St → Nat → σ) (B : Nat) (E : Nat → Prop) (w0 : World)
/-- what a statement does when it is seen -/
def SeeOK : Prop := ∀ (c d : Nat) (s : St) (u x y : Value) (st : σ) (w : World), c + s.sz < 10000000 → d ≤ 10000000 → R c w st → Below w0.heap.size w0 w → ExsAt w0 u s.exprs → StsAt w0 x s.body → StsAt w0 y s.els →
  Calls Tryd.prog N (#[stV s u x y, .int .i64 (d : Int)] ++ caps) w (fun e w' => e = .returned (.tuple #[]) ∧ R (c + 1) w' (f st s d) ∧ Fr B E w w')
mutual
/-- all statements, each before those in it -/
def vis (st : σ) (d : Nat) : St → σ
  | .mk k nm fn n op es b e => visL (visL (f st (.mk k nm fn n op es b e) d) (d + 1) b) (d + 1) e
def visL (st : σ) (d : Nat) : List St → σ
  | [] => st
  | s :: l => visL (vis st d s) d l
end
end
theorem vis_parts {σ : Type} (f : σ → St → Nat → σ) (st : σ) (d : Nat) (s : St) : vis f st d s = visL f (visL f (f st s d) (d + 1) s.body) (d + 1) s.els := by
  cases s
  rw [vis]
  rfl
theorem visL_snoc {σ : Type} (f : σ → St → Nat → σ) (st : σ) (d : Nat) (l : List St) (x : St) : visL f st d (l ++ [x]) = vis f (visL f st d l) d x := by
  induction l generalizing st with
  | nil => simp [visL]
  | cons y l ih => simp only [List.cons_append, visL]; exact ih _
theorem szS_snoc (l : List St) (x : St) : szS (l ++ [x]) = szS l + x.sz := by
  induction l with
  | nil => simp [szS]
  | cons y l ih => simp only [List.cons_append, szS, ih]; omega

set_option maxHeartbeats 4000000 in
set_option maxRecDepth 100000 in
theorem visit_ex {σ : Type} (N : FuncId) (caps : Array Value) (R : Nat → World → σ → Prop) (f : σ → St → Nat → σ) (B : Nat) (E : Nat → Prop) (w0 : World) (bs bw : Nat)
    (hN : ∀ args w, (callFunc N args).run Tryd.prog w = .ok (.enter N args) w) (hsee : SeeOK N caps R f B E w0) (hR : ∀ c c' w st w', R c w st → c ≤ c' → Below w.heap.size w w' → R c' w' st) (hB : w0.heap.size ≤ B) (hE : ∀ k, E k → w0.heap.size ≤ k ∧ k < B) (hbs : ¬ E bs) (hbw : ¬ E bw) (m : Nat) :
    ∀ (l : List St) (v : Value) (c d : Nat) (st : σ) (w : World), szS l < m → c + szS l < 10000000 → d + szS l ≤ 10000000 → StsAt w0 v l → Below w0.heap.size w0 w → R c w st → B ≤ w.heap.size →
      CsT w bs [.func (.func N) #[] caps] 70 → CsT w bw [.func (.func 65) #[] #[.pointer (some ⟨bs, 0, none⟩), .pointer (some ⟨bw, 0, none⟩)]] 98 →
      Calls Tryd.prog 65 #[v, .int .i64 (d : Int), .pointer (some ⟨bs, 0, none⟩), .pointer (some ⟨bw, 0, none⟩)] w (fun e w' => e = .returned (.tuple #[]) ∧ R (c + szS l) w' (visL f st d l) ∧ Fr B E w w') := by
  induction m with
  | zero => intro _ _ _ _ _ _ h; omega
  | succ m ih =>
    intro l v c d st w hsz hc hd hv hb0 hr hBw h1 h2
    obtain ⟨a, cp, rfl⟩ := hv.shape
    have H := Lib.hid hv
    have B0 := Lib.hid hb0
    have IH := Lib.hid ih
    have SEE := Lib.hid hsee
    have HR := Lib.hid hR
    have HSZ := Lib.hid hsz
    have HC := Lib.hid hc
    have HD := Lib.hid hd
    have R0 := Lib.hid hr
    have T1 := Lib.hid h1
    have T2 := Lib.hid h2
    have hl : l.length ≤ 10000000 := by have := szS_len l; omega
    have hdd : d ≤ 10000000 := by omega
    obtain ⟨n, hn⟩ : ∃ n, n = l.length := ⟨_, rfl⟩
    have HN := Lib.hid hn
    rw [← hn] at H hl ⊢
    clear ih hsz hv hb0 hsee hR hr h1 h2 hn hc hd
    go_enter Tryd.func65, Tryd.ntmps65
    go_wp2
    go_loopw [10] (fun k_ wr => ∃ (k : Nat), k ≤ n ∧ k_ = .int .i64 k ∧ R (c + szS (l.take k)) wr (visL f st d (l.take k)) ∧ Fr B E w wr) (fun k_ _ => n - (intOf k_).toNat)
    case atStart => exact ⟨0, Nat.zero_le _, rfl, by simpa [szS, visL] using R0.out, Fr.refl _ _ _⟩
    case round =>
      obtain ⟨k, hk, rfl, hrr, hfr⟩ := hrel
      have RR := Lib.hid hrr
      have FR := Lib.hid hfr
      clear hrr hfr
      by_cases hlt : k < n
      · obtain ⟨x, hx⟩ : ∃ x, l[k]? = some x := ⟨_, List.getElem?_eq_getElem (by rw [← HN.out]; exact hlt)⟩
        have hbr : Below w0.heap.size w0 wr := FR.out.low B0.out hB (fun k h => (hE k h).1)
        obtain ⟨b, o, c', u, xb, xe, hv, hbl, f0, f1, f2, f3, f4, f5, f6, f7, hu, hxb, hxe⟩ := H.out.elem hx
        obtain ⟨rfl, -, rfl⟩ := Value.slice.inj hv
        obtain ⟨ua, uc, rfl⟩ := hu.shape
        obtain ⟨ba, bc, rfl⟩ := hxb.shape
        obtain ⟨ea, ec, rfl⟩ := hxe.shape
        replace f0 := (hbr.cell (p := ⟨b, o + k * 8, none⟩) hbl).trans f0
        replace f1 := (hbr.cell (p := ⟨b, o + k * 8 + 1, none⟩) hbl).trans f1
        replace f2 := (hbr.cell (p := ⟨b, o + k * 8 + 2, none⟩) hbl).trans f2
        replace f3 := (hbr.cell (p := ⟨b, o + k * 8 + 3, none⟩) hbl).trans f3
        replace f4 := (hbr.cell (p := ⟨b, o + k * 8 + 4, none⟩) hbl).trans f4
        replace f5 := (hbr.cell (p := ⟨b, o + k * 8 + 5, none⟩) hbl).trans f5
        replace f6 := (hbr.cell (p := ⟨b, o + k * 8 + 6, none⟩) hbl).trans f6
        replace f7 := (hbr.cell (p := ⟨b, o + k * 8 + 7, none⟩) hbl).trans f7
        have BR := Lib.hid hbr
        have HU := Lib.hid hu
        have XB := Lib.hid hxb
        have XE := Lib.hid hxe
        have HTK := Lib.hid (take_snoc' hx)
        have hxs := szS_mem (List.mem_of_getElem? hx)
        have hxp := x.sz_parts
        have hxt := szS_take_add hx
        have HSM : Hid (szS x.body < m ∧ szS x.els < m) := Lib.hid (by have := HSZ.out; omega)
        have HCC : Hid (c + szS (l.take k) + 1 + szS x.body + szS x.els < 10000000) := Lib.hid (by have := HC.out; omega)
        have HCX : Hid (c + szS (l.take k) + x.sz < 10000000) := Lib.hid (by have := HC.out; omega)
        have HDD : Hid (d + 1 + szS x.body ≤ 10000000 ∧ d + 1 + szS x.els ≤ 10000000) := Lib.hid (by have := HD.out; omega)
        have hki : (k : Int) < (n : Int) := by omega
        have hBr : B ≤ wr.heap.size := Nat.le_trans hBw FR.out.size
        have Bz := Lib.hid (below1 wr (.cells (stC x (.slice ua x.exprs.length uc) (.slice ba x.body.length bc) (.slice ea x.els.length ec)).toArray 40))
        have S1 := Lib.hid ((T1.out.frame FR.out hbs (by decide)).below Bz.out)
        have S2 := Lib.hid ((T2.out.frame FR.out hbw (by decide)).below Bz.out)
        have T := Lib.hid (CsT.new wr (stC x (.slice ua x.exprs.length uc) (.slice ba x.body.length bc) (.slice ea x.els.length ec)) 40)
        have RZ := Lib.hid (HR.out _ _ _ _ _ RR.out (Nat.le_refl _) Bz.out)
        have s1 := S1.out.at_.cell 0 _ rfl
        have t0 := T.out.at_.cell 0 _ rfl
        have t1 := T.out.at_.cell 1 _ rfl
        have t2 := T.out.at_.cell 2 _ rfl
        have t3 := T.out.at_.cell 3 _ rfl
        have t4 := T.out.at_.cell 4 _ rfl
        have t5 := T.out.at_.cell 5 _ rfl
        have t6 := T.out.at_.cell 6 _ rfl
        have t7 := T.out.at_.cell 7 _ rfl
        unfold stC at t0 t1 t2 t3 t4 t5 t6 t7 s1 T Bz RZ S1 S2
        clear hx hv hu hxb hxe hbr hxs hxp hxt
        go_wp2_with fail
        generalize hwz : wr.alloc (.cells #[.int .i64 x.kind, .string x.name, .string x.fn, .int .i64 x.n, .int .i64 x.op, .slice ua x.exprs.length uc, .slice ba x.body.length bc, .slice ea x.els.length ec] 40) = wz at *
        clear hwz t0 t1 t2 t3 t4 t5 t6 t7 f0 f1 f2 f3 f4 f5 f6 f7 s1
        refine (SEE.out _ d x _ _ _ _ wz HCX.out hdd RZ.out (BR.out.then_' Bz.out) HU.out XB.out XE.out).mono ?_
        rintro e w1 ⟨rfl, hr1, hf1⟩
        have hne : ¬ E wr.heap.size := fun h => by have := (hE _ h).2; omega
        have R1 := Lib.hid hr1
        have FR1 := Lib.hid ((FR.out.below Bz.out).trans hf1)
        have T1' := Lib.hid (T.out.frame hf1 hne (by decide))
        have S1' := Lib.hid (S1.out.frame hf1 hbs (by decide))
        have S2' := Lib.hid (S2.out.frame hf1 hbw (by decide))
        have hb1 : Below w0.heap.size w0 w1 := FR1.out.low B0.out hB (fun k h => (hE k h).1)
        have BR1 := Lib.hid hb1
        have hB1 : B ≤ w1.heap.size := Nat.le_trans hBw FR1.out.size
        have t6 := T1'.out.at_.cell 6 _ rfl
        have s2 := S2'.out.at_.cell 0 _ rfl
        clear hr1 hf1 hb1 SEE
        go_wp2_with fail
        have e1 : ((d : Int) + 1) = ((d + 1 : Nat) : Int) := by omega
        rw [e1]
        refine (IH.out x.body _ _ (d + 1) _ w1 HSM.out.1 (by have := HCC.out; omega) HDD.out.1 XB.out BR1.out R1.out hB1 S1'.out S2'.out).mono ?_
        rintro e w2 ⟨rfl, hr2, hf2⟩
        have R2 := Lib.hid hr2
        have FR2 := Lib.hid (FR1.out.trans hf2)
        have T2' := Lib.hid (T1'.out.frame hf2 hne (by decide))
        have S1'' := Lib.hid (S1'.out.frame hf2 hbs (by decide))
        have S2'' := Lib.hid (S2'.out.frame hf2 hbw (by decide))
        have hb2 : Below w0.heap.size w0 w2 := FR2.out.low B0.out hB (fun k h => (hE k h).1)
        have BR2 := Lib.hid hb2
        have hB2 : B ≤ w2.heap.size := Nat.le_trans hBw FR2.out.size
        have t7 := T2'.out.at_.cell 7 _ rfl
        have s3 := S2''.out.at_.cell 0 _ rfl
        clear hr2 hf2 hb2 t6 s2 e1
        go_wp2_with fail
        have e1 : ((d : Int) + 1) = ((d + 1 : Nat) : Int) := by omega
        rw [e1]
        refine (IH.out x.els _ _ (d + 1) _ w2 HSM.out.2 (by have := HCC.out; omega) HDD.out.2 XE.out BR2.out R2.out hB2 S1''.out S2''.out).mono ?_
        rintro e w3 ⟨rfl, hr3, hf3⟩
        have R3 := Lib.hid hr3
        have FR3 := Lib.hid (FR2.out.trans hf3)
        have e2 : c + szS (l.take k) + 1 + szS x.body + szS x.els ≤ c + szS (l.take (k + 1)) := by
          rw [HTK.out, szS_snoc]
          have := x.sz_parts
          omega
        have R4 := Lib.hid (HR.out _ _ _ _ _ R3.out e2 (Below.refl _ _))
        clear hr3 hf3 t7 s3 e1 e2
        go_wp2_with fail
        go_roundw
        case rel => exact ⟨k + 1, by omega, by go_num, by rw [HTK.out, visL_snoc, vis_parts, ← HTK.out]; exact R4.out, FR3.out⟩
        case measure => simp [intOf]; omega
      · obtain rfl : k = n := by omega
        have e1 : l.take k = l := List.take_of_length_le (Nat.le_of_eq HN.out.symm)
        rw [e1] at RR
        go_wp2
        go_end0
        exact ⟨rfl, RR.out, FR.out⟩

set_option maxHeartbeats 4000000 in
set_option maxRecDepth 100000 in
theorem visit_any {σ : Type} (N : FuncId) (caps : Array Value) (R : Nat → World → σ → Prop) (f : σ → St → Nat → σ) (B : Nat) (E : Nat → Prop) (w0 : World)
    (hN : ∀ args w, (callFunc N args).run Tryd.prog w = .ok (.enter N args) w) (hsee : SeeOK N caps R f B E w0) (hR : ∀ c c' w st w', R c w st → c ≤ c' → Below w.heap.size w w' → R c' w' st) (hB : w0.heap.size ≤ B) (hE : ∀ k, E k → w0.heap.size ≤ k ∧ k < B)
    (l : List St) (v : Value) (c : Nat) (st : σ) (w : World) (hc : c + szS l < 10000000) (hd : 1 + szS l ≤ 10000000) (hv : StsAt w0 v l) (hb0 : Below w0.heap.size w0 w) (hr : R c w st) (hBw : B ≤ w.heap.size) :
      Calls Tryd.prog 38 #[v, .func (.func N) #[] caps] w (fun e w' => e = .returned (.tuple #[]) ∧ R (c + szS l) w' (visL f st 1 l) ∧ Fr B E w w') := by
  obtain ⟨a, cp, rfl⟩ := hv.shape
  have H := Lib.hid hv
  have B0 := Lib.hid hb0
  have R0 := Lib.hid hr
  go_enter Tryd.func38, Tryd.ntmps38
  go_wp2_with fail
  have b1 := below1 w (.cells #[.func (.func N) #[] caps] 70)
  have b2 := b1.then_' (below1 _ (.cells #[.func (.func 65) #[] #[.pointer (some ⟨w.heap.size, 0, none⟩), .pointer (some ⟨w.heap.size + 1, 0, none⟩)]] 98))
  have c1 := (CsT.new w [.func (.func N) #[] caps] 70).below (below1 _ (.cells #[.func (.func 65) #[] #[.pointer (some ⟨w.heap.size, 0, none⟩), .pointer (some ⟨w.heap.size + 1, 0, none⟩)]] 98))
  have c2 := CsT.new (w.alloc (.cells #[.func (.func N) #[] caps] 70)) [.func (.func 65) #[] #[.pointer (some ⟨w.heap.size, 0, none⟩), .pointer (some ⟨w.heap.size + 1, 0, none⟩)]] 98
  rw [show (w.alloc (.cells #[.func (.func N) #[] caps] 70)).heap.size = w.heap.size + 1 from by simp] at c2
  refine (visit_ex N caps R f B E w0 w.heap.size (w.heap.size + 1) hN hsee hR hB hE (fun h => by have := (hE _ h).2; omega) (fun h => by have := (hE _ h).2; omega) (szS l + 1) l _ c 1 st _ (Nat.lt_succ_self _) hc hd H.out (B0.out.then_' b2) (hR _ _ _ _ _ R0.out (Nat.le_refl _) b2) (Nat.le_trans hBw b2.size) c1 c2).mono ?_
  rintro e w2 ⟨rfl, hr2, hf2⟩
  have R2 := Lib.hid hr2
  have F2 := Lib.hid ((Fr.of_below b2).trans hf2)
  clear b1 b2 c1 c2 hr2 hf2
  go_wp2
  go_end0
  exact ⟨rfl, R2.out, F2.out⟩
end Go.Proofs.YtilholgbepfopaaDoor
/- Maps from integers to integers: what a block holds, a look-up, a store. -/
namespace Go.Proofs.YtilholgbepfopaaDoor
open Go.RowKit Go.MapKept

def mlook (E : List (Int × Int)) (k : Int) : Option Int := match E with
  | [] => none
  | y :: E => if y.1 = k then some y.2 else mlook E k
def mput (E : List (Int × Int)) (k x : Int) : List (Int × Int) := match E with
  | [] => [(k, x)]
  | y :: E => if y.1 = k then (k, x) :: E else y :: mput E k x
theorem mlook_put (E : List (Int × Int)) (k x j : Int) : mlook (mput E k x) j = if k = j then some x else mlook E j := by
  induction E with
  | nil => rfl
  | cons y E ih =>
    unfold mput
    by_cases h : y.1 = k
    · rw [if_pos h]
      unfold mlook
      by_cases hj : k = j
      · rw [if_pos hj, if_pos hj]
      · rw [if_neg hj, if_neg hj, if_neg (by rw [h]; exact hj)]
    · rw [if_neg h]
      unfold mlook
      rw [ih]
      by_cases hj : k = j
      · subst hj; rw [if_pos rfl, if_neg h, if_pos rfl]
      · rw [if_neg hj, if_neg hj]
theorem mput_len (E : List (Int × Int)) (k x : Int) : (mput E k x).length ≤ E.length + 1 := by
  induction E with
  | nil => simp [mput]
  | cons y E ih =>
    unfold mput
    split
    · simp
    · simp; exact ih

def ment (x : Int × Int) : Value × Value := (.int .i64 x.1, .int .i64 x.2)
def eraw (e : MapEntry) : Value × Value := (e.key, e.val)
/-- block b is a map that reads as E -/
def MapAt (w : World) (b : Nat) (E : List (Int × Int)) : Prop := ∃ es c, w.heap[b]? = some (.map es c) ∧ es.toList.map eraw = E.map ment
theorem MapAt.new (w : World) : MapAt (w.alloc (.map #[] 0)) w.heap.size [] := ⟨#[], 0, (MapKept.heap_alloc w _).1, rfl⟩
theorem MapAt.lt {w : World} {b : Nat} {E : List (Int × Int)} (h : MapAt w b E) : b < w.heap.size := by
  obtain ⟨es, c, hb, _⟩ := h
  exact (Array.getElem?_eq_some_iff.1 hb).1
theorem MapAt.kept {w w' : World} {b : Nat} {E : List (Int × Int)} {row : Option Nat} (h : MapAt w b E) (hg : w.grownBy w' row) (hne : some b ≠ row) : MapAt w' b E := by
  have hl := h.lt
  obtain ⟨es, c, hb, e⟩ := h
  exact ⟨es, c, (hg.block b hl hne).trans hb, e⟩
theorem MapAt.below {w w' : World} {b : Nat} {E : List (Int × Int)} (h : MapAt w b E) (hb : Below w.heap.size w w') : MapAt w' b E := by
  have hl := h.lt
  obtain ⟨es, c, hh, e⟩ := h
  exact ⟨es, c, (hb.block b hl).trans hh, e⟩
theorem MapAt.set {w : World} {b : Nat} {E : List (Int × Int)} (h : MapAt w b E) {p : Addr} (hp : p.block ≠ b) (u : Value) : MapAt (w.setCell p u) b E := by
  obtain ⟨es, c, hh, e⟩ := h
  exact ⟨es, c, (Below.heap_setCell w p u b (fun e => hp e.symm)).trans hh, e⟩
theorem MapAt.no_row {w : World} {b : Nat} {E : List (Int × Int)} (h : MapAt w b E) {p : Addr} {u : Value} (hc : w.cell? p = some u) : p.block ≠ b := by
  rintro rfl
  obtain ⟨es, c, hh, _⟩ := h
  unfold World.cell? at hc
  rw [hh] at hc
  cases hc

theorem find_m (k : Int) (es : List MapEntry) (E : List (Int × Int)) (i : Nat) (h : es.map eraw = E.map ment) :
    (mlook E k = none ∧ Instr.findNow (.int .i64) (.int .i64 k) es i = some none ∧ ∀ x, (es.map eraw ++ [ment (k, x)]) = (mput E k x).map ment) ∨
    ∃ m x e, mlook E k = some x ∧ Instr.findNow (.int .i64) (.int .i64 k) es i = some (some (i + m, .int .i64 x)) ∧ es[m]? = some e ∧ e.key = .int .i64 k ∧
      ∀ (y : Int) (f : MapEntry → MapEntry), (∀ e, eraw (f e) = ment (k, y)) → (es.modify m f).map eraw = (mput E k y).map ment := by
  induction es generalizing E i with
  | nil =>
    cases E with
    | nil => exact .inl ⟨rfl, rfl, fun x => rfl⟩
    | cons _ _ => simp at h
  | cons e es ih =>
    cases E with
    | nil => simp at h
    | cons y E =>
      simp only [List.map_cons, List.cons.injEq] at h
      obtain ⟨he, ht⟩ := h
      have hk : e.key = .int .i64 y.1 := congrArg Prod.fst he
      have hv : e.val = .int .i64 y.2 := congrArg Prod.snd he
      by_cases hy : y.1 = k
      · right
        have hs : Instr.sameNow (.int .i64) (.int .i64 k) e.key = some true := by rw [hk, hy]; simp [Instr.sameNow]
        refine ⟨0, y.2, e, by unfold mlook; rw [if_pos hy], ?_, rfl, by rw [hk, hy], fun z f hf => ?_⟩
        · unfold Instr.findNow
          rw [hs, hv]
          rfl
        · unfold mput
          rw [if_pos hy]
          simp [List.modify, hf, ht]
      · have hs : Instr.sameNow (.int .i64) (.int .i64 k) e.key = some false := by rw [hk]; simp [Instr.sameNow]; exact fun e => hy e.symm
        have hL : mlook (y :: E) k = mlook E k := by conv => lhs; unfold mlook
                                                     rw [if_neg hy]
        have hP : ∀ x, mput (y :: E) k x = y :: mput E k x := fun x => by conv => lhs; unfold mput
                                                                          rw [if_neg hy]
        rcases ih E (i + 1) ht with ⟨h1, h2, h3⟩ | ⟨m, x, e', h1, h2, h3, h4, h5⟩
        · refine .inl ⟨by rw [hL, h1], ?_, fun x => ?_⟩
          · unfold Instr.findNow
            rw [hs]
            exact h2
          · rw [hP, List.map_cons, List.map_cons, List.cons_append, h3, he]
        · refine .inr ⟨m + 1, x, e', by rw [hL, h1], ?_, h3, h4, fun z f hf => ?_⟩
          · unfold Instr.findNow
            rw [hs]
            simp only [h2]
            congr 3
            omega
          · rw [hP, List.modify_succ_cons, List.map_cons, List.map_cons, h5 z f hf, he]

section
variable {P : Program} {T K E' : TypeId} {w : World} {b : Nat} {E : List (Int × Int)}
theorem MapAt.look (ht : P.underlying T = some (.map K E')) (hk : P.underlying K = some (.int .i64)) (hz : (zeroValue E').run P w = .ok (.int .i64 0) w) (h : MapAt w b E) (k : Int) :
    (Instr.lookup T (.map (some b)) (.int .i64 k) false).run P w = .ok (.int .i64 ((mlook E k).getD 0)) w := by
  obtain ⟨es, c, hb, he⟩ := h
  have hKey : IsKey (.int .i64) (.int .i64 k) := by simp [IsKey]
  rcases find_m k es.toList E 0 he with ⟨h1, h2, _⟩ | ⟨m, x, e, h1, h2, _, _, _⟩
  · simp [Instr.lookup, run_underlying ht, MapKept.run_getObj_map hb, run_checkKey hk hKey, run_findKey hk h2, hz, Result.andThen, h1]
  · simp [Instr.lookup, run_underlying ht, MapKept.run_getObj_map hb, run_checkKey hk hKey, run_findKey hk h2, Result.andThen, h1]
theorem MapAt.look_ok (ht : P.underlying T = some (.map K E')) (hk : P.underlying K = some (.int .i64)) (hz : (zeroValue E').run P w = .ok (.int .i64 0) w) (h : MapAt w b E) (k : Int) :
    (Instr.lookup T (.map (some b)) (.int .i64 k) true).run P w = .ok (.tuple #[.int .i64 ((mlook E k).getD 0), .bool (mlook E k).isSome]) w := by
  obtain ⟨es, c, hb, he⟩ := h
  have hKey : IsKey (.int .i64) (.int .i64 k) := by simp [IsKey]
  rcases find_m k es.toList E 0 he with ⟨h1, h2, _⟩ | ⟨m, x, e, h1, h2, _, _, _⟩
  · simp [Instr.lookup, run_underlying ht, MapKept.run_getObj_map hb, run_checkKey hk hKey, run_findKey hk h2, hz, Result.andThen, h1]
  · simp [Instr.lookup, run_underlying ht, MapKept.run_getObj_map hb, run_checkKey hk hKey, run_findKey hk h2, Result.andThen, h1]
theorem MapAt.put (ht : P.underlying T = some (.map K E')) (hk : P.underlying K = some (.int .i64)) (h : MapAt w b E) (k x : Int) :
    ∃ w', (Instr.mapUpdate T (.map (some b)) (.int .i64 k) (.int .i64 x)).run P w = .ok () w' ∧ MapAt w' b (mput E k x) ∧ w.grownBy w' (some b) := by
  have hl := h.lt
  obtain ⟨es, c, hb, he⟩ := h
  have hKey : IsKey (.int .i64) (.int .i64 k) := by simp [IsKey]
  rcases find_m k es.toList E 0 he with ⟨h1, h2, h3⟩ | ⟨m, y, e, h1, h2, h3, h4, h5⟩
  · refine ⟨ChangeMaps.setBlock w b (.map (es.push ⟨.int .i64 k, .int .i64 x, c⟩) (c + 1)), ?_, ?_, ?_⟩
    · simp [Instr.mapUpdate, run_underlying ht, MapKept.run_getObj_map hb, run_checkKey hk hKey, run_findKey hk h2, MapKept.run_setObj_map _ hb, Result.andThen]
      rfl
    · refine ⟨_, _, ChangeMaps.heap_setBlock_same hb _, ?_⟩
      rw [← h3 x]
      simp [eraw, ment]
    · exact ⟨rfl, rfl, rfl, by simp [ChangeMaps.setBlock], fun i _ hi => ChangeMaps.heap_setBlock_other hb _ (fun e => hi (by rw [e]))⟩
  · refine ⟨ChangeMaps.setBlock w b (.map (es.modify (0 + m) fun e => { e with key := .int .i64 k, val := .int .i64 x }) c), ?_, ?_, ?_⟩
    · have h6 : ((es[0 + m]?).map (·.key)).getD (Value.int .i64 k) = .int .i64 k := by
        rw [Array.getElem?_toList] at h3
        rw [Nat.zero_add, h3]
        exact h4
      simp only [Nat.zero_add] at h6
      simp [Instr.mapUpdate, run_underlying ht, MapKept.run_getObj_map hb, run_checkKey hk hKey, run_findKey hk h2, h6, MapKept.run_setObj_map _ hb, MapKept.run_keyThatStays hKey, Result.andThen]
      rfl
    · refine ⟨_, _, ChangeMaps.heap_setBlock_same hb _, ?_⟩
      rw [Array.toList_modify, Nat.zero_add]
      exact h5 x _ (fun _ => rfl)
    · exact ⟨rfl, rfl, rfl, by simp [ChangeMaps.setBlock], fun i _ hi => ChangeMaps.heap_setBlock_other hb _ (fun e => hi (by rw [e]))⟩
end
end Go.Proofs.YtilholgbepfopaaDoor
/- Sets of strings as maps from strings to true: what a block holds, a look-up, a store. -/
namespace Go.Proofs.YtilholgbepfopaaDoor
open Go.RowKit Go.MapKept

def sent (s : ByteArray) : Value × Value := (.string s, .bool true)
/-- block b is a map that has the strings l, in their order -/
def SetAt (w : World) (b : Nat) (l : List ByteArray) : Prop := ∃ es c, w.heap[b]? = some (.map es c) ∧ es.toList.map eraw = l.map sent
theorem SetAt.new (w : World) : SetAt (w.alloc (.map #[] 0)) w.heap.size [] := ⟨#[], 0, (MapKept.heap_alloc w _).1, rfl⟩
theorem SetAt.lt {w : World} {b : Nat} {l : List ByteArray} (h : SetAt w b l) : b < w.heap.size := by
  obtain ⟨es, c, hb, _⟩ := h
  exact (Array.getElem?_eq_some_iff.1 hb).1
theorem SetAt.kept {w w' : World} {b : Nat} {l : List ByteArray} (h : SetAt w b l) (hh : w'.heap[b]? = w.heap[b]?) : SetAt w' b l := by
  obtain ⟨es, c, hb, e⟩ := h
  exact ⟨es, c, hh.trans hb, e⟩
theorem SetAt.below {w w' : World} {b : Nat} {l : List ByteArray} (h : SetAt w b l) (hb : Below w.heap.size w w') : SetAt w' b l := h.kept (hb.block b h.lt)
theorem SetAt.no_row {w : World} {b : Nat} {l : List ByteArray} (h : SetAt w b l) {cs : Array Value} {t : TypeId} {fr : Nat × Nat} : w.heap[b]? ≠ some (.cells cs t fr) := by
  obtain ⟨es, c, hh, _⟩ := h
  rw [hh]
  intro e
  cases e
theorem find_s (s : ByteArray) (es : List MapEntry) (l : List ByteArray) (i : Nat) (h : es.map eraw = l.map sent) :
    (s ∉ l ∧ Instr.findNow .string (.string s) es i = some none) ∨ (s ∈ l ∧ ∃ m, Instr.findNow .string (.string s) es i = some (some (i + m, .bool true))) := by
  induction es generalizing l i with
  | nil =>
    cases l with
    | nil => exact .inl ⟨by simp, rfl⟩
    | cons _ _ => simp at h
  | cons e es ih =>
    cases l with
    | nil => simp at h
    | cons y l =>
      simp only [List.map_cons, List.cons.injEq] at h
      obtain ⟨he, ht⟩ := h
      have hk : e.key = .string y := congrArg Prod.fst he
      have hv : e.val = .bool true := congrArg Prod.snd he
      by_cases hy : y = s
      · right
        have hs : Instr.sameNow .string (.string s) e.key = some true := by rw [hk, hy]; simp [Instr.sameNow, beq_toListBytes]
        refine ⟨by simp [hy], 0, ?_⟩
        unfold Instr.findNow
        rw [hs, hv]
        rfl
      · have hs : Instr.sameNow .string (.string s) e.key = some false := by rw [hk]; simp only [Instr.sameNow, beq_toListBytes]; exact congrArg some (tstr_ne (fun e => hy e.symm))
        rcases ih l (i + 1) ht with ⟨h1, h2⟩ | ⟨h1, m, h2⟩
        · refine .inl ⟨by simp [h1, Ne.symm hy], ?_⟩
          unfold Instr.findNow
          rw [hs]
          exact h2
        · refine .inr ⟨by simp [h1], m + 1, ?_⟩
          unfold Instr.findNow
          rw [hs]
          simp only [h2]
          congr 3
          omega
section
variable {P : Program} {T K E' : TypeId} {w : World} {b : Nat} {l : List ByteArray}
theorem SetAt.look_no (ht : P.underlying T = some (.map K E')) (hk : P.underlying K = some .string) (hz : (zeroValue E').run P w = .ok (.bool false) w) (h : SetAt w b l) {s : ByteArray} (hs : s ∉ l) :
    (Instr.lookup T (.map (some b)) (.string s) false).run P w = .ok (.bool false) w := by
  obtain ⟨es, c, hb, he⟩ := h
  have hKey : IsKey .string (.string s) := by simp [IsKey]
  rcases find_s s es.toList l 0 he with ⟨h1, h2⟩ | ⟨h1, m, h2⟩
  · simp [Instr.lookup, run_underlying ht, MapKept.run_getObj_map hb, run_checkKey hk hKey, run_findKey hk h2, hz, Result.andThen]
  · exact absurd h1 hs
theorem SetAt.look_yes (ht : P.underlying T = some (.map K E')) (hk : P.underlying K = some .string) (h : SetAt w b l) {s : ByteArray} (hs : s ∈ l) :
    (Instr.lookup T (.map (some b)) (.string s) false).run P w = .ok (.bool true) w := by
  obtain ⟨es, c, hb, he⟩ := h
  have hKey : IsKey .string (.string s) := by simp [IsKey]
  rcases find_s s es.toList l 0 he with ⟨h1, h2⟩ | ⟨h1, m, h2⟩
  · exact absurd hs h1
  · simp [Instr.lookup, run_underlying ht, MapKept.run_getObj_map hb, run_checkKey hk hKey, run_findKey hk h2, Result.andThen]
theorem SetAt.put (ht : P.underlying T = some (.map K E')) (hk : P.underlying K = some .string) (h : SetAt w b l) (s : ByteArray) (hs : s ∉ l) :
    ∃ w', (Instr.mapUpdate T (.map (some b)) (.string s) (.bool true)).run P w = .ok () w' ∧ SetAt w' b (l ++ [s]) ∧ w.grownBy w' (some b) := by
  obtain ⟨es, c, hb, he⟩ := h
  have hKey : IsKey .string (.string s) := by simp [IsKey]
  rcases find_s s es.toList l 0 he with ⟨h1, h2⟩ | ⟨h1, m, h2⟩
  · refine ⟨ChangeMaps.setBlock w b (.map (es.push ⟨.string s, .bool true, c⟩) (c + 1)), ?_, ?_, ?_⟩
    · simp [Instr.mapUpdate, run_underlying ht, MapKept.run_getObj_map hb, run_checkKey hk hKey, run_findKey hk h2, MapKept.run_setObj_map _ hb, Result.andThen]
      rfl
    · refine ⟨_, _, ChangeMaps.heap_setBlock_same hb _, ?_⟩
      rw [Array.toList_push, List.map_append, he, List.map_append]
      rfl
    · exact ⟨rfl, rfl, rfl, by simp [ChangeMaps.setBlock], fun i _ hi => ChangeMaps.heap_setBlock_other hb _ (fun e => hi (by rw [e]))⟩
  · exact absurd h1 hs
end
end Go.Proofs.YtilholgbepfopaaDoor
/- names.add: a list in which each name stands once, and the set of them. -/
namespace Go.Proofs.YtilholgbepfopaaDoor
open Go.RowKit

/-- block nb is the list l with its set -/
structure NSt (w : World) (B0 nb : Nat) (a : Option Addr) (n c : Nat) (mp : Option Nat) (l : List ByteArray) : Prop where
  cs : CsT w nb [.slice a n c, .map mp] 63
  own : NmsOwn w B0 (.slice a n c) l
  map : (mp = none ∧ l = []) ∨ ∃ b, mp = some b ∧ B0 ≤ b ∧ SetAt w b l
  lo : B0 ≤ nb
theorem NSt.len {w : World} {B0 nb n c : Nat} {a : Option Addr} {mp : Option Nat} {l : List ByteArray} (h : NSt w B0 nb a n c mp l) : n = l.length := by
  obtain ⟨a', c', e⟩ := h.own.at_.shape
  exact (Value.slice.inj e).2.1
theorem NSt.below {w w' : World} {B0 nb n c : Nat} {a : Option Addr} {mp : Option Nat} {l : List ByteArray} (h : NSt w B0 nb a n c mp l) (hb : Below w.heap.size w w') : NSt w' B0 nb a n c mp l :=
  ⟨h.cs.below hb, h.own.below hb, h.map.imp id (fun ⟨b, h1, h2, h3⟩ => ⟨b, h1, h2, h3.below hb⟩), h.lo⟩
/-- the row's block is a row of strings -/
theorem own_cells {w : World} {B : Nat} {v : Value} {l : List ByteArray} (h : NmsOwn w B v l) {g : Nat} (hg : v.ownBlock = some g) : ∃ cs fr, w.heap[g]? = some (.cells cs 9 fr) := by
  obtain ⟨_, h2⟩ := h
  rcases h2 with ⟨rfl, _⟩ | ⟨g', cap, cur, rfl, _, hgg, _⟩
  · cases hg
  · simp only [Value.ownBlock] at hg
    obtain rfl := Option.some.inj hg
    exact ⟨_, _, hgg⟩
structure GrN (nb : Nat) (mp row : Option Nat) (w w' : World) (mp' row' : Option Nat) : Prop where
  os : w'.os = w.os
  tape : w'.tape = w.tape
  output : w'.output = w.output
  size : w.heap.size ≤ w'.heap.size
  block : ∀ k, k < w.heap.size → k ≠ nb → mp ≠ some k → row ≠ some k → w'.heap[k]? = w.heap[k]?
  mp_ : mp' = mp ∨ ∃ g, mp' = some g ∧ w.heap.size ≤ g
  row_ : row' = row ∨ ∃ g, row' = some g ∧ w.heap.size ≤ g
theorem GrN.refl (nb : Nat) (mp row : Option Nat) (w : World) : GrN nb mp row w w mp row := ⟨rfl, rfl, rfl, Nat.le_refl _, fun _ _ _ _ _ => rfl, .inl rfl, .inl rfl⟩
theorem GrN.trans {nb : Nat} {mp row mp1 row1 mp2 row2 : Option Nat} {w w1 w2 : World} (h : GrN nb mp row w w1 mp1 row1) (h2 : GrN nb mp1 row1 w1 w2 mp2 row2) : GrN nb mp row w w2 mp2 row2 := by
  refine ⟨h2.os.trans h.os, h2.tape.trans h.tape, h2.output.trans h.output, Nat.le_trans h.size h2.size, fun k hk h3 h4 h5 => ?_, ?_, ?_⟩
  · refine (h2.block k (Nat.lt_of_lt_of_le hk h.size) h3 ?_ ?_).trans (h.block k hk h3 h4 h5)
    · rcases h.mp_ with e | ⟨g, e, hg⟩
      · rw [e]; exact h4
      · rw [e]; intro e2; have := Option.some.inj e2; omega
    · rcases h.row_ with e | ⟨g, e, hg⟩
      · rw [e]; exact h5
      · rw [e]; intro e2; have := Option.some.inj e2; omega
  · rcases h2.mp_ with e | ⟨g, e, hg⟩
    · rw [e]; exact h.mp_
    · exact .inr ⟨g, e, Nat.le_trans h.size hg⟩
  · rcases h2.row_ with e | ⟨g, e, hg⟩
    · rw [e]; exact h.row_
    · exact .inr ⟨g, e, Nat.le_trans h.size hg⟩
theorem GrN.of_below {nb : Nat} {mp row : Option Nat} {w w' : World} (h : Below w.heap.size w w') : GrN nb mp row w w' mp row := ⟨h.os, h.tape, h.output, h.size, fun k hk _ _ _ => h.block k hk, .inl rfl, .inl rfl⟩
theorem GrN.below {nb : Nat} {mp row mp' row' : Option Nat} {w w1 w2 : World} (h : GrN nb mp row w w1 mp' row') (hb : Below w1.heap.size w1 w2) : GrN nb mp row w w2 mp' row' := h.trans (.of_below hb)
theorem NSt.fr {w w' : World} {B0 nb n c B : Nat} {a : Option Addr} {mp mp' row' : Option Nat} {l : List ByteArray} (h : NSt w B0 nb a n c mp l) (hB : nb < B) (hg : GrN nb mp (Value.slice a n c).ownBlock w w' mp' row') : Fr B (fun k => B0 ≤ k ∧ k < B) w w' := by
  refine ⟨hg.os, hg.tape, hg.output, hg.size, fun k hk he hs => hg.block k hk (fun e => he ⟨e ▸ h.lo, e ▸ hB⟩) (fun e => ?_) (fun e => ?_)⟩
  · rcases h.map with ⟨h1, _⟩ | ⟨b, h1, h2, h3⟩
    · rw [h1] at e; cases e
    · rw [h1] at e
      obtain rfl := Option.some.inj e
      rcases hs with hs | hs
      · exact he ⟨h2, hs⟩
      · obtain ⟨es, q, h4, _⟩ := h3
        exact hs.2 _ _ h4
  · have h1 := (World.ownsRow.lt h.own k e).1
    rcases hs with hs | hs
    · exact he ⟨h1, hs⟩
    · obtain ⟨cs, fr, h2⟩ := own_cells h.own e
      exact hs.1 _ _ h2
theorem CsT.set0 {w : World} {b : Nat} {u v : Value} {cs : List Value} {t : TypeId} (h : CsT w b (u :: cs) t) : CsT (w.setCell ⟨b, 0, none⟩ v) b (v :: cs) t := by
  unfold CsT World.setCell at *
  simp [Array.getElem?_modify, h]
theorem CsT.set1 {w : World} {b : Nat} {u u1 v : Value} {cs : List Value} {t : TypeId} (h : CsT w b (u :: u1 :: cs) t) : CsT (w.setCell ⟨b, 1, none⟩ v) b (u :: v :: cs) t := by
  unfold CsT World.setCell at *
  simp [Array.getElem?_modify, h]
theorem own_ne {w : World} {B b : Nat} {v : Value} {l : List ByteArray} (h : NmsOwn w B v l) {cs : List Value} {t : TypeId} (hc : CsT w b cs t) (ht : t ≠ 9) : v.ownBlock ≠ some b := fun e => by
  obtain ⟨cs', fr, h2⟩ := own_cells h e
  unfold CsT at hc
  rw [hc] at h2
  injection h2 with h2
  injection h2 with _ h2 _
  exact ht h2
theorem own_ne_map {w : World} {B b : Nat} {v : Value} {l m : List ByteArray} (h : NmsOwn w B v l) (hc : SetAt w b m) : v.ownBlock ≠ some b := fun e => by
  obtain ⟨cs', fr, h2⟩ := own_cells h e
  exact hc.no_row h2
theorem NmsOwn.kept {w w' : World} {B : Nat} {v : Value} {l : List ByteArray} (h : NmsOwn w B v l) {r : Option Nat} (hg : w.grownBy w' r) (hr : ∀ b, r = some b → v.ownBlock ≠ some b) : NmsOwn w' B v l :=
  World.ownsRow.kept h hg (by
    cases e : v.ownBlock with
    | none => exact .inl rfl
    | some g => exact .inr (fun e2 => hr g e2.symm e))
theorem NSt.added {w w5 w7 : World} {B0 nb n c b : Nat} {a : Option Addr} {l : List ByteArray} {s : ByteArray} {a7 : Option Addr} {n7 c7 : Nat} (h : NSt w B0 nb a n c (some b) l) (hm : SetAt w5 b (l ++ [s])) (hg : w.grownBy w5 (some b))
    (ho : NmsOwn w7 B0 (.slice a7 n7 c7) (l ++ [s])) (hg7 : (w5.alloc (.cells #[.string s] 9)).grownBy w7 (Value.slice a n c).ownBlock) (hat : (Value.slice a7 n7 c7).ownBlock = (Value.slice a n c).ownBlock ∨ (Value.slice a7 n7 c7).ownBlock = some (w5.alloc (.cells #[.string s] 9)).heap.size) :
    NSt (w7.setCell ⟨nb, 0, none⟩ (.slice a7 n7 c7)) B0 nb a7 n7 c7 (some b) (l ++ [s]) ∧ GrN nb (some b) (Value.slice a n c).ownBlock w (w7.setCell ⟨nb, 0, none⟩ (.slice a7 n7 c7)) (some b) (Value.slice a7 n7 c7).ownBlock := by
  obtain ⟨b', hb1, hb2, hb3⟩ : ∃ b', some b = some b' ∧ B0 ≤ b' ∧ SetAt w b' l := by
    rcases h.map with ⟨h1, _⟩ | h1
    · cases h1
    · exact h1
  obtain rfl := Option.some.inj hb1
  have hnb : nb ≠ b := fun e => by
    have := h.cs
    unfold CsT at this
    rw [e] at this
    exact hb3.no_row this
  have hrow := own_ne h.own h.cs (by decide)
  have hrb := own_ne_map h.own hb3
  have c5 : CsT w5 nb [.slice a n c, .map (some b)] 63 := (hg.block nb h.cs.lt (fun e => hnb (Option.some.inj e))).trans h.cs
  have c6 := c5.below (below1 w5 (.cells #[.string s] 9))
  have c7' : CsT w7 nb [.slice a n c, .map (some b)] 63 := (hg7.block nb c6.lt (fun e => hrow e.symm)).trans c6
  have m6 := hm.below (below1 w5 (.cells #[.string s] 9))
  have m7 : SetAt w7 b (l ++ [s]) := m6.kept (hg7.block b m6.lt (fun e => hrb e.symm))
  have hne : (Value.slice a7 n7 c7).ownBlock ≠ some nb := own_ne ho c7' (by decide)
  refine ⟨⟨c7'.set0, ?_, .inr ⟨b, rfl, hb2, m7.kept (Below.heap_setCell w7 _ _ b (fun e => hnb e.symm))⟩, h.lo⟩, hg7.os.trans (hg.os), hg7.tape.trans hg.tape, hg7.output.trans hg.output, ?_, ?_, .inl rfl, ?_⟩
  · refine NmsOwn.kept (w := w7) (r := some nb) ho ⟨rfl, rfl, rfl, by simp [World.setCell], fun k _ hk => Below.heap_setCell w7 _ _ k (fun e => hk (by rw [e]))⟩ (fun b' e => by rw [← Option.some.inj e]; exact hne)
  · have := hg.size; have := hg7.size; simp [World.setCell] at *; omega
  · intro k hk h1 h2 h3
    refine (Below.heap_setCell w7 _ _ k h1).trans ?_
    have hk5 : k < w5.heap.size := Nat.lt_of_lt_of_le hk hg.size
    refine (hg7.block k (by simp; omega) (fun e => h3 e.symm)).trans ?_
    refine ((below1 w5 _).block k hk5).trans (hg.block k hk (fun e => h2 e.symm))
  · rcases hat with e | e
    · exact .inl e
    · exact .inr ⟨_, e, by have := hg.size; simp; omega⟩
end Go.Proofs.YtilholgbepfopaaDoor
/- Reads (of the reference). -/
namespace Go.Proofs.YtilholgbepfopaaDoor
open Go.RowKit

mutual
/-- the names that an expression reads -/
def readsE : Ex → List ByteArray
  | .mk k _ nm _ l => readsL (if k = 3 then [nm] else []) l
def readsL (out : List ByteArray) : List Ex → List ByteArray
  | [] => out
  | e :: l => readsL (addAll out (readsE e)) l
end
theorem readsE_parts (e : Ex) : readsE e = readsL (if e.kind = 3 then [e.name] else []) e.l := by
  cases e
  rw [readsE]
  rfl
theorem readsL_snoc (out : List ByteArray) (l : List Ex) (x : Ex) : readsL out (l ++ [x]) = addAll (readsL out l) (readsE x) := by
  induction l generalizing out with
  | nil => simp [readsL]
  | cons y l ih => simp only [List.cons_append, readsL]; exact ih _
mutual
theorem readsE_len : ∀ (e : Ex), (readsE e).length ≤ e.sz
  | .mk k n nm op l => by
    rw [readsE]
    have h1 := readsL_len (if k = 3 then [nm] else []) l
    have h2 : (if k = 3 then [nm] else []).length ≤ 1 := by split <;> simp
    unfold Ex.sz
    omega
theorem readsL_len (out : List ByteArray) : ∀ (l : List Ex), (readsL out l).length ≤ out.length + szE l
  | [] => by unfold readsL szE; omega
  | e :: l => by
    unfold readsL szE
    have h1 := readsL_len (addAll out (readsE e)) l
    have h2 := addAll_len out (readsE e)
    have h3 := readsE_len e
    omega
end
theorem szE_take_add {l : List Ex} {k : Nat} {x : Ex} (h : l[k]? = some x) : szE (l.take k) + x.sz ≤ szE l := by
  induction l generalizing k with
  | nil => simp at h
  | cons y l ih =>
    cases k with
    | zero => simp at h; subst h; simp [szE]
    | succ k =>
      rw [List.getElem?_cons_succ] at h
      have := ih h
      simp only [List.take_succ_cons, szE]
      omega
theorem NmsOwn.shape {w : World} {B : Nat} {v : Value} {l : List ByteArray} (h : NmsOwn w B v l) : ∃ a c, v = .slice a l.length c := h.at_.shape

set_option maxHeartbeats 4000000 in
set_option maxRecDepth 100000 in
theorem rreads_any (m : Nat) (hm : m ≤ 10000000) : ∀ (e : Ex) (v : Value) (w : World), e.sz ≤ m → ExsAt w v e.l →
    Calls Tryd.prog 21 #[exV e v] w (RNms w (readsE e)) := by
  induction m with
  | zero => intro e _ _ h; have := e.sz_pos; omega
  | succ m ih =>
    intro e v w hsz hv
    obtain ⟨a, c, rfl⟩ := hv.shape
    have H := Lib.hid hv
    have IH := Lib.hid (ih (by omega))
    have hsz2 := e.sz_l
    have HSZ : Hid (szE e.l ≤ m) := Lib.hid (by omega)
    have hl : e.l.length ≤ 10000000 := by have := szE_len e.l; omega
    clear ih hsz hsz2 hv
    obtain ⟨n, hn⟩ : ∃ n, n = e.l.length := ⟨_, rfl⟩
    have HN := Lib.hid hn
    rw [← hn] at H hl ⊢
    clear hn
    have P := Lib.hid (CsAt.new w [.int .i64 e.kind, .int .i64 e.n, .string e.name, .int .i64 e.op, .slice a n c] 42)
    have B1 := Lib.hid (below1 w (.cells #[.int .i64 e.kind, .int .i64 e.n, .string e.name, .int .i64 e.op, .slice a n c] 42))
    have HP := Lib.hid (readsE_parts e)
    unfold exV
    go_enter Tryd.func21, Tryd.ntmps21
    have p0' := P.out.cell 0 _ rfl
    go_upto_if 10 with (fail)
    clear p0'
    generalize w.alloc (.cells #[.int .i64 e.kind, .int .i64 e.n, .string e.name, .int .i64 e.op, .slice a n c] 42) = w1 at *
    have p0 := P.out.cell 0 _ rfl
    have p2 := P.out.cell 2 _ rfl
    go_cut [3] (fun o_ wx => ∃ a2 n2 c2, o_ = .slice a2 n2 c2 ∧ NmsOwn wx w1.heap.size (.slice a2 n2 c2) (if e.kind = 3 then [e.name] else []) ∧ Below w1.heap.size w1 wx)
    case first =>
      by_cases hk : e.kind = 3
      · have d1 : (e.kind == 3) = true := by rw [beq_iff_eq]; exact hk
        have e1 : (if e.kind = 3 then [e.name] else []) = [e.name] := if_pos hk
        have E1 := Lib.hid e1
        have hB2 : w1.heap.size ≤ (w1.alloc (.cells #[.string e.name] 9)).heap.size := (below1 w1 _).size
        have HB2 := Lib.hid hB2
        clear hk e1 hB2
        go_wp2_with (first
          | (at_builtin; refine appN rfl _ _ rfl w1.heap.size (.slice none 0 0) [] rfl (NmsOwn.nil _ _) _ [e.name] rfl (nms_at1 w1 e.name) (by simp) HB2.out ?_; intro v' w3 ho hg hat; obtain ⟨a3, c3, rfl⟩ := ho.shape; have O3 := Lib.hid ho; have G3 := Lib.hid (Below.then_' (below1 w1 (.cells #[.string e.name] 9)) (Below.grewNone hg)); clear ho hg hat)
          | fail)
        go_meet
        case rel => exact ⟨_, _, _, rfl, by rw [E1.out]; exact O3.out, G3.out⟩
      · have d1 : (e.kind == 3) = false := by rw [beq_eq_false_iff_ne]; exact hk
        have e1 : (if e.kind = 3 then [e.name] else []) = [] := if_neg hk
        have E1 := Lib.hid e1
        clear hk e1
        go_wp2_with fail
        go_meet
        case rel => exact ⟨_, _, _, rfl, by rw [E1.out]; exact NmsOwn.nil _ _, Below.refl _ _⟩
    case rest =>
      obtain ⟨a2, n2, c2, rfl, hown, hb⟩ := hcut
      have HL0 : Hid ((if e.kind = 3 then [e.name] else [] : List ByteArray).length ≤ 1) := Lib.hid (by split <;> simp)
      generalize (if e.kind = 3 then [e.name] else []) = out0 at *
      have OW := Lib.hid hown
      have BW := Lib.hid hb
      have hB1 := B1.out.size
      have p4 := (P.out.below hb).cell 4 _ rfl
      clear p0 p2 hown hb
      go_wp2_with fail
      go_loopw [3, 5, 7, 19] (fun o_ _ _ k_ wr => ∃ (k : Nat) (a2 : Option Addr) (c2 n2 : Nat), k ≤ n ∧ k_ = .int .i64 k ∧ o_ = .slice a2 n2 c2 ∧ NmsOwn wr w1.heap.size (.slice a2 n2 c2) (readsL out0 (e.l.take k)) ∧ Below w1.heap.size w1 wr) (fun _ _ _ k_ _ => n - (intOf k_).toNat)
      case atStart => exact ⟨0, a2, c2, n2, Nat.zero_le _, rfl, rfl, by simpa [readsL] using OW.out, BW.out⟩
      case round =>
        clear OW BW p4
        obtain ⟨k, a3, c3, n3, hk, rfl, rfl, hown, hb⟩ := hrel
        have OW := Lib.hid hown
        have BW := Lib.hid hb
        clear hown
        by_cases hlt : k < n
        · obtain ⟨x, hx⟩ : ∃ x, e.l[k]? = some x := ⟨_, List.getElem?_eq_getElem (by rw [← HN.out]; exact hlt)⟩
          obtain ⟨b, o, c', u, hv, _, f0, f1, f2, f3, f4, hu⟩ := (H.out.below (B1.out.then_' hb)).elem hx
          obtain ⟨rfl, -, rfl⟩ := Value.slice.inj hv
          obtain ⟨ua, uc, rfl⟩ := hu.shape
          have HU := Lib.hid hu
          have HTK := Lib.hid (take_snoc' hx)
          have hxm : Hid (x.sz ≤ m) := Lib.hid (Nat.le_trans (szE_mem (List.mem_of_getElem? hx)) HSZ.out)
          have HLT : Hid ((readsL out0 (e.l.take k)).length + x.sz ≤ 10000001) := Lib.hid (by have h1 := readsL_len out0 (e.l.take k); have h2 := szE_take_add hx; have h3 := HL0.out; have h4 := HSZ.out; omega)
          have hki : (k : Int) < (n : Int) := by omega
          have T := Lib.hid (CsAt.new wr [.int .i64 x.kind, .int .i64 x.n, .string x.name, .int .i64 x.op, .slice ua x.l.length uc] 42)
          have Bz := Lib.hid (below1 wr (.cells #[.int .i64 x.kind, .int .i64 x.n, .string x.name, .int .i64 x.op, .slice ua x.l.length uc] 42))
          clear hv hb hx hu
          go_wp2_with fail
          generalize wr.alloc (.cells #[.int .i64 x.kind, .int .i64 x.n, .string x.name, .int .i64 x.op, .slice ua x.l.length uc] 42) = wz at *
          refine (IH.out x (.slice ua x.l.length uc) wz hxm.out (HU.out.below Bz.out)).mono ?_
          rintro e' w2 ⟨a4, n4, c4, rfl, ho4, hb4⟩
          have R4 := Lib.hid ho4
          have hB2 := Bz.out.then_' hb4
          have O4 := Lib.hid (OW.out.below hB2)
          have B4 := Lib.hid (BW.out.then_' hB2)
          obtain ⟨hn4, hn4'⟩ : n4 = (readsE x).length ∧ True := by obtain ⟨a', c', e1⟩ := ho4.shape; exact ⟨(Value.slice.inj e1).2.1, trivial⟩
          have HN4 := Lib.hid hn4
          have hn4b : n4 ≤ 10000001 := by rw [hn4]; have h1 := readsE_len x; have h2 := HLT.out; omega
          have hz : Hid (∀ g, (Value.slice a3 n3 c3).ownBlock = some g → g < wz.heap.size) := Lib.hid (fun g e1 => Nat.lt_of_lt_of_le (World.ownsRow.lt OW.out g e1).2 Bz.out.size)
          have AP : Hid (∀ g, (Value.slice a3 n3 c3).ownBlock = some g → (Value.slice a4 n4 c4).ownBlock ≠ some g) := Lib.hid (fun g h1 h2 => by have h3 := hz.out g h1; have h4 := (World.ownsRow.lt R4.out g h2).1; omega)
          clear ho4 hb4 hB2 hn4 hn4' hz f0 f1 f2 f3 f4
          go_wp2_with fail
          go_loopw [3, 7, 26] (fun o_ _ k_ wx => ∃ (j : Nat) (a5 : Option Addr) (c5 n5 : Nat), j ≤ n4 ∧ k_ = .int .i64 j ∧ o_ = .slice a5 n5 c5 ∧ NmsOwn wx w1.heap.size (.slice a5 n5 c5) (addAll (readsL out0 (e.l.take k)) ((readsE x).take j)) ∧ NmsOwn wx wz.heap.size (.slice a4 n4 c4) (readsE x) ∧ Below w1.heap.size w1 wx ∧
            Hid (∀ g, (Value.slice a5 n5 c5).ownBlock = some g → (Value.slice a4 n4 c4).ownBlock ≠ some g)) (fun _ _ k_ _ => n4 - (intOf k_).toNat)
          case atStart => exact ⟨0, a3, c3, n3, Nat.zero_le _, rfl, rfl, by simpa [addAll] using O4.out, R4.out, B4.out, AP.out⟩
          case round =>
            clear OW BW
            obtain ⟨j, a5, c5, n5, hj, rfl, rfl, hown, hrw, hb, hap⟩ := hrel
            have O5 := Lib.hid hown
            have R5 := Lib.hid hrw
            have B5 := Lib.hid hb
            clear hown hb
            by_cases hjt : j < n4
            · obtain ⟨s, hs⟩ : ∃ s, (readsE x)[j]? = some s := ⟨_, List.getElem?_eq_getElem (by rw [← HN4.out]; exact hjt)⟩
              obtain ⟨b5, o5, c6, hv5, _, g0⟩ := hrw.at_.elem hs
              obtain ⟨rfl, -, rfl⟩ := Value.slice.inj hv5
              have HS := Lib.hid (take_snoc' hs)
              have hjn : (j : Int) < (n4 : Int) := by omega
              have HLJ : Hid ((addAll (readsL out0 (e.l.take k)) ((readsE x).take j)).length ≤ 20000002) := Lib.hid (by
                have h1 := addAll_len (readsL out0 (e.l.take k)) ((readsE x).take j)
                have h2 : ((readsE x).take j).length ≤ j := by simp; omega
                have h3 := HLT.out
                omega)
              have hlen5 : Hid (∀ (l : List ByteArray), addAll l ((readsE x).take (j + 1)) = addN (addAll l ((readsE x).take j)) s) := Lib.hid (fun l => by rw [HS.out, addAll_snoc])
              clear hv5 hs hrw
              generalize hcur : addAll (readsL out0 (e.l.take k)) ((readsE x).take j) = cur at *
              have HCUR := Lib.hid hcur
              clear hcur
              obtain ⟨hn5, -⟩ : n5 = cur.length ∧ True := by obtain ⟨a', c', e1⟩ := O5.out.shape; exact ⟨(Value.slice.inj e1).2.1, trivial⟩
              subst hn5
              cases hh : hasN cur s with
              | true =>
                have HH := Lib.hid hh
                clear hh
                go_wp2_with fail
                refine (rhas_any _ cur s _ O5.out.at_ (by have := HLJ.out; omega)).mono ?_
                rw [HH.out]
                rintro e' w5 ⟨rfl, hb⟩
                go_wp2
                go_roundw
                case rel => exact ⟨j + 1, a5, c5, _, by omega, by go_num, rfl, by rw [hlen5.out, HCUR.out, add_yes HH.out]; exact O5.out.below hb, R5.out.below hb, B5.out.then_' hb, hap⟩
                case measure => simp [intOf]; omega
              | false =>
                have HH := Lib.hid hh
                clear hh
                go_wp2_with fail
                refine (rhas_any _ cur s _ O5.out.at_ (by have := HLJ.out; omega)).mono ?_
                rw [HH.out]
                rintro e' w5 ⟨rfl, hb⟩
                have hbs := hb.then_' (below1 w5 (.cells #[.string s] 9))
                have BS := Lib.hid hbs
                have O6 := Lib.hid (O5.out.below hbs)
                have R6 := Lib.hid (R5.out.below hbs)
                have B6 := Lib.hid (B5.out.then_' hbs)
                have HB6 := Lib.hid (B5.out.then_' hbs).size
                clear hb hbs
                go_wp2_with (first
                  | (at_builtin; refine appN rfl _ _ rfl w1.heap.size (.slice a5 cur.length c5) cur rfl O6.out _ [s] rfl (nms_at1 w5 s) (by have := HLJ.out; simp; omega) HB6.out ?_; intro v' w7 ho hg hat; obtain ⟨a7, c7, rfl⟩ := ho.shape; have e1 : (cur ++ [s]).length = cur.length + 1 := (by simp); rw [e1] at ho hat; have O7 := Lib.hid ho; have G7 := Lib.hid hg; have A7 := Lib.hid hat; clear ho hg hat e1)
                  | fail)
                go_roundw
                case rel =>
                  refine ⟨j + 1, a7, c7, cur.length + 1, by omega, by go_num, rfl, by rw [hlen5.out, HCUR.out, add_no HH.out]; exact O7.out, ?_, B6.out.grown G7.out HB6.out (fun g e1 => (World.ownsRow.lt O6.out g e1).1), ?_⟩
                  · refine World.ownsRow.kept R6.out G7.out ?_
                    rcases h7 : (Value.slice (some ⟨b5, o5, none⟩) n4 c4).ownBlock with _ | g
                    · exact .inl rfl
                    · exact .inr (fun e1 => hap.out g e1.symm h7)
                  · intro g h1 h2
                    rcases A7.out with h3 | h3
                    · exact hap.out g (h3.symm.trans h1) h2
                    · have h4 := (World.ownsRow.lt R6.out g h2).2
                      rw [h3] at h1
                      have := Option.some.inj h1
                      omega
                case measure => simp [intOf]; omega
            · obtain rfl : j = n4 := by omega
              have e1 : (readsE x).take j = readsE x := List.take_of_length_le (Nat.le_of_eq HN4.out.symm)
              rw [e1] at O5
              go_wp2
              go_roundw
              case rel => exact ⟨k + 1, a5, c5, n5, by omega, by go_num, rfl, by rw [HTK.out, readsL_snoc]; exact O5.out, B5.out⟩
              case measure => simp [intOf]; omega
        · obtain rfl : k = n := by omega
          have e1 : e.l.take k = e.l := List.take_of_length_le (Nat.le_of_eq HN.out.symm)
          rw [e1] at OW
          go_wp2
          go_ret
          exact ⟨_, _, _, rfl, own_mono (by rw [HP.out]; exact OW.out) hB1, B1.out.then_' hb⟩
end Go.Proofs.YtilholgbepfopaaDoor
/- names.add, walked. -/
namespace Go.Proofs.YtilholgbepfopaaDoor
open Go.RowKit

def RNAdd (w : World) (B0 nb : Nat) (mp row : Option Nat) (l : List ByteArray) (e : Ending) (w' : World) : Prop :=
  ∃ a n c mp', e = .returned (.tuple #[]) ∧ NSt w' B0 nb a n c mp' l ∧ GrN nb mp row w w' mp' (Value.slice a n c).ownBlock
theorem has_in {l : List ByteArray} {s : ByteArray} (h : hasN l s = true) : s ∈ l := by
  unfold hasN at h
  obtain ⟨x, hx, e⟩ := List.any_eq_true.1 h
  rw [← of_decide_eq_true e]
  exact hx
theorem has_out {l : List ByteArray} {s : ByteArray} (h : hasN l s = false) : s ∉ l := fun hm => by
  unfold hasN at h
  have := List.any_eq_false.1 h s hm
  simp at this
theorem nms_kept {w w' : World} {b o n c : Nat} {m : List ByteArray} (h : NmsAt w (.slice (some ⟨b, o, none⟩) n c) m) (hh : w'.heap[b]? = w.heap[b]?) : NmsAt w' (.slice (some ⟨b, o, none⟩) n c) m := by
  rcases h with ⟨e, _⟩ | ⟨ad, c', e, h1, h2, h3⟩
  · cases e
  · obtain ⟨e1, -, -⟩ := Value.slice.inj e
    obtain rfl := Option.some.inj e1
    exact .inr ⟨_, c', e, h1, h2, fun j u hj => by rw [addr_add]; exact (World.cell?_of_block (a := ⟨b, o + j, none⟩) hh).trans (by rw [← addr_add]; exact h3 j u hj)⟩
/-- the names m at v, in a row that is not the list's -/
theorem nms_grown {w w' : World} {B0 nb n c : Nat} {a : Option Addr} {mp mp' row' : Option Nat} {l m : List ByteArray} {v : Value} (hst : NSt w B0 nb a n c mp l) (h : NmsAt w v m) (hap : ∀ b o q k, v = .slice (some ⟨b, o, none⟩) q k → (Value.slice a n c).ownBlock ≠ some b)
    (hg : GrN nb mp (Value.slice a n c).ownBlock w w' mp' row') {k : Nat} {s : ByteArray} (hk : m[k]? = some s) : ∃ b o c', v = .slice (some ⟨b, o, none⟩) m.length c' ∧ w'.cell? ⟨b, o + k, none⟩ = some (.string s) := by
  obtain ⟨b, o, c', rfl, hb, hc⟩ := h.elem hk
  refine ⟨b, o, c', rfl, (World.cell?_of_block (a := ⟨b, o + k, none⟩) (hg.block b hb ?_ ?_ (hap _ _ _ _ rfl))).trans hc⟩
  · rintro rfl
    have h1 := hst.cs.at_
    have h2 := hst.cs
    unfold CsT at h2
    rw [cell_of_row _ _ (o + k) _ _ _ h2] at hc
    rcases h3 : o + k with _ | _ | j
    · rw [h3] at hc; cases hc
    · rw [h3] at hc; cases hc
    · rw [h3] at hc; simp at hc
  · rintro rfl
    rcases hst.map with ⟨h1, _⟩ | ⟨b', h1, _, h3⟩
    · cases h1
    · obtain rfl := Option.some.inj h1
      obtain ⟨es, q, h4, _⟩ := h3
      unfold World.cell? at hc
      rw [h4] at hc
      cases hc
theorem NSt.made {w : World} {B0 nb n c : Nat} {a : Option Addr} {l : List ByteArray} (h : NSt w B0 nb a n c none l) (hB : B0 ≤ w.heap.size) :
    NSt ((w.alloc (.map #[] 0)).setCell ⟨nb, 1, none⟩ (.map (some w.heap.size))) B0 nb a n c (some w.heap.size) l ∧ GrN nb none (Value.slice a n c).ownBlock w ((w.alloc (.map #[] 0)).setCell ⟨nb, 1, none⟩ (.map (some w.heap.size))) (some w.heap.size) (Value.slice a n c).ownBlock := by
  obtain rfl : l = [] := by
    rcases h.map with ⟨_, h1⟩ | ⟨b, h1, _⟩
    · exact h1
    · cases h1
  have b1 := below1 w (.map #[] 0)
  have hne : (Value.slice a n c).ownBlock ≠ some nb := own_ne (h.own.below b1) (h.cs.below b1) (by decide)
  have hlt := h.cs.lt
  refine ⟨⟨(h.cs.below b1).set1, ?_, .inr ⟨_, rfl, hB, (SetAt.new w).kept (Below.heap_setCell _ _ _ _ (fun e => by simp only at e; omega))⟩, h.lo⟩, rfl, rfl, rfl, by simp [World.setCell], fun k hk h1 _ _ => (Below.heap_setCell _ _ _ k h1).trans (b1.block k hk), .inr ⟨_, rfl, Nat.le_refl _⟩, .inl rfl⟩
  exact NmsOwn.kept (r := some nb) (h.own.below b1) ⟨rfl, rfl, rfl, by simp [World.setCell], fun k _ hk => Below.heap_setCell _ _ _ k (fun e => hk (by rw [e]))⟩ (fun b' e => by rw [← Option.some.inj e]; exact hne)
structure NSt5 (w : World) (B0 nb : Nat) (a : Option Addr) (n c b : Nat) (l : List ByteArray) : Prop where
  cs : CsT w nb [.slice a n c, .map (some b)] 63
  own : NmsOwn w B0 (.slice a n c) l
theorem NSt5.of {w w5 : World} {B0 nb n c b : Nat} {a : Option Addr} {l : List ByteArray} (h : NSt w B0 nb a n c (some b) l) (hg : w.grownBy w5 (some b)) : NSt5 w5 B0 nb a n c b l := by
  obtain ⟨b', hb1, hb2, hb3⟩ : ∃ b', some b = some b' ∧ B0 ≤ b' ∧ SetAt w b' l := by
    rcases h.map with ⟨h1, _⟩ | h1
    · cases h1
    · exact h1
  obtain rfl := Option.some.inj hb1
  have hnb : nb ≠ b := fun e => by
    have := h.cs
    unfold CsT at this
    rw [e] at this
    exact hb3.no_row this
  exact ⟨(hg.block nb h.cs.lt (fun e => hnb (Option.some.inj e))).trans h.cs, h.own.kept hg (fun b' e => by rw [← Option.some.inj e]; exact own_ne_map h.own hb3)⟩
theorem CsAt.grew {w w' : World} {b : Nat} {cs : List Value} {r : Option Nat} (h : CsAt w b cs) (hg : w.grownBy w' r) (hr : r ≠ some b) {u : Value} (hu : cs[0]? = some u) : w'.cell? ⟨b, 0, none⟩ = some u ∧ w'.frozen? ⟨b, 0, none⟩ = false :=
  ⟨(World.cell?_of_block (a := ⟨b, 0, none⟩) (hg.block b h.lt (fun e => hr e.symm))).trans (h.cell 0 u hu), (World.frozen?_of_block (a := ⟨b, 0, none⟩) (hg.block b h.lt (fun e => hr e.symm))).trans (h.fr 0)⟩

set_option maxHeartbeats 4000000 in
set_option maxRecDepth 100000 in
theorem nadd_any (B0 nb : Nat) (a : Option Addr) (n c : Nat) (mp : Option Nat) (l m : List ByteArray) (v : Value) (w : World) (hst : NSt w B0 nb a n c mp l) (hv : NmsAt w v m) (hap : ∀ b o q k, v = .slice (some ⟨b, o, none⟩) q k → (Value.slice a n c).ownBlock ≠ some b)
    (hB : B0 ≤ w.heap.size) (hlen : l.length + m.length ≤ 100000000) : Calls Tryd.prog 37 #[.pointer (some ⟨nb, 0, none⟩), v] w (RNAdd w B0 nb mp (Value.slice a n c).ownBlock (addAll l m)) := by
  obtain ⟨va, vc, rfl⟩ := hv.shape
  have HV := Lib.hid hv
  have HAP := Lib.hid hap
  have ST := Lib.hid hst
  have HLEN := Lib.hid hlen
  have hmm := @run_makeMap Tryd.prog
  have hl : m.length ≤ 100000000 := by omega
  obtain ⟨q, hq⟩ : ∃ q, q = m.length := ⟨_, rfl⟩
  have HQ := Lib.hid hq
  rw [← hq] at HV HAP hl ⊢
  have p0 := hst.cs.at_.cell 1 _ rfl
  have hbo : ∀ wx, (binOp .eql 61 (.map mp) (.map none)).run Tryd.prog wx = .ok (.bool mp.isNone) wx := fun wx => by cases mp <;> kernel_rfl
  have f0 : (w.alloc (.map #[] 0)).frozen? ⟨nb, 1, none⟩ = false := (hst.cs.below (below1 w _)).at_.fr 1
  have f1 : mp = none → (w.alloc (.map #[] 0)).cell? ⟨nb, 1, none⟩ = some (.map none) := fun e => by subst e; exact (hst.cs.below (below1 w _)).at_.cell 1 _ rfl
  clear hst hv hap hlen hq
  go_enter Tryd.func37, Tryd.ntmps37
  go_upto_if 10 with (fail)
  clear hbo
  go_cut [6, 7, 8, 9, 10, 11, 12, 13, 14] (fun _ _ _ _ _ _ _ _ _ wx => ∃ b, NSt wx B0 nb a n c (some b) l ∧ GrN nb mp (Value.slice a n c).ownBlock w wx (some b) (Value.slice a n c).ownBlock)
  case first =>
    cases mp with
    | none =>
      have f2 := f1 rfl
      go_wp2_with fail
      go_meet
      case rel => exact ⟨_, NSt.made ST.out hB⟩
    | some b =>
      go_wp2_with fail
      go_meet
      case rel => exact ⟨b, ST.out, GrN.refl _ _ _ _⟩
  case rest =>
    obtain ⟨b1, hst1, hg1⟩ := hcut
    have S1 := Lib.hid hst1
    have G1 := Lib.hid hg1
    clear hst1 hg1 p0 f0 f1 hmm
    go_wp2_with fail
    go_loopw [5, 17] (fun _ k_ wr => ∃ (k : Nat) (a2 : Option Addr) (n2 c2 : Nat), k ≤ q ∧ k_ = .int .i64 k ∧ NSt wr B0 nb a2 n2 c2 (some b1) (addAll l (m.take k)) ∧ GrN nb mp (Value.slice a n c).ownBlock w wr (some b1) (Value.slice a2 n2 c2).ownBlock) (fun _ k_ _ => q - (intOf k_).toNat)
    case atStart => exact ⟨0, a, n, c, Nat.zero_le _, rfl, by simpa [addAll] using S1.out, G1.out⟩
    case round =>
      clear S1 G1
      obtain ⟨k, a2, n2, c2, hk, rfl, hst2, hg2⟩ := hrel
      have S2 := Lib.hid hst2
      have G2 := Lib.hid hg2
      clear hst2 hg2
      by_cases hlt : k < q
      · obtain ⟨s, hs⟩ : ∃ s, m[k]? = some s := ⟨_, List.getElem?_eq_getElem (by rw [← HQ.out]; exact hlt)⟩
        obtain ⟨b, o, c', hv, c0⟩ := nms_grown ST.out HV.out HAP.out G2.out hs
        obtain ⟨rfl, -, rfl⟩ := Value.slice.inj hv
        have HS := Lib.hid (take_snoc' hs)
        have hki : (k : Int) < (q : Int) := by omega
        have HL : Hid ((addAll l (m.take k)).length + 1 ≤ 100000000) := Lib.hid (by
          have h1 := addAll_len l (m.take k)
          have h2 : (m.take k).length ≤ k := by simp; omega
          have h3 := HLEN.out
          have h4 := HQ.out
          omega)
        have t1 := S2.out.cs.at_.cell 1 _ rfl
        have hsz := Nat.le_trans hB G2.out.size
        have HSZ := Lib.hid hsz
        clear hv hs hsz
        generalize hcur : addAll l (m.take k) = cur at *
        have HCUR := Lib.hid hcur
        clear hcur
        obtain ⟨b1', e1, -, hset⟩ : ∃ b', some b1 = some b' ∧ B0 ≤ b' ∧ SetAt wr b' cur := by
          rcases S2.out.map with ⟨h1, _⟩ | h1
          · cases h1
          · exact h1
        obtain rfl := Option.some.inj e1
        have SET := Lib.hid hset
        have hz : (zeroValue 4).run Tryd.prog wr = .ok (.bool false) wr := by kernel_rfl
        cases hh : hasN cur s with
        | true =>
          have HH := Lib.hid hh
          have hlk := hset.look_yes (P := Tryd.prog) Tryd.underlying61 Tryd.underlying9 (E' := 4) (has_in hh)
          clear hh hset hz e1
          go_wp2_with fail
          go_roundw
          case rel => exact ⟨k + 1, a2, n2, c2, by omega, by go_num, by rw [HS.out, addAll_snoc, HCUR.out, add_yes HH.out]; exact S2.out, G2.out⟩
          case measure => simp [intOf]; omega
        | false =>
          have HH := Lib.hid hh
          have hlk := hset.look_no (P := Tryd.prog) Tryd.underlying61 Tryd.underlying9 hz (has_out hh)
          obtain ⟨w5, hput, hset5, hg5⟩ := hset.put (P := Tryd.prog) (T := 61) (K := 9) (E' := 4) Tryd.underlying61 Tryd.underlying9 s (has_out hh)
          have S5 : NSt5 w5 B0 nb a2 n2 c2 b1 cur := NSt5.of S2.out hg5
          have n0 := S5.cs.at_.cell 0 _ rfl
          have H5 := Lib.hid S5
          have SET5 := Lib.hid hset5
          have G5 := Lib.hid hg5
          have HS5 : Hid (B0 ≤ (w5.alloc (.cells #[.string s] 9)).heap.size) := Lib.hid (by have := hg5.size; have := HSZ.out; simp; omega)
          clear hh hset hz e1 S5 hset5 hg5
          go_wp2_with (first
            | (at_builtin; refine appN rfl _ _ rfl B0 (.slice a2 n2 c2) cur rfl (H5.out.own.below (below1 _ _)) _ [s] rfl (nms_at1 w5 s) (by have := HL.out; simp; omega) HS5.out ?_; intro v' w7 ho hg hat; obtain ⟨a7, c7, rfl⟩ := ho.shape; have e1 : (cur ++ [s]).length = cur.length + 1 := (by simp); rw [e1] at ho hat; have F7 := NSt.added S2.out SET5.out G5.out ho hg hat; have H7 := Lib.hid F7; obtain ⟨cz, fz⟩ := (H5.out.cs.below (below1 _ (.cells #[.string s] 9))).at_.grew hg (own_ne H5.out.own H5.out.cs (by decide)) rfl; clear ho hg hat e1 F7)
            | fail)
          go_roundw
          case rel => exact ⟨k + 1, a7, _, c7, by omega, by go_num, by rw [HS.out, addAll_snoc, HCUR.out, add_no HH.out]; exact H7.out.1, G2.out.trans H7.out.2⟩
          case measure => simp [intOf]; omega
      · obtain rfl : k = q := by omega
        have e1 : m.take k = m := List.take_of_length_le (Nat.le_of_eq HQ.out.symm)
        rw [e1] at S2
        go_wp2
        go_end0
        exact ⟨_, _, _, _, rfl, S2.out, G2.out⟩
end Go.Proofs.YtilholgbepfopaaDoor
/- The parts that kinds of statements and expressions have (of the code). -/
namespace Go.Proofs.YtilholgbepfopaaDoor
open Go.RowKit

structure SP where
  name : Bool
  fn : Bool
  op : Bool
  mostN : Int
  least : Int
  most : Int
  body : Bool
  els : Bool
structure EP where
  name : Bool
  op : Bool
  leastN : Int
  mostN : Int
  elements : Int
def sparts (k : Int) : SP × Bool :=
  if k = 1 then (⟨true, false, false, 0, 1, 1, false, false⟩, true) else
  if k = 11 then (⟨true, false, false, 0, 1, 1, false, false⟩, true) else
  if k = 2 then (⟨false, false, false, 15, 2, 2, false, false⟩, true) else
  if k = 3 then (⟨true, true, false, 0, 0, 4, false, false⟩, true) else
  if k = 4 then (⟨false, false, false, 0, 1, 1, true, true⟩, true) else
  if k = 5 then (⟨true, false, false, 0, 2, 2, true, false⟩, true) else
  if k = 6 then (⟨false, false, false, 0, 1, 1, true, false⟩, true) else
  if k = 7 then (⟨false, false, false, 0, 1, 1, false, false⟩, true) else
  if k = 8 then (⟨false, false, false, 0, 1, 1, false, false⟩, true) else
  if k = 10 then (⟨false, false, false, 0, 1, 1, false, false⟩, true) else
  if k = 9 then (⟨true, false, false, 0, 0, 0, true, true⟩, true) else
  if k = 12 then (⟨true, false, true, 0, 1, 1, false, false⟩, true) else
  (⟨false, false, false, 0, 0, 0, false, false⟩, false)
def eparts (k : Int) : EP × Bool :=
  if k = 1 then (⟨false, false, (-9223372036854775808), 9223372036854775807, 0⟩, true) else
  if k = 2 then (⟨false, false, 0, 0, 0⟩, true) else
  if k = 3 then (⟨true, false, 0, 0, 0⟩, true) else
  if k = 4 then (⟨false, false, 0, 15, 1⟩, true) else
  if k = 5 then (⟨false, true, 0, 0, 2⟩, true) else
  if k = 6 then (⟨false, false, 0, 16, 0⟩, true) else
  (⟨false, false, 0, 0, 0⟩, false)
def spV (p : SP) : Value := .agg #[.bool p.name, .bool p.fn, .bool p.op, .int .i64 p.mostN, .int .i64 p.least, .int .i64 p.most, .bool p.body, .bool p.els]
def epV (p : EP) : Value := .agg #[.bool p.name, .bool p.op, .int .i64 p.leastN, .int .i64 p.mostN, .int .i64 p.elements]
set_option maxHeartbeats 1000000 in
set_option maxRecDepth 100000 in
theorem sparts_any (k : Int) (w : World) : Calls Tryd.prog 40 #[.int .i64 k] w (fun e w' => e = .returned (.tuple #[spV (sparts k).1, .bool (sparts k).2]) ∧ Below w.heap.size w w') := by
  by_cases h1 : k = 1
  · subst h1
    go_enter Tryd.func40, Tryd.ntmps40
    go_wp2
    refine bodyPost_ret (v := .tuple #[.agg #[.bool true, .bool false, .bool false, .int .i64 0, .int .i64 1, .int .i64 1, .bool false, .bool false], .bool true]) (by simp [results, Tryd.results40, go_sem]) rfl ?_
    exact ⟨rfl, by first | exact below1 _ _ | exact Below.refl _ _⟩
  by_cases h11 : k = 11
  · subst h11
    go_enter Tryd.func40, Tryd.ntmps40
    go_wp2
    refine bodyPost_ret (v := .tuple #[.agg #[.bool true, .bool false, .bool false, .int .i64 0, .int .i64 1, .int .i64 1, .bool false, .bool false], .bool true]) (by simp [results, Tryd.results40, go_sem]) rfl ?_
    exact ⟨rfl, by first | exact below1 _ _ | exact Below.refl _ _⟩
  by_cases h2 : k = 2
  · subst h2
    go_enter Tryd.func40, Tryd.ntmps40
    go_wp2
    refine bodyPost_ret (v := .tuple #[.agg #[.bool false, .bool false, .bool false, .int .i64 15, .int .i64 2, .int .i64 2, .bool false, .bool false], .bool true]) (by simp [results, Tryd.results40, go_sem]) rfl ?_
    exact ⟨rfl, by first | exact below1 _ _ | exact Below.refl _ _⟩
  by_cases h3 : k = 3
  · subst h3
    go_enter Tryd.func40, Tryd.ntmps40
    go_wp2
    refine bodyPost_ret (v := .tuple #[.agg #[.bool true, .bool true, .bool false, .int .i64 0, .int .i64 0, .int .i64 4, .bool false, .bool false], .bool true]) (by simp [results, Tryd.results40, go_sem]) rfl ?_
    exact ⟨rfl, by first | exact below1 _ _ | exact Below.refl _ _⟩
  by_cases h4 : k = 4
  · subst h4
    go_enter Tryd.func40, Tryd.ntmps40
    go_wp2
    refine bodyPost_ret (v := .tuple #[.agg #[.bool false, .bool false, .bool false, .int .i64 0, .int .i64 1, .int .i64 1, .bool true, .bool true], .bool true]) (by simp [results, Tryd.results40, go_sem]) rfl ?_
    exact ⟨rfl, by first | exact below1 _ _ | exact Below.refl _ _⟩
  by_cases h5 : k = 5
  · subst h5
    go_enter Tryd.func40, Tryd.ntmps40
    go_wp2
    refine bodyPost_ret (v := .tuple #[.agg #[.bool true, .bool false, .bool false, .int .i64 0, .int .i64 2, .int .i64 2, .bool true, .bool false], .bool true]) (by simp [results, Tryd.results40, go_sem]) rfl ?_
    exact ⟨rfl, by first | exact below1 _ _ | exact Below.refl _ _⟩
  by_cases h6 : k = 6
  · subst h6
    go_enter Tryd.func40, Tryd.ntmps40
    go_wp2
    refine bodyPost_ret (v := .tuple #[.agg #[.bool false, .bool false, .bool false, .int .i64 0, .int .i64 1, .int .i64 1, .bool true, .bool false], .bool true]) (by simp [results, Tryd.results40, go_sem]) rfl ?_
    exact ⟨rfl, by first | exact below1 _ _ | exact Below.refl _ _⟩
  by_cases h7 : k = 7
  · subst h7
    go_enter Tryd.func40, Tryd.ntmps40
    go_wp2
    refine bodyPost_ret (v := .tuple #[.agg #[.bool false, .bool false, .bool false, .int .i64 0, .int .i64 1, .int .i64 1, .bool false, .bool false], .bool true]) (by simp [results, Tryd.results40, go_sem]) rfl ?_
    exact ⟨rfl, by first | exact below1 _ _ | exact Below.refl _ _⟩
  by_cases h8 : k = 8
  · subst h8
    go_enter Tryd.func40, Tryd.ntmps40
    go_wp2
    refine bodyPost_ret (v := .tuple #[.agg #[.bool false, .bool false, .bool false, .int .i64 0, .int .i64 1, .int .i64 1, .bool false, .bool false], .bool true]) (by simp [results, Tryd.results40, go_sem]) rfl ?_
    exact ⟨rfl, by first | exact below1 _ _ | exact Below.refl _ _⟩
  by_cases h10 : k = 10
  · subst h10
    go_enter Tryd.func40, Tryd.ntmps40
    go_wp2
    refine bodyPost_ret (v := .tuple #[.agg #[.bool false, .bool false, .bool false, .int .i64 0, .int .i64 1, .int .i64 1, .bool false, .bool false], .bool true]) (by simp [results, Tryd.results40, go_sem]) rfl ?_
    exact ⟨rfl, by first | exact below1 _ _ | exact Below.refl _ _⟩
  by_cases h9 : k = 9
  · subst h9
    go_enter Tryd.func40, Tryd.ntmps40
    go_wp2
    refine bodyPost_ret (v := .tuple #[.agg #[.bool true, .bool false, .bool false, .int .i64 0, .int .i64 0, .int .i64 0, .bool true, .bool true], .bool true]) (by simp [results, Tryd.results40, go_sem]) rfl ?_
    exact ⟨rfl, by first | exact below1 _ _ | exact Below.refl _ _⟩
  by_cases h12 : k = 12
  · subst h12
    go_enter Tryd.func40, Tryd.ntmps40
    go_wp2
    refine bodyPost_ret (v := .tuple #[.agg #[.bool true, .bool false, .bool true, .int .i64 0, .int .i64 1, .int .i64 1, .bool false, .bool false], .bool true]) (by simp [results, Tryd.results40, go_sem]) rfl ?_
    exact ⟨rfl, by first | exact below1 _ _ | exact Below.refl _ _⟩
  have E : sparts k = (⟨false, false, false, 0, 0, 0, false, false⟩, false) := by simp [sparts, h1, h11, h2, h3, h4, h5, h6, h7, h8, h10, h9, h12]
  rw [E]
  clear E
  replace h1 : (k == 1) = false := by rw [beq_eq_false_iff_ne]; exact h1
  replace h11 : (k == 11) = false := by rw [beq_eq_false_iff_ne]; exact h11
  replace h2 : (k == 2) = false := by rw [beq_eq_false_iff_ne]; exact h2
  replace h3 : (k == 3) = false := by rw [beq_eq_false_iff_ne]; exact h3
  replace h4 : (k == 4) = false := by rw [beq_eq_false_iff_ne]; exact h4
  replace h5 : (k == 5) = false := by rw [beq_eq_false_iff_ne]; exact h5
  replace h6 : (k == 6) = false := by rw [beq_eq_false_iff_ne]; exact h6
  replace h7 : (k == 7) = false := by rw [beq_eq_false_iff_ne]; exact h7
  replace h8 : (k == 8) = false := by rw [beq_eq_false_iff_ne]; exact h8
  replace h10 : (k == 10) = false := by rw [beq_eq_false_iff_ne]; exact h10
  replace h9 : (k == 9) = false := by rw [beq_eq_false_iff_ne]; exact h9
  replace h12 : (k == 12) = false := by rw [beq_eq_false_iff_ne]; exact h12
  go_enter Tryd.func40, Tryd.ntmps40
  go_wp2_with fail
  refine bodyPost_ret (v := .tuple #[.agg #[.bool false, .bool false, .bool false, .int .i64 0, .int .i64 0, .int .i64 0, .bool false, .bool false], .bool false]) (by simp [results, Tryd.results40, go_sem]) rfl ?_
  exact ⟨rfl, by first | exact below1 _ _ | exact Below.refl _ _⟩
set_option maxHeartbeats 1000000 in
set_option maxRecDepth 100000 in
theorem eparts_any (k : Int) (w : World) : Calls Tryd.prog 91 #[.int .i64 k] w (fun e w' => e = .returned (.tuple #[epV (eparts k).1, .bool (eparts k).2]) ∧ Below w.heap.size w w') := by
  by_cases h1 : k = 1
  · subst h1
    go_enter Tryd.func91, Tryd.ntmps91
    go_wp2
    refine bodyPost_ret (v := .tuple #[.agg #[.bool false, .bool false, .int .i64 (-9223372036854775808), .int .i64 9223372036854775807, .int .i64 0], .bool true]) (by simp [results, Tryd.results91, go_sem]) rfl ?_
    exact ⟨rfl, by first | exact below1 _ _ | exact Below.refl _ _⟩
  by_cases h2 : k = 2
  · subst h2
    go_enter Tryd.func91, Tryd.ntmps91
    go_wp2
    refine bodyPost_ret (v := .tuple #[.agg #[.bool false, .bool false, .int .i64 0, .int .i64 0, .int .i64 0], .bool true]) (by simp [results, Tryd.results91, go_sem]) rfl ?_
    exact ⟨rfl, by first | exact below1 _ _ | exact Below.refl _ _⟩
  by_cases h3 : k = 3
  · subst h3
    go_enter Tryd.func91, Tryd.ntmps91
    go_wp2
    refine bodyPost_ret (v := .tuple #[.agg #[.bool true, .bool false, .int .i64 0, .int .i64 0, .int .i64 0], .bool true]) (by simp [results, Tryd.results91, go_sem]) rfl ?_
    exact ⟨rfl, by first | exact below1 _ _ | exact Below.refl _ _⟩
  by_cases h4 : k = 4
  · subst h4
    go_enter Tryd.func91, Tryd.ntmps91
    go_wp2
    refine bodyPost_ret (v := .tuple #[.agg #[.bool false, .bool false, .int .i64 0, .int .i64 15, .int .i64 1], .bool true]) (by simp [results, Tryd.results91, go_sem]) rfl ?_
    exact ⟨rfl, by first | exact below1 _ _ | exact Below.refl _ _⟩
  by_cases h5 : k = 5
  · subst h5
    go_enter Tryd.func91, Tryd.ntmps91
    go_wp2
    refine bodyPost_ret (v := .tuple #[.agg #[.bool false, .bool true, .int .i64 0, .int .i64 0, .int .i64 2], .bool true]) (by simp [results, Tryd.results91, go_sem]) rfl ?_
    exact ⟨rfl, by first | exact below1 _ _ | exact Below.refl _ _⟩
  by_cases h6 : k = 6
  · subst h6
    go_enter Tryd.func91, Tryd.ntmps91
    go_wp2
    refine bodyPost_ret (v := .tuple #[.agg #[.bool false, .bool false, .int .i64 0, .int .i64 16, .int .i64 0], .bool true]) (by simp [results, Tryd.results91, go_sem]) rfl ?_
    exact ⟨rfl, by first | exact below1 _ _ | exact Below.refl _ _⟩
  have E : eparts k = (⟨false, false, 0, 0, 0⟩, false) := by simp [eparts, h1, h2, h3, h4, h5, h6]
  rw [E]
  clear E
  replace h1 : (k == 1) = false := by rw [beq_eq_false_iff_ne]; exact h1
  replace h2 : (k == 2) = false := by rw [beq_eq_false_iff_ne]; exact h2
  replace h3 : (k == 3) = false := by rw [beq_eq_false_iff_ne]; exact h3
  replace h4 : (k == 4) = false := by rw [beq_eq_false_iff_ne]; exact h4
  replace h5 : (k == 5) = false := by rw [beq_eq_false_iff_ne]; exact h5
  replace h6 : (k == 6) = false := by rw [beq_eq_false_iff_ne]; exact h6
  go_enter Tryd.func91, Tryd.ntmps91
  go_wp2_with fail
  refine bodyPost_ret (v := .tuple #[.agg #[.bool false, .bool false, .int .i64 0, .int .i64 0, .int .i64 0], .bool false]) (by simp [results, Tryd.results91, go_sem]) rfl ?_
  exact ⟨rfl, by first | exact below1 _ _ | exact Below.refl _ _⟩
end Go.Proofs.YtilholgbepfopaaDoor
/- Nodes of expressions (of the reference). -/
namespace Go.Proofs.YtilholgbepfopaaDoor
open Go.RowKit

/-- whether name and operator of an expression are as its kind wants them, whether its number is, and how many elements its list must have -/
def okP (e : Ex) : Bool :=
  if e.kind = 1 ∨ e.kind = 2 ∨ e.kind = 4 ∨ e.kind = 6 then decide (e.name = ⟨#[]⟩) && decide (e.op = 0)
  else if e.kind = 3 then isNm e.name && decide (e.op = 0)
  else if e.kind = 5 then decide (e.name = ⟨#[]⟩) && opB e.op
  else false
def numP (e : Ex) : Bool :=
  if e.kind = 1 then true
  else if e.kind = 4 then decide (0 ≤ e.n) && decide (e.n < 16)
  else if e.kind = 6 then decide (0 ≤ e.n) && decide (e.n ≤ 16)
  else decide (e.n = 0)
def kidsP (e : Ex) : Int := if e.kind = 4 then 1 else if e.kind = 5 then 2 else 0
theorem emp_t {s : ByteArray} (h : s = ⟨#[]⟩) : s.toList.isEmpty = true := by subst h; rw [ByteArray.toList_eq]; rfl
theorem emp_f {s : ByteArray} (h : ¬ s = ⟨#[]⟩) : s.toList.isEmpty = false := by
  have := tstr_ne h
  rw [ByteArray.toList_eq] at this ⊢
  cases hh : s.data.toList with
  | nil =>
    exfalso
    exact h (ByteArray.ext (Array.toList_inj.1 hh))
  | cons x l => rfl

end Go.Proofs.YtilholgbepfopaaDoor
/- Nodes of expressions (of the code): validName, validOp, validNode. -/
namespace Go.Proofs.YtilholgbepfopaaDoor
open Go.RowKit

def vName (s : ByteArray) (b : Bool) : Bool := if b = true then isNm s else decide (s = ⟨#[]⟩)
def vOp (op : Int) (b : Bool) : Bool := if b = true then opB op else decide (op = 0)
theorem vname_any (s : ByteArray) (b : Bool) (w : World) (hg : Glob w) : Calls Tryd.prog 73 #[.string s, .bool b] w (RetB w (vName s b)) := by
  have HG := Lib.hid hg
  clear hg
  go_enter Tryd.func73, Tryd.ntmps73
  cases b with
  | true =>
    go_wp2_with fail
    refine (sname_any s _ HG.out).mono ?_
    rintro e w1 ⟨rfl, hb⟩
    go_wp2_with fail
    go_ret
    exact ⟨rfl, hb⟩
  | false =>
    by_cases h : s = ⟨#[]⟩
    · have q := emp_t h
      have HR : Hid (vName s false = true) := Lib.hid (by unfold vName; rw [if_neg (by decide)]; exact decide_eq_true h)
      clear h
      go_wp2_with fail
      go_ret
      exact retB HR.out.symm (Below.refl _ _)
    · have q := emp_f h
      have HR : Hid (vName s false = false) := Lib.hid (by unfold vName; rw [if_neg (by decide)]; exact decide_eq_false h)
      clear h
      go_wp2_with fail
      go_ret
      exact retB HR.out.symm (Below.refl _ _)
theorem vop_any (op : Int) (b : Bool) (w : World) (hg : Glob w) : Calls Tryd.prog 74 #[.int .i64 op, .bool b] w (RetB w (vOp op b)) := by
  have HG := Lib.hid hg
  clear hg
  go_enter Tryd.func74, Tryd.ntmps74
  cases b with
  | true =>
    go_wp2_with fail
    refine (name_any op _ HG.out).mono ?_
    rintro e w1 ⟨rfl, hb⟩
    go_wp2_with fail
    go_ret
    exact ⟨rfl, hb⟩
  | false =>
    by_cases h : op = 0
    · have q : (op == 0) = true := by rw [beq_iff_eq]; exact h
      have HR : Hid (vOp op false = true) := Lib.hid (by unfold vOp; rw [if_neg (by decide)]; exact decide_eq_true h)
      clear h
      go_wp2_with fail
      go_ret
      exact retB HR.out.symm (Below.refl _ _)
    · have q : (op == 0) = false := by rw [beq_eq_false_iff_ne]; exact h
      have HR : Hid (vOp op false = false) := Lib.hid (by unfold vOp; rw [if_neg (by decide)]; exact decide_eq_false h)
      clear h
      go_wp2_with fail
      go_ret
      exact retB HR.out.symm (Below.refl _ _)
def vNode (e : Ex) : Bool := (eparts e.kind).2 && vName e.name (eparts e.kind).1.name && vOp e.op (eparts e.kind).1.op && decide ((eparts e.kind).1.leastN ≤ e.n) && decide (e.n ≤ (eparts e.kind).1.mostN) && decide ((e.l.length : Int) = (eparts e.kind).1.elements)
theorem vNode_eq (e : Ex) : vNode e = ((eparts e.kind).2 && vName e.name (eparts e.kind).1.name && vOp e.op (eparts e.kind).1.op && decide ((eparts e.kind).1.leastN ≤ e.n) && decide (e.n ≤ (eparts e.kind).1.mostN) && decide ((e.l.length : Int) = (eparts e.kind).1.elements)) := rfl

set_option maxHeartbeats 4000000 in
set_option maxRecDepth 100000 in
theorem vnode_any (e : Ex) (v : Value) (w : World) (hv : ExsAt w v e.l) (hg : Glob w) : Calls Tryd.prog 85 #[exV e v] w (RetB w (vNode e)) := by
  obtain ⟨a, cp, rfl⟩ := hv.shape
  have HG := Lib.hid hg
  have HV := Lib.hid (vNode_eq e)
  clear hv hg
  have P := Lib.hid (CsT.new w (exC e (.slice a e.l.length cp)) 42)
  have B1 := Lib.hid (below1 w (.cells #[.int .i64 e.kind, .int .i64 e.n, .string e.name, .int .i64 e.op, .slice a e.l.length cp] 42))
  unfold exV
  unfold exC at P
  have p0 := P.out.at_.cell 0 _ rfl
  go_enter Tryd.func85, Tryd.ntmps85
  go_wp2_with fail
  generalize w.alloc (.cells #[.int .i64 e.kind, .int .i64 e.n, .string e.name, .int .i64 e.op, .slice a e.l.length cp] 42) = w1 at *
  refine (eparts_any e.kind w1).mono ?_
  rintro e' w2 ⟨rfl, hb⟩
  have B2 := Lib.hid (B1.out.then_' hb)
  have P2 := Lib.hid (P.out.below hb)
  clear p0 hb B1 P
  generalize eparts e.kind = pp at *
  obtain ⟨⟨p1, p2, p3, p4, p5⟩, ok⟩ := pp
  unfold epV
  simp only at HV ⊢
  have BP := Lib.hid (below1 w2 (.cells #[.bool p1, .bool p2, .int .i64 p3, .int .i64 p4, .int .i64 p5] 121))
  have B3 := Lib.hid (B2.out.then_' BP.out)
  have P3 := Lib.hid (P2.out.below BP.out).at_
  have Q3 := Lib.hid (CsT.new w2 [.bool p1, .bool p2, .int .i64 p3, .int .i64 p4, .int .i64 p5] 121).at_
  have x2 := P3.out.cell 2 _ rfl
  have q0 := Q3.out.cell 0 _ rfl
  clear P2 B2 BP
  cases ok with
  | false =>
    go_wp2_with fail
    go_ret
    exact retB (by rw [HV.out]; simp) B3.out
  | true =>
  go_wp2_with fail
  generalize w2.alloc (.cells #[.bool p1, .bool p2, .int .i64 p3, .int .i64 p4, .int .i64 p5] 121) = w3 at *
  refine (vname_any e.name p1 w3 (HG.out.below B3.out)).mono ?_
  rintro e' w4 ⟨rfl, hb⟩
  cases hx : vName e.name p1 with
  | false =>
    have HX3 := Lib.hid hx
    clear hx
    go_wp2_with fail
    go_ret
    exact retB (by rw [HV.out, HX3.out]; simp) (B3.out.then_' hb)
  | true =>
  have HX3 := Lib.hid hx
  have B4 := Lib.hid (B3.out.then_' hb)
  have P4 := Lib.hid (P3.out.below hb)
  have Q4 := Lib.hid (Q3.out.below hb)
  clear hx hb B3 P3 Q3 x2 q0
  have x3 := P4.out.cell 3 _ rfl
  have q1 := Q4.out.cell 1 _ rfl
  go_wp2_with fail
  refine (vop_any e.op p2 w4 (HG.out.below B4.out)).mono ?_
  rintro e' w5 ⟨rfl, hb⟩
  cases hx : vOp e.op p2 with
  | false =>
    have HX4 := Lib.hid hx
    clear hx
    go_wp2_with fail
    go_ret
    exact retB (by rw [HV.out, HX3.out, HX4.out]; simp) (B4.out.then_' hb)
  | true =>
  have HX4 := Lib.hid hx
  have B5 := Lib.hid (B4.out.then_' hb)
  have P5 := Lib.hid (P4.out.below hb)
  have Q5 := Lib.hid (Q4.out.below hb)
  clear hx hb B4 P4 Q4 x3 q1
  have x1 := P5.out.cell 1 _ rfl
  have x4 := P5.out.cell 4 _ rfl
  have q2 := Q5.out.cell 2 _ rfl
  have q3 := Q5.out.cell 3 _ rfl
  have q4 := Q5.out.cell 4 _ rfl
  by_cases h1 : p3 ≤ e.n
  · have H1 := Lib.hid (decide_eq_true h1)
    by_cases h2 : e.n ≤ p4
    · have H2 := Lib.hid (decide_eq_true h2)
      by_cases h3 : (e.l.length : Int) = p5
      · have q : ((e.l.length : Int) == p5) = true := by rw [beq_iff_eq]; exact h3
        have H3 := Lib.hid (decide_eq_true h3)
        clear h3
        go_wp2_with fail
        go_ret
        exact retB (by rw [HV.out, HX3.out, HX4.out, H1.out, H2.out, H3.out]; rfl) B5.out
      · have q : ((e.l.length : Int) == p5) = false := by rw [beq_eq_false_iff_ne]; exact h3
        have H3 := Lib.hid (decide_eq_false h3)
        clear h3
        go_wp2_with fail
        go_ret
        exact retB (by rw [HV.out, H3.out]; simp) B5.out
    · have H2 := Lib.hid (decide_eq_false h2)
      go_wp2_with fail
      go_ret
      exact retB (by rw [HV.out, H2.out]; simp) B5.out
  · have H1 := Lib.hid (decide_eq_false h1)
    go_wp2_with fail
    go_ret
    exact retB (by rw [HV.out, H1.out]; simp) B5.out
end Go.Proofs.YtilholgbepfopaaDoor
/- Vars (of the code). -/
namespace Go.Proofs.YtilholgbepfopaaDoor
open Go.RowKit

def fV (st : List ByteArray) (s : St) (_ : Nat) : List ByteArray := if (partsOf s.kind).name = true then addN st s.name else st
theorem sparts_name (k : Int) : (partsOf k).name = ((sparts k).2 && (sparts k).1.name) := by
  by_cases h1 : k = 1
  · subst h1; rfl
  by_cases h11 : k = 11
  · subst h11; rfl
  by_cases h2 : k = 2
  · subst h2; rfl
  by_cases h3 : k = 3
  · subst h3; rfl
  by_cases h4 : k = 4
  · subst h4; rfl
  by_cases h5 : k = 5
  · subst h5; rfl
  by_cases h6 : k = 6
  · subst h6; rfl
  by_cases h7 : k = 7
  · subst h7; rfl
  by_cases h8 : k = 8
  · subst h8; rfl
  by_cases h10 : k = 10
  · subst h10; rfl
  by_cases h9 : k = 9
  · subst h9; rfl
  by_cases h12 : k = 12
  · subst h12; rfl
  simp [partsOf, sparts, h1, h11, h2, h3, h4, h5, h6, h7, h8, h10, h9, h12]
mutual
theorem visV : ∀ (s : St) (st : List ByteArray) (d : Nat), vis fV st d s = walkS st s
  | .mk k nm fn n op es b e, st, d => by
    rw [vis, walkS, visVL b, visVL e]
    rfl
theorem visVL : ∀ (l : List St) (st : List ByteArray) (d : Nat), visL fV st d l = walkL st l
  | [], st, d => by rw [visL, walkL]
  | s :: l, st, d => by rw [visL, walkL, visV s, visVL l]
end
/-- the state while statements are visited: the list, at most c names -/
def RV (B0 nb : Nat) (c : Nat) (w : World) (l : List ByteArray) : Prop := ∃ a n c' mp, NSt w B0 nb a n c' mp l ∧ l.length ≤ c
theorem enter_vars (args : Array Value) (w : World) : (callFunc 39 args).run Tryd.prog w = .ok (.enter 39 args) w := call_enter Tryd.func39 (by kernel_rfl) (by kernel_rfl) args w
theorem stV_cells (s : St) (u x y : Value) (w : World) : CsT (w.alloc (.cells #[.int .i64 s.kind, .string s.name, .string s.fn, .int .i64 s.n, .int .i64 s.op, u, x, y] 40)) w.heap.size (stC s u x y) 40 := CsT.new w (stC s u x y) _

set_option maxHeartbeats 4000000 in
set_option maxRecDepth 100000 in
theorem vars1_ok (B0 nb B : Nat) (w0 : World) (hnb : nb < B) : SeeOK 39 #[.pointer (some ⟨nb, 0, none⟩)] (RV B0 nb) fV B (fun k => B0 ≤ k ∧ k < B) w0 := by
  intro c d s u x y l w hc hd hr _ _ _ _
  obtain ⟨a, n, c', mp, hst, hlen⟩ := hr
  have ST := Lib.hid hst
  have HL := Lib.hid hlen
  have B1 := Lib.hid (below1 w (.cells #[.int .i64 s.kind, .string s.name, .string s.fn, .int .i64 s.n, .int .i64 s.op, u, x, y] 40))
  have T := Lib.hid (stV_cells s u x y w)
  have t0 := T.out.at_.cell 0 _ rfl
  have hB0 : B0 ≤ w.heap.size := by have := hst.lo; have := hst.cs.lt; omega
  clear hst hlen
  unfold stV
  show Calls Tryd.prog 39 #[.agg #[.int .i64 s.kind, .string s.name, .string s.fn, .int .i64 s.n, .int .i64 s.op, u, x, y], .int .i64 (d : Int), .pointer (some ⟨nb, 0, none⟩)] w _
  go_enter Tryd.func39, Tryd.ntmps39
  go_wp2_with fail
  generalize w.alloc (.cells #[.int .i64 s.kind, .string s.name, .string s.fn, .int .i64 s.n, .int .i64 s.op, u, x, y] 40) = w1 at *
  refine (sparts_any s.kind w1).mono ?_
  rintro e w2 ⟨rfl, hb⟩
  have B2 := Lib.hid (B1.out.then_' hb)
  have T2 := Lib.hid (T.out.below hb)
  have HN := Lib.hid (sparts_name s.kind)
  clear t0 hb
  generalize sparts s.kind = pp at *
  obtain ⟨⟨p1, p2, p3, p4, p5, p6, p7, p8⟩, ok⟩ := pp
  unfold spV
  simp only at HN ⊢
  have BP := Lib.hid (below1 w2 (.cells #[.bool p1, .bool p2, .bool p3, .int .i64 p4, .int .i64 p5, .int .i64 p6, .bool p7, .bool p8] 67))
  have B3 := Lib.hid (B2.out.then_' BP.out)
  have t1 := (T2.out.below BP.out).at_.cell 1 _ rfl
  cases ok with
  | false =>
    have HF : Hid (fV l s d = l) := Lib.hid (by unfold fV; rw [HN.out]; simp)
    clear HN
    go_wp2_with fail
    go_end0
    exact ⟨rfl, ⟨a, n, c', mp, by rw [HF.out]; exact ST.out.below B3.out, by rw [HF.out]; have := HL.out; omega⟩, Fr.of_below B3.out⟩
  | true =>
    cases p1 with
    | false =>
      have HF : Hid (fV l s d = l) := Lib.hid (by unfold fV; rw [HN.out]; simp)
      clear HN
      go_wp2_with fail
      go_end0
      exact ⟨rfl, ⟨a, n, c', mp, by rw [HF.out]; exact ST.out.below B3.out, by rw [HF.out]; have := HL.out; omega⟩, Fr.of_below B3.out⟩
    | true =>
      have HF : Hid (fV l s d = addAll l [s.name]) := Lib.hid (by unfold fV; rw [HN.out]; rfl)
      clear HN
      go_wp2_with fail
      have hz : (w2.alloc (.cells #[.bool true, .bool p2, .bool p3, .int .i64 p4, .int .i64 p5, .int .i64 p6, .bool p7, .bool p8] 67)).heap.size = w2.heap.size + 1 := by simp
      generalize w2.alloc (.cells #[.bool true, .bool p2, .bool p3, .int .i64 p4, .int .i64 p5, .int .i64 p6, .bool p7, .bool p8] 67) = w3 at *
      rw [← hz]
      clear hz
      have hst3 := ST.out.below B3.out
      have hb4 := below1 w3 (.cells #[.string s.name] 9)
      have hst4 := hst3.below hb4
      have S4 := Lib.hid hst4
      have hB4 : B0 ≤ (w3.alloc (.cells #[.string s.name] 9)).heap.size := Nat.le_trans hB0 (Nat.le_trans B3.out.size hb4.size)
      refine (nadd_any B0 nb a n c' mp l [s.name] _ _ hst4 (nms_at1 w3 s.name) (fun b o q k e h => ?_) hB4 (by have := HL.out; simp; omega)).mono ?_
      · have h1 := (Value.slice.inj e).1
        have h2 := (World.ownsRow.lt hst3.own b h).2
        have h3 := (Addr.mk.inj (Option.some.inj h1)).1
        omega
      rintro e w5 ⟨a5, n5, c5, mp5, rfl, hst5, hg5⟩
      have S5 := Lib.hid hst5
      have F5 := Lib.hid ((Fr.of_below (B3.out.then_' hb4)).trans (S4.out.fr hnb hg5))
      have HLN : Hid ((addAll l [s.name]).length ≤ c + 1) := Lib.hid (by have h1 := addAll_len l [s.name]; have h2 := HL.out; simp at h1; omega)
      clear hst3 hb4 hst4 hB4 hst5 hg5
      go_wp2
      go_end0
      exact ⟨rfl, ⟨a5, n5, c5, mp5, by rw [HF.out]; exact S5.out, by rw [HF.out]; exact HLN.out⟩, F5.out⟩
end Go.Proofs.YtilholgbepfopaaDoor
