/- A program that comes in. -/
import Derived.Test.YtilholgbepfopaaDoorSGlob
import Derived.Test.YtilholgbepfopaaDoorSOwn
import Derived.Deep.Slices
namespace Go.Proofs.YtilholgbepfopaaDoor
open Go.RowKit Go.ChangeShapes Go.WideShapes

theorem bulk_pos {H : Type} (d : DataW H) : 1 ≤ Rows.uptoBulk d := by
  cases d with
  | lit l => cases l <;> simp [Rows.uptoBulk]
  | _ => simp [Rows.uptoBulk]
theorem bulkAll_append {H : Type} (l m : List (DataW H)) : Rows.uptoBulkAll (l ++ m) = Rows.uptoBulkAll l + Rows.uptoBulkAll m := by
  induction l with
  | nil => simp [Rows.uptoBulkAll]
  | cons x l ih => simp only [List.cons_append, Rows.uptoBulkAll, ih]; omega
theorem bulkAll_mem {H : Type} {l : List (DataW H)} {d : DataW H} (h : d ∈ l) : Rows.uptoBulk d ≤ Rows.uptoBulkAll l := by
  induction l with
  | nil => cases h
  | cons x l ih =>
    simp only [Rows.uptoBulkAll]
    rcases List.mem_cons.1 h with rfl | h
    · omega
    · have := ih h; omega
mutual
/-- no name of a tree is longer than this -/
def okE (B : Nat) : Ex → Prop
  | .mk _ _ nm _ l => nm.size ≤ B ∧ okEL B l
def okEL (B : Nat) : List Ex → Prop
  | [] => True
  | e :: l => okE B e ∧ okEL B l
end
mutual
def okS (B : Nat) : St → Prop
  | .mk _ nm fn _ _ es b e => nm.size ≤ B ∧ fn.size ≤ B ∧ okEL B es ∧ okSL B b ∧ okSL B e
def okSL (B : Nat) : List St → Prop
  | [] => True
  | s :: l => okS B s ∧ okSL B l
end
def okF (B : Nat) (f : Fn) : Prop := f.name.size ≤ B ∧ (∀ s ∈ f.params, s.size ≤ B) ∧ okSL B f.body
def okFL (B : Nat) : List Fn → Prop
  | [] => True
  | f :: l => okF B f ∧ okFL B l
/-- cells of a slice of structs, from each one's -/
theorem sl_flat {w : World} {a : Addr} {len cap sz : Nat} (hs : 0 < sz) (hl : len ≤ cap) (css : List (List Value)) (hc : css.length = len) (h5 : ∀ c ∈ css, c.length = sz) (h : ∀ i c, css[i]? = some c → ∀ j u, c[j]? = some u → w.cell? (a.add (i * sz + j)) = some u) :
    SlAt w sz (.slice (some a) len cap) len css.flatten := by
  refine .inr ⟨a, cap, rfl, hl, by rw [flatten_len h5, hc], fun j u hj => ?_⟩
  have hjl : j < css.length * sz := by
    have := (List.getElem?_eq_some_iff.1 hj).1
    rwa [flatten_len h5] at this
  have hk : j / sz < css.length := Nat.div_lt_of_lt_mul (by rw [Nat.mul_comm]; exact hjl)
  have hm := Nat.mod_lt j hs
  have e0 : j / sz * sz + j % sz = j := by rw [Nat.mul_comm]; exact Nat.div_add_mod j sz
  have hcc : css[j / sz]? = some css[j / sz] := List.getElem?_eq_getElem hk
  have := h _ _ hcc (j % sz) u (by rw [← flatten_at h5 hcc hm, e0]; exact hj)
  rwa [e0] at this
section
variable {H : Type} {enc : TypeId × Value → H} {w : World} {base : Nat} {spare : Nat → Bool} {held : Bool}
theorem trod_s5 {P : Program} {t : TypeId} {f0 f1 f2 f3 f4 : Field} {fuel : Nat} {cs : List Value} {x : DataW H × List MemPlace} (ht : P.underlying t = some (.struct #[f0, f1, f2, f3, f4])) (h : DataW.trod enc P w base spare held fuel t cs = some x) :
    ∃ y0 y1 y2 y3 y4 n, x.1 = .agg [y0.1, y1.1, y2.1, y3.1, y4.1] ∧ cs.length = P.cellsOf t ∧ DataW.trod enc P w base spare held n f0.type ((cs.drop f0.offset).take (P.cellsOf f0.type)) = some y0 ∧ DataW.trod enc P w base spare held n f1.type ((cs.drop f1.offset).take (P.cellsOf f1.type)) = some y1 ∧ DataW.trod enc P w base spare held n f2.type ((cs.drop f2.offset).take (P.cellsOf f2.type)) = some y2 ∧ DataW.trod enc P w base spare held n f3.type ((cs.drop f3.offset).take (P.cellsOf f3.type)) = some y3 ∧ DataW.trod enc P w base spare held n f4.type ((cs.drop f4.offset).take (P.cellsOf f4.type)) = some y4 := by
  obtain ⟨xs, n, _, rfl, hl, hlen, hf⟩ := DataW.trod_struct ht h
  match xs, hlen with
  | [y0, y1, y2, y3, y4], _ => exact ⟨y0, y1, y2, y3, y4, n, by simp, hl, by simpa using hf 0 f0 rfl, by simpa using hf 1 f1 rfl, by simpa using hf 2 f2 rfl, by simpa using hf 3 f3 rfl, by simpa using hf 4 f4 rfl⟩
theorem trod_s3 {P : Program} {t : TypeId} {f0 f1 f2 : Field} {fuel : Nat} {cs : List Value} {x : DataW H × List MemPlace} (ht : P.underlying t = some (.struct #[f0, f1, f2])) (h : DataW.trod enc P w base spare held fuel t cs = some x) :
    ∃ y0 y1 y2 n, x.1 = .agg [y0.1, y1.1, y2.1] ∧ cs.length = P.cellsOf t ∧ DataW.trod enc P w base spare held n f0.type ((cs.drop f0.offset).take (P.cellsOf f0.type)) = some y0 ∧ DataW.trod enc P w base spare held n f1.type ((cs.drop f1.offset).take (P.cellsOf f1.type)) = some y1 ∧ DataW.trod enc P w base spare held n f2.type ((cs.drop f2.offset).take (P.cellsOf f2.type)) = some y2 := by
  obtain ⟨xs, n, _, rfl, hl, hlen, hf⟩ := DataW.trod_struct ht h
  match xs, hlen with
  | [y0, y1, y2], _ => exact ⟨y0, y1, y2, n, by simp, hl, by simpa using hf 0 f0 rfl, by simpa using hf 1 f1 rfl, by simpa using hf 2 f2 rfl⟩
theorem trod_s8 {P : Program} {t : TypeId} {f0 f1 f2 f3 f4 f5 f6 f7 : Field} {fuel : Nat} {cs : List Value} {x : DataW H × List MemPlace} (ht : P.underlying t = some (.struct #[f0, f1, f2, f3, f4, f5, f6, f7])) (h : DataW.trod enc P w base spare held fuel t cs = some x) :
    ∃ y0 y1 y2 y3 y4 y5 y6 y7 n, x.1 = .agg [y0.1, y1.1, y2.1, y3.1, y4.1, y5.1, y6.1, y7.1] ∧ cs.length = P.cellsOf t ∧ DataW.trod enc P w base spare held n f0.type ((cs.drop f0.offset).take (P.cellsOf f0.type)) = some y0 ∧ DataW.trod enc P w base spare held n f1.type ((cs.drop f1.offset).take (P.cellsOf f1.type)) = some y1 ∧ DataW.trod enc P w base spare held n f2.type ((cs.drop f2.offset).take (P.cellsOf f2.type)) = some y2 ∧ DataW.trod enc P w base spare held n f3.type ((cs.drop f3.offset).take (P.cellsOf f3.type)) = some y3 ∧ DataW.trod enc P w base spare held n f4.type ((cs.drop f4.offset).take (P.cellsOf f4.type)) = some y4 ∧ DataW.trod enc P w base spare held n f5.type ((cs.drop f5.offset).take (P.cellsOf f5.type)) = some y5 ∧ DataW.trod enc P w base spare held n f6.type ((cs.drop f6.offset).take (P.cellsOf f6.type)) = some y6 ∧ DataW.trod enc P w base spare held n f7.type ((cs.drop f7.offset).take (P.cellsOf f7.type)) = some y7 := by
  obtain ⟨xs, n, _, rfl, hl, hlen, hf⟩ := DataW.trod_struct ht h
  match xs, hlen with
  | [y0, y1, y2, y3, y4, y5, y6, y7], _ => exact ⟨y0, y1, y2, y3, y4, y5, y6, y7, n, by simp, hl, by simpa using hf 0 f0 rfl, by simpa using hf 1 f1 rfl, by simpa using hf 2 f2 rfl, by simpa using hf 3 f3 rfl, by simpa using hf 4 f4 rfl, by simpa using hf 5 f5 rfl, by simpa using hf 6 f6 rfl, by simpa using hf 7 f7 rfl⟩

/-- cells that stand in memory, one by one -/
theorem cells_at {a : Addr} {i sz : Nat} {cs : List Value} (h : w.cells? base (a.add (i * sz)) sz = some cs) : cs.length = sz ∧ ∀ j u, cs[j]? = some u → w.cell? (a.add (i * sz + j)) = some u := by
  obtain ⟨_, h1, hat⟩ := World.cells?_some h
  refine ⟨h1, fun j u hj => ?_⟩
  have hlt : j < sz := by have := (List.getElem?_eq_some_iff.1 hj).1; omega
  have := hat j hlt
  rw [Deep.add_add, hj] at this
  exact this

/-- a slice, opened at every index: each element with its cells and what is told of it -/
theorem open_sl {t e : TypeId} {sz : Nat} (ht : Tryd.prog.underlying t = some (.slice e)) (hC : Tryd.prog.cellsOf e = sz) (hs : 0 < sz) {α : Type} [Inhabited α] (Q : α → List Value → DataW H → Prop) (M : Nat)
    (hel : ∀ (n : Nat) (cs : List Value) (x : DataW H × List MemPlace), Rows.uptoBulk x.1 + 1 ≤ M → DataW.trod enc Tryd.prog w base spare held n e cs = some x → ∃ a, Q a cs x.1)
    {fuel : Nat} {cs : List Value} {x : DataW H × List MemPlace} (h : DataW.trod enc Tryd.prog w base spare held fuel t cs = some x) (hb : Rows.uptoBulk x.1 ≤ M) :
    ∃ (ad : Option Addr) (c : Nat) (T : List (α × List Value × DataW H)), cs = [.slice ad T.length c] ∧ SlAt w sz (.slice ad T.length c) T.length (T.map (·.2.1)).flatten ∧ (∀ t ∈ T, Q t.1 t.2.1 t.2.2) ∧ (∀ t ∈ T, t.2.1.length = sz) ∧ Rows.uptoBulkAll (T.map (·.2.2)) + 1 ≤ Rows.uptoBulk x.1 := by
  rcases Deep.open_slice ht h with ⟨rfl, hx⟩ | ⟨a, len, cap, m, n, D, Pl, rfl, _, hl, _, hm, hx, hat⟩
  · exact ⟨none, 0, [], rfl, .inl ⟨rfl, rfl, rfl⟩, by simp, by simp, by rw [hx]; simp [Rows.uptoBulk, Rows.uptoBulkAll]⟩
  · have hlm : len ≤ m := by rw [hm]; split <;> omega
    have hxb : Rows.uptoBulkAll ((List.range len).map D) + 1 ≤ Rows.uptoBulk x.1 := by rw [hx]; simp only [Rows.uptoBulk]; omega
    have hD : ∀ i, i < len → Rows.uptoBulk (D i) + 1 ≤ M := fun i hi => by
      have := bulkAll_mem (List.mem_map.2 ⟨i, List.mem_range.2 hi, rfl⟩ : D i ∈ (List.range len).map D)
      omega
    obtain ⟨F, hF⟩ := Deep.choose_lt (α := α × List Value) (n := len) (p := fun i y => Q y.1 y.2 (D i) ∧ y.2.length = sz ∧ ∀ j u, y.2[j]? = some u → w.cell? (a.add (i * sz + j)) = some u) (fun i hi => by
      obtain ⟨cs', h1, h2⟩ := hat i (by omega)
      rw [hC] at h1
      obtain ⟨h3, h4⟩ := cells_at h1
      obtain ⟨y, hy⟩ := hel n cs' (D i, Pl i) (hD i hi) h2
      exact ⟨(y, cs'), hy, h3, h4⟩)
    have hT : ((List.range len).map fun i => ((F i).1, (F i).2, D i)).length = len := by simp
    refine ⟨some a, cap, (List.range len).map fun i => ((F i).1, (F i).2, D i), by rw [hT], ?_, ?_, ?_, ?_⟩
    · rw [hT]
      refine sl_flat hs hl _ (by simp) ?_ ?_
      · intro c hc
        simp only [List.map_map, List.mem_map, List.mem_range, Function.comp] at hc
        obtain ⟨i, hi, rfl⟩ := hc
        exact (hF i hi).2.1
      · intro i c hc j u hj
        rw [List.map_map, List.getElem?_map] at hc
        rcases Nat.lt_or_ge i len with hi | hi
        · rw [List.getElem?_range hi] at hc
          obtain rfl := Option.some.inj hc
          exact (hF i hi).2.2 j u hj
        · rw [List.getElem?_eq_none (by simpa using hi)] at hc
          cases hc
    · intro t ht
      obtain ⟨i, hi, rfl⟩ := List.mem_map.1 ht
      exact (hF i (List.mem_range.1 hi)).1
    · intro t ht
      obtain ⟨i, hi, rfl⟩ := List.mem_map.1 ht
      exact (hF i (List.mem_range.1 hi)).2.1
    · rw [List.map_map]
      exact hxb
theorem five {cs : List Value} (hl : cs.length = 5) {u0 u1 u2 u3 u4 : Value} (e0 : (cs.drop 0).take 1 = [u0]) (e1 : (cs.drop 1).take 1 = [u1]) (e2 : (cs.drop 2).take 1 = [u2]) (e3 : (cs.drop 3).take 1 = [u3]) (e4 : (cs.drop 4).take 1 = [u4]) : cs = [u0, u1, u2, u3, u4] := by
  match cs, hl with
  | [c0, c1, c2, c3, c4], _ => simp at e0 e1 e2 e3 e4; rw [e0, e1, e2, e3, e4]
theorem eight {cs : List Value} (hl : cs.length = 8) {u0 u1 u2 u3 u4 u5 u6 u7 : Value} (e0 : (cs.drop 0).take 1 = [u0]) (e1 : (cs.drop 1).take 1 = [u1]) (e2 : (cs.drop 2).take 1 = [u2]) (e3 : (cs.drop 3).take 1 = [u3]) (e4 : (cs.drop 4).take 1 = [u4])
    (e5 : (cs.drop 5).take 1 = [u5]) (e6 : (cs.drop 6).take 1 = [u6]) (e7 : (cs.drop 7).take 1 = [u7]) : cs = [u0, u1, u2, u3, u4, u5, u6, u7] := by
  match cs, hl with
  | [c0, c1, c2, c3, c4, c5, c6, c7], _ => simp at e0 e1 e2 e3 e4 e5 e6 e7; rw [e0, e1, e2, e3, e4, e5, e6, e7]
theorem three {cs : List Value} (hl : cs.length = 3) {u0 u1 u2 : Value} (e0 : (cs.drop 0).take 1 = [u0]) (e1 : (cs.drop 1).take 1 = [u1]) (e2 : (cs.drop 2).take 1 = [u2]) : cs = [u0, u1, u2] := by
  match cs, hl with
  | [c0, c1, c2], _ => simp at e0 e1 e2; rw [e0, e1, e2]
instance : Inhabited Ex := ⟨.mk 0 0 ⟨#[]⟩ 0 []⟩
instance : Inhabited St := ⟨.mk 0 ⟨#[]⟩ ⟨#[]⟩ 0 0 [] [] []⟩
instance : Inhabited Fn := ⟨⟨⟨#[]⟩, [], []⟩⟩
theorem c_int : Tryd.prog.cellsOf 3 = 1 := by kernel_rfl
theorem c_i64 : Tryd.prog.cellsOf 2 = 1 := by kernel_rfl
theorem c_str : Tryd.prog.cellsOf 9 = 1 := by kernel_rfl
theorem c_exs : Tryd.prog.cellsOf 38 = 1 := by kernel_rfl
theorem c_sts : Tryd.prog.cellsOf 33 = 1 := by kernel_rfl
theorem c_nms : Tryd.prog.cellsOf 32 = 1 := by kernel_rfl
theorem c_fns : Tryd.prog.cellsOf 24 = 1 := by kernel_rfl
/-- an expression's cells and what is told of it -/
def QE (w : World) (B : Nat) (e : Ex) (cs : List Value) (d : DataW H) : Prop := ExAt w e cs ∧ e.sz ≤ Rows.uptoBulk d ∧ okE B e
theorem exl_of {B : Nat} {T : List (Ex × List Value × DataW H)} (h : ∀ t ∈ T, QE w B t.1 t.2.1 t.2.2) : ExL w (T.map (·.1)) (T.map (·.2.1)) ∧ szE (T.map (·.1)) ≤ Rows.uptoBulkAll (T.map (·.2.2)) ∧ okEL B (T.map (·.1)) := by
  induction T with
  | nil => simp [ExL, szE, okEL]
  | cons t T ih =>
    obtain ⟨h1, h2, h3⟩ := ih (fun x hx => h x (List.mem_cons_of_mem _ hx))
    obtain ⟨h4, h5, h6⟩ := h t (List.mem_cons_self ..)
    simp only [List.map_cons]
    refine ⟨?_, ?_, ?_⟩
    · unfold ExL; exact ⟨_, _, rfl, h4, h1⟩
    · unfold szE; simp only [Rows.uptoBulkAll]; omega
    · unfold okEL; exact ⟨h6, h3⟩
theorem open_es_of {M B : Nat} (hel : ∀ (n : Nat) (cs : List Value) (x : DataW H × List MemPlace), Rows.uptoBulk x.1 + 1 ≤ M → DataW.trod enc Tryd.prog w base spare held n 42 cs = some x → ∃ e, QE w B e cs x.1)
    {fuel : Nat} {cs : List Value} {x : DataW H × List MemPlace} (h : DataW.trod enc Tryd.prog w base spare held fuel 38 cs = some x) (hb : Rows.uptoBulk x.1 ≤ M) : ∃ v l, cs = [v] ∧ ExsAt w v l ∧ szE l + 1 ≤ Rows.uptoBulk x.1 ∧ okEL B l := by
  obtain ⟨ad, c, T, e1, h1, h2, h3, h4⟩ := open_sl Tryd.underlying38 (show Tryd.prog.cellsOf 42 = 5 by kernel_rfl) (by decide) (fun e cs d => QE w B e cs d) M hel h hb
  obtain ⟨h5, h6, h7⟩ := exl_of h2
  refine ⟨_, T.map (·.1), e1, ⟨_, ?_, h5⟩, by omega, h7⟩
  rw [List.length_map]
  exact h1
theorem open_E (B m : Nat) (hB : m ≤ B) : ∀ (fuel : Nat) (cs : List Value) (x : DataW H × List MemPlace), Rows.uptoBulk x.1 ≤ m → DataW.trod enc Tryd.prog w base spare held fuel 42 cs = some x → ∃ e, QE w B e cs x.1 := by
  induction m with
  | zero => intro _ _ x h; have := bulk_pos x.1; omega
  | succ m ih =>
    intro fuel cs x hm h
    obtain ⟨y0, y1, y2, y3, y4, n, hx, hl, h0, h1, h2, h3, h4⟩ := trod_s5 Tryd.underlying42 h
    obtain ⟨k, e0, d0, _⟩ := DataW.trod_int Tryd.underlying3 h0
    obtain ⟨i, e1, d1, _⟩ := DataW.trod_int Tryd.underlying2 h1
    obtain ⟨s, e2, d2, _⟩ := DataW.trod_string Tryd.underlying9 h2
    obtain ⟨o, e3, d3, _⟩ := DataW.trod_int Tryd.underlying3 h3
    rw [c_int] at e0 e3
    rw [c_i64] at e1
    rw [c_str] at e2
    have hb : Rows.uptoBulk x.1 = Rows.uptoBulk y0.1 + (Rows.uptoBulk y1.1 + (Rows.uptoBulk y2.1 + (Rows.uptoBulk y3.1 + Rows.uptoBulk y4.1))) + 1 := by rw [hx]; simp only [Rows.uptoBulk, Rows.uptoBulkAll, Nat.add_zero]
    have hs : s.size + 1 ≤ Rows.uptoBulk y2.1 := by rw [d2]; simp [Rows.uptoBulk]
    obtain ⟨v, l, e4, hv, hz, hok⟩ := open_es_of (M := m) (B := B) (fun n cs x hx h => ih (by omega) n cs x (by omega) h) h4 (by have := bulk_pos y0.1; omega)
    rw [c_exs] at e4
    refine ⟨.mk k i s o l, ?_, ?_, ?_⟩
    · rw [five (hl.trans (by kernel_rfl)) e0 e1 e2 e3 e4]
      unfold ExAt
      exact ⟨v, rfl, hv⟩
    · rw [Ex.sz]; omega
    · unfold okE; exact ⟨by omega, hok⟩
theorem open_es (B m : Nat) (hB : m ≤ B) {fuel : Nat} {cs : List Value} {x : DataW H × List MemPlace} (hm : Rows.uptoBulk x.1 ≤ m) (h : DataW.trod enc Tryd.prog w base spare held fuel 38 cs = some x) : ∃ v l, cs = [v] ∧ ExsAt w v l ∧ szE l + 1 ≤ Rows.uptoBulk x.1 ∧ okEL B l :=
  open_es_of (fun n cs x hx h => open_E B m hB n cs x (by omega) h) h hm
/-- a statement's cells and what is told of it -/
def QS (w : World) (B : Nat) (s : St) (cs : List Value) (d : DataW H) : Prop := StAt w s cs ∧ s.sz ≤ Rows.uptoBulk d ∧ okS B s
theorem stl_of {B : Nat} {T : List (St × List Value × DataW H)} (h : ∀ t ∈ T, QS w B t.1 t.2.1 t.2.2) : StL w (T.map (·.1)) (T.map (·.2.1)) ∧ szS (T.map (·.1)) ≤ Rows.uptoBulkAll (T.map (·.2.2)) ∧ okSL B (T.map (·.1)) := by
  induction T with
  | nil => simp [StL, szS, okSL]
  | cons t T ih =>
    obtain ⟨h1, h2, h3⟩ := ih (fun x hx => h x (List.mem_cons_of_mem _ hx))
    obtain ⟨h4, h5, h6⟩ := h t (List.mem_cons_self ..)
    simp only [List.map_cons]
    refine ⟨?_, ?_, ?_⟩
    · unfold StL; exact ⟨_, _, rfl, h4, h1⟩
    · unfold szS; simp only [Rows.uptoBulkAll]; omega
    · unfold okSL; exact ⟨h6, h3⟩
theorem open_ss_of {M B : Nat} (hel : ∀ (n : Nat) (cs : List Value) (x : DataW H × List MemPlace), Rows.uptoBulk x.1 + 1 ≤ M → DataW.trod enc Tryd.prog w base spare held n 40 cs = some x → ∃ s, QS w B s cs x.1)
    {fuel : Nat} {cs : List Value} {x : DataW H × List MemPlace} (h : DataW.trod enc Tryd.prog w base spare held fuel 33 cs = some x) (hb : Rows.uptoBulk x.1 ≤ M) : ∃ v l, cs = [v] ∧ StsAt w v l ∧ szS l + 1 ≤ Rows.uptoBulk x.1 ∧ okSL B l := by
  obtain ⟨ad, c, T, e1, h1, h2, h3, h4⟩ := open_sl Tryd.underlying33 (show Tryd.prog.cellsOf 40 = 8 by kernel_rfl) (by decide) (fun e cs d => QS w B e cs d) M hel h hb
  obtain ⟨h5, h6, h7⟩ := stl_of h2
  refine ⟨_, T.map (·.1), e1, ⟨_, ?_, h5⟩, by omega, h7⟩
  rw [List.length_map]
  exact h1
theorem open_S (B m : Nat) (hB : m ≤ B) : ∀ (fuel : Nat) (cs : List Value) (x : DataW H × List MemPlace), Rows.uptoBulk x.1 ≤ m → DataW.trod enc Tryd.prog w base spare held fuel 40 cs = some x → ∃ s, QS w B s cs x.1 := by
  induction m with
  | zero => intro _ _ x h; have := bulk_pos x.1; omega
  | succ m ih =>
    intro fuel cs x hm h
    obtain ⟨y0, y1, y2, y3, y4, y5, y6, y7, n, hx, hl, h0, h1, h2, h3, h4, h5, h6, h7⟩ := trod_s8 Tryd.underlying40 h
    obtain ⟨k, e0, d0, _⟩ := DataW.trod_int Tryd.underlying3 h0
    obtain ⟨s, e1, d1, _⟩ := DataW.trod_string Tryd.underlying9 h1
    obtain ⟨f, e2, d2, _⟩ := DataW.trod_string Tryd.underlying9 h2
    obtain ⟨i, e3, d3, _⟩ := DataW.trod_int Tryd.underlying2 h3
    obtain ⟨o, e4, d4, _⟩ := DataW.trod_int Tryd.underlying3 h4
    rw [c_int] at e0 e4
    rw [c_i64] at e3
    rw [c_str] at e1 e2
    have hb : Rows.uptoBulk x.1 = Rows.uptoBulk y0.1 + (Rows.uptoBulk y1.1 + (Rows.uptoBulk y2.1 + (Rows.uptoBulk y3.1 + (Rows.uptoBulk y4.1 + (Rows.uptoBulk y5.1 + (Rows.uptoBulk y6.1 + Rows.uptoBulk y7.1)))))) + 1 := by rw [hx]; simp only [Rows.uptoBulk, Rows.uptoBulkAll, Nat.add_zero]
    have hs : s.size + 1 ≤ Rows.uptoBulk y1.1 := by rw [d1]; simp [Rows.uptoBulk]
    have hf : f.size + 1 ≤ Rows.uptoBulk y2.1 := by rw [d2]; simp [Rows.uptoBulk]
    obtain ⟨v5, l5, e5, hv5, hz5, hok5⟩ := open_es B B (Nat.le_refl _) (by omega) h5
    obtain ⟨v6, l6, e6, hv6, hz6, hok6⟩ := open_ss_of (M := m) (B := B) (fun n cs x hx h => ih (by omega) n cs x (by omega) h) h6 (by have := bulk_pos y0.1; omega)
    obtain ⟨v7, l7, e7, hv7, hz7, hok7⟩ := open_ss_of (M := m) (B := B) (fun n cs x hx h => ih (by omega) n cs x (by omega) h) h7 (by have := bulk_pos y0.1; omega)
    rw [c_exs] at e5
    rw [c_sts] at e6 e7
    refine ⟨.mk k s f i o l5 l6 l7, ?_, ?_, ?_⟩
    · rw [eight (hl.trans (by kernel_rfl)) e0 e1 e2 e3 e4 e5 e6 e7]
      unfold StAt
      exact ⟨v5, v6, v7, rfl, hv5, hv6, hv7⟩
    · rw [St.sz]; omega
    · unfold okS; exact ⟨by omega, by omega, hok5, hok6, hok7⟩
theorem open_ss (B m : Nat) (hB : m ≤ B) {fuel : Nat} {cs : List Value} {x : DataW H × List MemPlace} (hm : Rows.uptoBulk x.1 ≤ m) (h : DataW.trod enc Tryd.prog w base spare held fuel 33 cs = some x) : ∃ v l, cs = [v] ∧ StsAt w v l ∧ szS l + 1 ≤ Rows.uptoBulk x.1 ∧ okSL B l :=
  open_ss_of (fun n cs x hx h => open_S B m hB n cs x (by omega) h) h hm
theorem nms_of {T : List (ByteArray × List Value × DataW H)} (h : ∀ t ∈ T, t.2.1 = [Value.string t.1] ∧ t.1.size + 1 ≤ Rows.uptoBulk t.2.2) : (T.map (·.2.1)).flatten = (T.map (·.1)).map Value.string ∧ T.length ≤ Rows.uptoBulkAll (T.map (·.2.2)) ∧ ∀ s ∈ T.map (·.1), s.size + 1 ≤ Rows.uptoBulkAll (T.map (·.2.2)) := by
  induction T with
  | nil => simp
  | cons t T ih =>
    obtain ⟨h1, h2, h3⟩ := ih (fun x hx => h x (List.mem_cons_of_mem _ hx))
    obtain ⟨h4, h5⟩ := h t (List.mem_cons_self ..)
    simp only [List.map_cons, List.flatten_cons, List.length_cons, Rows.uptoBulkAll]
    refine ⟨by rw [h4, h1]; rfl, by omega, fun s hs => ?_⟩
    rcases List.mem_cons.1 hs with rfl | hs
    · omega
    · have := h3 s hs; omega
theorem open_ns (B : Nat) {fuel : Nat} {cs : List Value} {x : DataW H × List MemPlace} (hm : Rows.uptoBulk x.1 ≤ B) (h : DataW.trod enc Tryd.prog w base spare held fuel 32 cs = some x) : ∃ v l, cs = [v] ∧ NmsAt w v l ∧ l.length + 1 ≤ Rows.uptoBulk x.1 ∧ ∀ s ∈ l, s.size ≤ B := by
  obtain ⟨ad, c, T, e1, h1, h2, h3, h4⟩ := open_sl (α := ByteArray) Tryd.underlying32 (show Tryd.prog.cellsOf 9 = 1 by kernel_rfl) (by decide) (fun s cs d => cs = [Value.string s] ∧ s.size + 1 ≤ Rows.uptoBulk d) B (fun n cs x _ h => by
    have hl := DataW.trod_string Tryd.underlying9 h
    obtain ⟨s, e, d, _⟩ := hl
    exact ⟨s, e, by rw [d]; simp [Rows.uptoBulk]⟩) h hm
  obtain ⟨h5, h6, h7⟩ := nms_of h2
  refine ⟨_, T.map (·.1), e1, ?_, by rw [List.length_map]; omega, fun s hs => by have := h7 s hs; omega⟩
  unfold NmsAt
  rw [List.length_map, ← h5]
  exact h1
def QF (w : World) (B : Nat) (f : Fn) (cs : List Value) (d : DataW H) : Prop := FnAt w f cs ∧ szF f ≤ Rows.uptoBulk d ∧ okF B f
theorem fnl_of {B : Nat} {T : List (Fn × List Value × DataW H)} (h : ∀ t ∈ T, QF w B t.1 t.2.1 t.2.2) : FnL w (T.map (·.1)) (T.map (·.2.1)) ∧ szP (T.map (·.1)) ≤ Rows.uptoBulkAll (T.map (·.2.2)) ∧ okFL B (T.map (·.1)) := by
  induction T with
  | nil => simp [FnL, szP, okFL]
  | cons t T ih =>
    obtain ⟨h1, h2, h3⟩ := ih (fun x hx => h x (List.mem_cons_of_mem _ hx))
    obtain ⟨h4, h5, h6⟩ := h t (List.mem_cons_self ..)
    simp only [List.map_cons]
    refine ⟨?_, ?_, ?_⟩
    · unfold FnL; exact ⟨_, _, rfl, h4, h1⟩
    · unfold szP; simp only [Rows.uptoBulkAll]; omega
    · unfold okFL; exact ⟨h6, h3⟩
theorem open_F (B : Nat) : ∀ (fuel : Nat) (cs : List Value) (x : DataW H × List MemPlace), Rows.uptoBulk x.1 ≤ B → DataW.trod enc Tryd.prog w base spare held fuel 35 cs = some x → ∃ f, QF w B f cs x.1 := by
  intro fuel cs x hm h
  obtain ⟨y0, y1, y2, n, hx, hl, h0, h1, h2⟩ := trod_s3 Tryd.underlying35 h
  obtain ⟨s, e0, d0, _⟩ := DataW.trod_string Tryd.underlying9 h0
  rw [c_str] at e0
  have hb : Rows.uptoBulk x.1 = Rows.uptoBulk y0.1 + (Rows.uptoBulk y1.1 + Rows.uptoBulk y2.1) + 1 := by rw [hx]; simp only [Rows.uptoBulk, Rows.uptoBulkAll, Nat.add_zero]
  have hs : s.size + 1 ≤ Rows.uptoBulk y0.1 := by rw [d0]; simp [Rows.uptoBulk]
  obtain ⟨v1, l1, e1, hv1, hz1, hok1⟩ := open_ns B (by omega) h1
  obtain ⟨v2, l2, e2, hv2, hz2, hok2⟩ := open_ss B B (Nat.le_refl _) (by omega) h2
  rw [c_nms] at e1
  rw [c_sts] at e2
  refine ⟨⟨s, l1, l2⟩, ?_, ?_, ?_⟩
  · rw [three (hl.trans (by kernel_rfl)) e0 e1 e2]
    exact ⟨v1, v2, rfl, hv1, hv2⟩
  · unfold szF; simp only; omega
  · exact ⟨by simp only; omega, hok1, hok2⟩
theorem open_fs (B : Nat) {fuel : Nat} {cs : List Value} {x : DataW H × List MemPlace} (h : DataW.trod enc Tryd.prog w base spare held fuel 24 cs = some x) (hb : Rows.uptoBulk x.1 ≤ B) : ∃ v l, cs = [v] ∧ FnsAt w v l ∧ szP l + 1 ≤ Rows.uptoBulk x.1 ∧ okFL B l := by
  obtain ⟨ad, c, T, e1, h1, h2, h3, h4⟩ := open_sl Tryd.underlying24 (show Tryd.prog.cellsOf 35 = 3 by kernel_rfl) (by decide) (fun e cs d => QF w B e cs d) B (fun n cs x hx h => open_F B n cs x (by omega) h) h hb
  obtain ⟨h5, h6, h7⟩ := fnl_of h2
  refine ⟨_, T.map (·.1), e1, ⟨_, ?_, h5⟩, by omega, h7⟩
  rw [List.length_map]
  exact h1
end
section
variable {H : Type} {enc : TypeId × Value → H} {W : World} {v : Value} {d : DataW H} {p : List MemPlace} {r : Reach} {b0 : Nat}
set_option maxRecDepth 100000 in
theorem in_program (B : Nat) (hv : Value.okWide Tryd.prog W r b0 26 v) (h : DataW.Trod enc Tryd.prog W 0 (fun _ => true) true 26 v d p) (hb : Rows.uptoBulk d ≤ B) : ∃ (u : Value) (l : List Fn), v = .agg #[u] ∧ FnsAt W u l ∧ szP l ≤ Rows.uptoBulk d ∧ okFL B l := by
  obtain ⟨cs, rfl, hsz⟩ := okWide_struct Tryd.underlying26 hv
  have hsz1 : cs.size = 1 := hsz.trans (by kernel_rfl)
  obtain ⟨fuel, h⟩ := h
  obtain ⟨y0, n, e, _, h0⟩ := trod_struct1 Tryd.underlying26 h
  obtain ⟨hd, _⟩ := Prod.mk.inj e
  have hbb : Rows.uptoBulk d = Rows.uptoBulk y0.1 + 1 := by rw [hd]; simp only [Rows.uptoBulk, Rows.uptoBulkAll, Nat.add_zero]
  obtain ⟨u, l, e1, ho, hz, hok⟩ := open_fs B h0 (by omega)
  obtain ⟨L⟩ := cs
  match L, hsz1 with
  | [c], _ =>
    rw [c_fns] at e1
    simp [Value.cells] at e1
    subst e1
    exact ⟨_, l, rfl, ho, by omega, hok⟩
end
end Go.Proofs.YtilholgbepfopaaDoor
