/- What comes in: a reading's slice of values, of objects; how long it can be. -/
import Derived.Test.YtbnippldclpclaaHSane
import Derived.Test.YtbnippldclpclaaRows
import Derived.Deep.Slices
import Derived.Carry
import Derived.RowKit2
import Derived.Lib.SmallJoins
namespace Go.Proofs.Ytbnippldclpclaa
open Go.RowKit Go.ChangeShapes Go.WideShapes

theorem bulk_pos {H : Type} (d : DataW H) : 1 ≤ Rows.uptoBulk d := by
  cases d with
  | lit l => cases l <;> simp [Rows.uptoBulk]
  | _ => simp [Rows.uptoBulk]
theorem bulkAll_append {H : Type} (l m : List (DataW H)) : Rows.uptoBulkAll (l ++ m) = Rows.uptoBulkAll l + Rows.uptoBulkAll m := by
  induction l with
  | nil => simp [Rows.uptoBulkAll]
  | cons x l ih => simp only [List.cons_append, Rows.uptoBulkAll, ih]; omega
theorem bulkAll_len {H : Type} (l : List (DataW H)) : l.length ≤ Rows.uptoBulkAll l := by
  induction l with
  | nil => simp
  | cons x l ih => simp only [List.length_cons, Rows.uptoBulkAll]; have := bulk_pos x; omega

section
variable {H : Type} {enc : TypeId × Value → H} {w : World} {base : Nat} {spare : Nat → Bool} {held : Bool} {fuel : Nat} {cs : List Value} {x : DataW H × List MemPlace}
theorem two_cells {t0 t1 : Nat} (k0 : t0 = 1) (k1 : t1 = 1) {cs : List Value} (hl : cs.length = 2) {u0 u1 : Value} (e0 : (cs.drop 0).take t0 = [u0]) (e1 : (cs.drop 1).take t1 = [u1]) : cs = [u0, u1] := by
  subst k0 k1
  match cs, hl with
  | [c0, c1], _ => simp at e0 e1; rw [e0, e1]
theorem open_V (h : DataW.trod enc Try.prog w base spare held fuel 31 cs = some x) : ∃ v : V, cs = vc v := by
  obtain ⟨y0, y1, n, rfl, hl, h0, h1⟩ := trod_struct2 Try.underlying31 h
  obtain ⟨b, e0, _⟩ := DataW.trod_bool Try.underlying4 h0
  obtain ⟨i, e1, _⟩ := DataW.trod_int Try.underlying2 h1
  exact ⟨(b, i), two_cells (show Try.prog.cellsOf 4 = 1 by kernel_rfl) (show Try.prog.cellsOf 2 = 1 by kernel_rfl) (hl.trans (by kernel_rfl)) e0 e1⟩
theorem vs_of_cells {a : Addr} {cap len : Nat} (hl : len ≤ cap) (F : Nat → V) (h : ∀ i, i < len → w.cell? (a.add (i * 2)) = some (.bool (F i).1) ∧ w.cell? (a.add (i * 2 + 1)) = some (.int .i64 (F i).2)) :
    VsAt w (.slice (some a) len cap) ((List.range len).map F) := by
  have hlen : ((List.range len).map F).length = len := by simp
  refine .inr ⟨a, cap, by rw [hlen], by rw [hlen]; exact hl, vc_len _, fun j u hj => ?_⟩
  have hjl : j < len * 2 := by
    have := (List.getElem?_eq_some_iff.1 hj).1
    rw [vc_len, hlen] at this
    exact this
  have hk : ((List.range len).map F)[j / 2]? = some (F (j / 2)) := by
    rw [List.getElem?_map, List.getElem?_range (by omega)]
    rfl
  obtain ⟨e0, e1⟩ := vc_at _ _ _ hk
  obtain ⟨c0, c1⟩ := h (j / 2) (by omega)
  rcases Nat.mod_two_eq_zero_or_one j with hm | hm
  · rw [show j / 2 * 2 = j by omega] at e0 c0
    rw [e0] at hj
    cases hj
    exact c0
  · rw [show j / 2 * 2 + 1 = j by omega] at e1 c1
    rw [e1] at hj
    cases hj
    exact c1
theorem open_vs (h : DataW.trod enc Try.prog w base spare held fuel 33 cs = some x) : ∃ (a : Option Addr) (n c : Nat) (l : List V), cs = [.slice a n c] ∧ VsAt w (.slice a n c) l ∧ l.length + 1 ≤ Rows.uptoBulk x.1 := by
  rcases Deep.open_slice Try.underlying33 h with ⟨rfl, rfl⟩ | ⟨a, len, cap, m, n, D, Pl, rfl, _, hl, _, hm, rfl, hx⟩
  · exact ⟨none, 0, 0, [], rfl, .inl ⟨rfl, rfl, rfl⟩, by simp [Rows.uptoBulk]⟩
  · have hC : Try.prog.cellsOf 31 = 2 := by kernel_rfl
    have hlm : len ≤ m := by rw [hm]; split <;> omega
    obtain ⟨F, hF⟩ := Deep.choose_lt (α := V) (n := len) (p := fun i v => w.cell? (a.add (i * 2)) = some (.bool v.1) ∧ w.cell? (a.add (i * 2 + 1)) = some (.int .i64 v.2)) (fun i hi => by
      obtain ⟨cs', h1, h2⟩ := hx i (by omega)
      obtain ⟨v, rfl⟩ := open_V h2
      rw [hC] at h1
      obtain ⟨_, _, hat⟩ := World.cells?_some h1
      have c0 := hat 0 (by omega)
      have c1 := hat 1 (by omega)
      rw [Deep.add_add] at c0 c1
      exact ⟨v, c0, c1⟩)
    refine ⟨some a, len, cap, _, rfl, vs_of_cells hl F hF, ?_⟩
    have h1 := bulkAll_len ((List.range len).map D)
    simp only [List.length_map, List.length_range] at h1 ⊢
    simp only [Rows.uptoBulk]
    omega
theorem open_O (h : DataW.trod enc Try.prog w base spare held fuel 43 cs = some x) : ∃ y : Lob, cs = oc y ∧ VsAt w y.fv y.vals ∧ y.vals.length + 2 ≤ Rows.uptoBulk x.1 := by
  obtain ⟨y0, y1, n, rfl, hl, h0, h1⟩ := trod_struct2 Try.underlying43 h
  obtain ⟨i, e0, _⟩ := DataW.trod_int Try.underlying2 h0
  obtain ⟨a, k, c, l, e1, hv, hb⟩ := open_vs h1
  refine ⟨⟨i, .slice a k c, l⟩, two_cells (show Try.prog.cellsOf 2 = 1 by kernel_rfl) (show Try.prog.cellsOf 33 = 1 by kernel_rfl) (hl.trans (by kernel_rfl)) e0 e1, hv, ?_⟩
  have := bulk_pos y0.1
  simp only [Rows.uptoBulk, Rows.uptoBulkAll]
  omega
instance : Inhabited Lob := ⟨⟨0, .bool false, []⟩⟩
theorem os_of_cells {a : Addr} {cap len : Nat} (hl : len ≤ cap) (F : Nat → Lob) (h : ∀ i, i < len → w.cell? (a.add (i * 2)) = some (.int .i64 (F i).id) ∧ w.cell? (a.add (i * 2 + 1)) = some (F i).fv ∧ VsAt w (F i).fv (F i).vals) :
    OsAt w (.slice (some a) len cap) ((List.range len).map F) := by
  have hlen : ((List.range len).map F).length = len := by simp
  refine ⟨.inr ⟨a, cap, by rw [hlen], by rw [hlen]; exact hl, oc_len _, fun j u hj => ?_⟩, fun y hy => ?_⟩
  · have hjl : j < len * 2 := by
      have := (List.getElem?_eq_some_iff.1 hj).1
      rw [oc_len, hlen] at this
      exact this
    have hk : ((List.range len).map F)[j / 2]? = some (F (j / 2)) := by
      rw [List.getElem?_map, List.getElem?_range (by omega)]
      rfl
    obtain ⟨e0, e1⟩ := oc_at _ _ _ hk
    obtain ⟨c0, c1, _⟩ := h (j / 2) (by omega)
    rcases Nat.mod_two_eq_zero_or_one j with hm | hm
    · rw [show j / 2 * 2 = j by omega] at e0 c0
      rw [e0] at hj
      cases hj
      exact c0
    · rw [show j / 2 * 2 + 1 = j by omega] at e1 c1
      rw [e1] at hj
      cases hj
      exact c1
  · obtain ⟨i, hi, rfl⟩ := List.mem_map.1 hy
    exact (h i (List.mem_range.1 hi)).2.2
theorem total_range (F : Nat → Lob) (D : Nat → DataW H) : ∀ (len : Nat), (∀ i, i < len → (F i).vals.length + 2 ≤ Rows.uptoBulk (D i)) → totalO (obs ((List.range len).map F)) ≤ Rows.uptoBulkAll ((List.range len).map D)
  | 0, _ => by simp [obs, totalO]
  | n + 1, h => by
    have ih := total_range F D n (fun i hi => h i (by omega))
    have h1 := h n (by omega)
    rw [List.range_succ, List.map_append, List.map_append, bulkAll_append]
    have e : totalO (obs ((List.range n).map F ++ [n].map F)) = totalO (obs ((List.range n).map F)) + (1 + (F n).vals.length) := by
      generalize (List.range n).map F = L
      induction L with
      | nil => simp [obs, totalO, Lob.ob]
      | cons y L ih => simp only [List.cons_append, obs, List.map_cons, totalO] at ih ⊢; omega
    rw [e]
    simp only [List.map_cons, List.map_nil, Rows.uptoBulkAll]
    omega
theorem open_os (h : DataW.trod enc Try.prog w base spare held fuel 26 cs = some x) : ∃ (a : Option Addr) (n c : Nat) (O : List Ob), cs = [.slice a n c] ∧ OAt w (.slice a n c) O ∧ totalO O + 1 ≤ Rows.uptoBulk x.1 := by
  rcases Deep.open_slice Try.underlying26 h with ⟨rfl, rfl⟩ | ⟨a, len, cap, m, n, D, Pl, rfl, _, hl, _, hm, rfl, hx⟩
  · exact ⟨none, 0, 0, [], rfl, OAt.nil _, by simp [Rows.uptoBulk, totalO]⟩
  · have hC : Try.prog.cellsOf 43 = 2 := by kernel_rfl
    have hlm : len ≤ m := by rw [hm]; split <;> omega
    obtain ⟨F, hF⟩ := Deep.choose_lt (α := Lob) (n := len) (p := fun i y => (w.cell? (a.add (i * 2)) = some (.int .i64 y.id) ∧ w.cell? (a.add (i * 2 + 1)) = some y.fv ∧ VsAt w y.fv y.vals) ∧ y.vals.length + 2 ≤ Rows.uptoBulk (D i)) (fun i hi => by
      obtain ⟨cs', h1, h2⟩ := hx i (by omega)
      obtain ⟨y, rfl, hv, hb⟩ := open_O h2
      rw [hC] at h1
      obtain ⟨_, _, hat⟩ := World.cells?_some h1
      have c0 := hat 0 (by omega)
      have c1 := hat 1 (by omega)
      rw [Deep.add_add] at c0 c1
      exact ⟨y, ⟨c0, c1, hv⟩, hb⟩)
    refine ⟨some a, len, cap, _, rfl, ⟨_, os_of_cells hl F (fun i hi => (hF i hi).1), rfl⟩, ?_⟩
    have h1 := total_range F D len (fun i hi => (hF i hi).2)
    simp only [Rows.uptoBulk]
    omega
end
end Go.Proofs.Ytbnippldclpclaa
