/- What the rows' lists give: the names; a value among the arguments. -/
import Derived.Test.YthgefeoklmognaaDoorVNames
import Derived.Test.YthgefeoklmognaaDoorVGroups
import Derived.Test.YthgefeoklmognaaDoorVOrder
import Derived.Test.YthgefeoklmognaaDoorVRefs
import Derived.Test.YthgefeoklmognaaDoorCards
import Derived.Test.YthgefeoklmognaaDoorTie
import Derived.ProofKit
import Derived.OpenShut
import Derived.LaidMore
import Derived.Deep.DeepHandedRow
import Derived.Deep.DeepWitnessRowRef
import Derived.Lib.LaidTab
import Derived.Lib.SmallJoins
namespace Go.Proofs.YthgefeoklmognaaDoor
open Go.ChangeShapes Go.WideShapes Go.ChangeAt Go.RowKit

theorem own_knob : ownKnob Tryd.prog.godebug = none := by kernel_rfl
theorem laid_out : laidOutB Tryd.prog = true := by kernel_rfl
theorem gNames : Tryd.prog.globalNamed "speculate/value.names" = some 0 := by kernel_rfl
theorem gNamesType : (Tryd.prog.globals[0]?).map (·.type) = some 49 := by kernel_rfl
theorem cellsNames : Tryd.prog.cellsOf 49 = 11 := by kernel_rfl
theorem cellsStr : Tryd.prog.cellsOf 9 = 1 := by kernel_rfl
theorem cellsVal : Tryd.prog.cellsOf 24 = 2 := by kernel_rfl

/-- the cells of an array whose elements are strings, off its reading: cell i is the string that the i-th part tells -/
theorem string_cells {H : Type} {enc : TypeId × Value → H} {W : World} {base : Nat} {sp : Nat → Bool} {held : Bool} {fuel : Nat} {cs : List Value} {parts : List (DataW H)} {p : List MemPlace}
    (h : DataW.trod enc Tryd.prog W base sp held fuel 49 cs = some (.agg parts, p)) : cs.length = 11 ∧ ∀ i, i < 11 → ∃ s : ByteArray, cs[i]? = some (.string s) ∧ parts[i]? = some (.lit (.string s.data.toList)) := by
  obtain _ | n := fuel
  · cases h
  · unfold DataW.trod at h
    rw [Tryd.underlying49] at h
    dsimp only at h
    rw [cellsNames, cellsStr] at h
    by_cases hl : cs.length = 11
    · refine ⟨hl, fun i hi => ?_⟩
      simp only [hl, if_pos, Option.map_eq_some_iff] at h
      obtain ⟨ys, hys, he⟩ := h
      obtain ⟨y, hy, hread⟩ := Lib.mapM_at hys i i (by simp [hi])
      obtain ⟨s, hcell, rfl, _⟩ := DataW.trod_string Tryd.underlying9 hread
      obtain ⟨hp, _⟩ := Prod.mk.inj he
      injection hp with hp
      subst hp
      refine ⟨s, ?_, by rw [List.getElem?_map, hy]; rfl⟩
      have := congrArg List.head? hcell
      rw [List.head?_take, if_neg (by decide), List.head?_drop] at this
      simpa using this
    · rw [if_neg hl] at h
      cases h

theorem bl_eq {a b : ByteArray} (h : a.data.toList = b.data.toList) : a = b := by
  cases a
  cases b
  exact congrArg ByteArray.mk (Array.toList_inj.1 h)
/-- the list of every row of this seat -/
def laidAll : List (String × DataW Unit) := Rows.valueAppliesRow.laid
theorem laid_is : laidAll = [("speculate/value.names", .agg (nmL.map fun z => .lit (.string z.data.toList)))] := rfl
theorem glob_of {W : World} (h : laidMetH Tryd.prog laidAll W) : Glob W := by
  rw [MakeChecks.laidMetH_plain _ _ _ (by kernel_rfl), laid_is] at h
  obtain ⟨ps, ⟨g', t', cs, fuel, p, q, hg', ht', hvar, hd, _, _⟩, _⟩ := h
  obtain rfl := Option.some.inj (gNames.symm.trans hg')
  obtain rfl := Option.some.inj (gNamesType.symm.trans ht')
  obtain ⟨hlen, hcell⟩ := string_cells hd
  have hcs : cs.toList = nmL.map Value.string := by
    apply List.ext_getElem?
    intro i
    rcases Nat.lt_or_ge i 11 with hi | hi
    · obtain ⟨s, h1, h2⟩ := hcell i hi
      rw [h1]
      rw [List.getElem?_map] at h2 ⊢
      cases hz : nmL[i]? with
      | none => rw [hz] at h2; cases h2
      | some z =>
        rw [hz] at h2
        have hs : z.data.toList = s.data.toList := by simpa using h2
        have : z = s := bl_eq hs
        rw [this]
        rfl
    · rw [List.getElem?_eq_none (by omega), List.getElem?_eq_none (by simp [nmL]; omega)]
  simp only [World.var?, gNames, Option.bind_some] at hvar
  split at hvar
  · rename_i cs' t fr hb
    obtain rfl := Option.some.inj hvar
    refine ⟨t, fr, ?_⟩
    rw [hb]
    congr 2
    apply Array.ext'
    rw [hcs]
    rfl
  · cases hvar

theorem int_bounds {n : Int} (h : (Lit.int .i64 n).wf = true) : In64 n := bounds_i64 h
theorem u8_bounds {n : Int} (h : (Lit.int .u8 n).wf = true) : 0 ≤ n ∧ n ≤ 255 := bounds_u8 h
theorem i8_bounds {n : Int} (h : (Lit.int .i8 n).wf = true) : -128 ≤ n ∧ n ≤ 127 := bounds_i8 h

/-- a value, opened and shut -/
theorem open_val {H : Type} {enc : TypeId × Value → H} {W : World} {r : Reach} {b0 base : Nat} {sp : Nat → Bool} {held : Bool} {v : Value} {d : DataW H} {p : List MemPlace} (hv : Value.okWide Tryd.prog W r b0 24 v) (h : DataW.Trod enc Tryd.prog W base sp held 24 v d p) :
    ∃ b n, v = .agg #[.bool b, .int .i64 n] ∧ d = .agg [.lit (.bool b), .lit (.int .i64 n)] ∧ p = [] ∧ (Lit.int .i64 n).wf = true := by
  obtain ⟨c0, c1, y0, y1, m, rfl, rfl, rfl, hy0, hy1⟩ := Joins.open_agg2 Tryd.underlying24 (by kernel_rfl) cellsVal hv h
  obtain ⟨b, e0, rfl⟩ := DataW.trod_bool Tryd.underlying4 hy0
  obtain ⟨n, e1, rfl, wn⟩ := DataW.trod_int Tryd.underlying2 hy1
  simp at e0 e1
  subst e0 e1
  exact ⟨b, n, rfl, rfl, rfl, wn⟩
theorem shut_val {H : Type} {enc : TypeId × Value → H} {W : World} {base : Nat} {sp : Nat → Bool} {held : Bool} (b : Bool) (n : Int) (wn : (Lit.int .i64 n).wf = true) :
    DataW.Trod enc Tryd.prog W base sp held 24 (.agg #[.bool b, .int .i64 n]) (.agg [.lit (.bool b), .lit (.int .i64 n)]) [] :=
  Joins.shut_agg2 (y0 := (.lit (.bool b), [])) (y1 := (.lit (.int .i64 n), [])) Tryd.underlying24 (by kernel_rfl) cellsVal ⟨1, by simp [DataW.trod, Tryd.underlying4]⟩ ⟨1, by simp [DataW.trod, Tryd.underlying2, wn]⟩
end Go.Proofs.YthgefeoklmognaaDoor
