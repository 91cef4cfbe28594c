/- The names that the rows' list lays. -/
import Derived.Test.YtilholgbepfopaaDoorSSane
import Derived.Test.YtilholgbepfopaaDoorCards
import Derived.Test.YtilholgbepfopaaDoorTie
import Derived.ProofKit
import Derived.OpenShut
import Derived.LaidMore
import Derived.Deep.DeepHandedRow
import Derived.Deep.DeepWitnessRowRef
import Derived.Lib.LaidTab
import Derived.Lib.SmallJoins
namespace Go.Proofs.YtilholgbepfopaaDoor
open Go.ChangeShapes Go.WideShapes Go.ChangeAt Go.RowKit

theorem own_knob : ownKnob Tryd.prog.godebug = none := by kernel_rfl
theorem laid_out : laidOutB Tryd.prog = true := by kernel_rfl
theorem gNames : Tryd.prog.globalNamed "speculate/value.names" = some 0 := by kernel_rfl
theorem gNamesType : (Tryd.prog.globals[0]?).map (·.type) = some 102 := by kernel_rfl
theorem cellsNames : Tryd.prog.cellsOf 102 = 11 := by kernel_rfl
theorem cellsStr : Tryd.prog.cellsOf 9 = 1 := by kernel_rfl

set_option maxRecDepth 100000 in
theorem string_cells {H : Type} {enc : TypeId × Value → H} {W : World} {base : Nat} {sp : Nat → Bool} {held : Bool} {fuel : Nat} {cs : List Value} {parts : List (DataW H)} {p : List MemPlace}
    (h : DataW.trod enc Tryd.prog W base sp held fuel 102 cs = some (.agg parts, p)) : cs.length = 11 ∧ ∀ i, i < 11 → ∃ s : ByteArray, cs[i]? = some (.string s) ∧ parts[i]? = some (.lit (.string s.data.toList)) := by
  obtain _ | n := fuel
  · cases h
  · unfold DataW.trod at h
    rw [Tryd.underlying102] at h
    dsimp only at h
    rw [cellsNames, cellsStr] at h
    by_cases hl : cs.length = 11
    · refine ⟨hl, fun i hi => ?_⟩
      simp only [hl, if_pos, Option.map_eq_some_iff] at h
      obtain ⟨ys, hys, he⟩ := h
      obtain ⟨y, hy, hread⟩ := Lib.mapM_at hys i i (by simp [hi])
      obtain ⟨s, hcell, rfl, _⟩ := DataW.trod_string Tryd.underlying9 hread
      obtain ⟨hp, _⟩ := Prod.mk.inj he
      injection hp with hp
      subst hp
      refine ⟨s, ?_, by rw [List.getElem?_map, hy]; rfl⟩
      have := congrArg List.head? hcell
      rw [List.head?_take, if_neg (by decide), List.head?_drop] at this
      simpa using this
    · rw [if_neg hl] at h
      cases h

theorem bl_same {a b : ByteArray} (h : a.data.toList = b.data.toList) : a = b := by
  cases a
  cases b
  exact congrArg ByteArray.mk (Array.toList_inj.1 h)
set_option maxRecDepth 100000 in
theorem glob_of_list {W : World} {L : List (String × DataW Unit)} (hL : L = [("speculate/value.names", .agg (nmL.map fun z => .lit (.string z.data.toList)))]) (h : laidMetH Tryd.prog L W) : Glob W := by
  subst hL
  rw [MakeChecks.laidMetH_plain _ _ _ (by kernel_rfl)] at h
  obtain ⟨ps, ⟨g', t', cs, fuel, p, q, hg', ht', hvar, hd, _, _⟩, _⟩ := h
  obtain rfl := Option.some.inj (gNames.symm.trans hg')
  obtain rfl := Option.some.inj (gNamesType.symm.trans ht')
  obtain ⟨hlen, hcell⟩ := string_cells hd
  have hcs : cs.toList = nmL.map Value.string := by
    apply List.ext_getElem?
    intro i
    rcases Nat.lt_or_ge i 11 with hi | hi
    · obtain ⟨s, h1, h2⟩ := hcell i hi
      rw [h1]
      rw [List.getElem?_map] at h2 ⊢
      cases hz : nmL[i]? with
      | none => rw [hz] at h2; cases h2
      | some z =>
        rw [hz] at h2
        have hs : z.data.toList = s.data.toList := by simpa using h2
        have : z = s := bl_same hs
        rw [this]
        rfl
    · rw [List.getElem?_eq_none (by omega), List.getElem?_eq_none (by simp [nmL]; omega)]
  simp only [World.var?, gNames, Option.bind_some] at hvar
  split at hvar
  · rename_i cs' t fr hb
    obtain rfl := Option.some.inj hvar
    refine ⟨t, fr, ?_⟩
    rw [hb]
    congr 2
    apply Array.ext'
    rw [hcs]
    rfl
  · cases hvar
theorem u8_nat {n : Int} (h : (Lit.int .u8 n).wf = true) : ∃ k : Nat, n = (k : Int) ∧ k ≤ 255 := by
  obtain ⟨h0, h1⟩ := bounds_u8 h
  exact ⟨n.toNat, by omega, by omega⟩
theorem upto_of {H : Type} {ds : List (DataW H)} (h : Rows.uptoSmall H ds = true) : Rows.uptoBulkAll ds ≤ 1048576 := of_decide_eq_true h
section
variable {H : Type} {enc : TypeId × Value → H} {W : World} {v : Value} {d : DataW H} {p : List MemPlace}
theorem back {t : TypeId} (hr : Tryd.prog.readableRec t = true) (hrow : t < Tryd.prog.types.size) {W' : World} (h : DataW.Trod enc Tryd.prog W 0 (fun _ => true) true t v d p) (hb : Below W.heap.size W W') (hlt : ∀ x ∈ p, x.block < W.heap.size) : DataW.Trod enc Tryd.prog W' 0 (fun b => decide (b < W.heap.size)) true t v d p :=
  Below.trod laid_out hr hrow h hb hlt
end
end Go.Proofs.YtilholgbepfopaaDoor
