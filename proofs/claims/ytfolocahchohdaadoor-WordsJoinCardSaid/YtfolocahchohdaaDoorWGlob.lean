/- What the rows' lists give: the library's variables; a start that fits. -/
import Derived.Test.YtfolocahchohdaaDoorWLim
import Derived.Test.YtfolocahchohdaaDoorCards
import Derived.Test.YtfolocahchohdaaDoorTie
import Derived.ProofKit
import Derived.OpenShut
import Derived.LaidMore
import Derived.Deep.DeepHandedRow
import Derived.Deep.DeepWitnessRowRef
import Derived.Lib.LaidTab
import Derived.Stop.LaidErr
namespace Go.Proofs.YtfolocahchohdaaDoor
open Go.ChangeShapes Go.WideShapes Go.ChangeAt Go.RowKit WMath

theorem own_knob : ownKnob Tryd.prog.godebug = none := by kernel_rfl
theorem laid_out : laidOutB Tryd.prog = true := by kernel_rfl
theorem gTab : Tryd.prog.globalNamed "internal/strconv.uint64pow10" = some 3 := by kernel_rfl
theorem gTabType : (Tryd.prog.globals[3]?).map (·.type) = some 89 := by kernel_rfl
theorem cellsTab : Tryd.prog.cellsOf 89 = 20 := by kernel_rfl
theorem cellsU64 : Tryd.prog.cellsOf 53 = 1 := by kernel_rfl
theorem gRange : Tryd.prog.globalNamed "strconv.ErrRange" = some 2 := by kernel_rfl
theorem gRangeType : (Tryd.prog.globals[2]?).map (·.type) = some 50 := by kernel_rfl

theorem maxLen_cell {w : World} (h : w.ShapedOpen Tryd.prog) : ∃ m : Int, w.cell? ⟨0, 0, none⟩ = some (.int .i64 m) :=
  Go.Proofs.cell_of_shapedOpen_int (zero := #[.int .i64 0]) (t := 3) h (of_decide_eq_true (by kernel_rfl)) (by kernel_rfl) rfl (by kernel_rfl) (by kernel_rfl) Tryd.underlying3

/-- the list of every row of this seat -/
def laidAll : List (String × DataW Unit) := Rows.wordsSplitRow.laid

theorem glob_of {W : World} (h : laidMetH Tryd.prog laidAll W) (hs : W.ShapedOpen Tryd.prog) : Glob W := by
  rw [MakeChecks.laidMetH_plain _ _ _ (by kernel_rfl)] at h
  have h2 : laidMet Tryd.prog (("internal/strconv.uint64pow10", Lib.tabData .u64 Lib.pow10Tab) :: laidAll.drop 3) W := h.tail.tail
  have ht : Lib.TabIs Tryd.prog W "internal/strconv.uint64pow10" .u64 Lib.pow10Tab := Lib.tabIs_of_head gTab gTabType Tryd.underlying89 Tryd.underlying53 cellsU64 cellsTab h2
  have h3 : laidMet Tryd.prog (laidAll.drop 3) W := h2.tail
  have hc := World.block_lt_of_cell? _ _ (ht.cell gTab 0 (by decide))
  have hv : ∃ (t : TypeId) (p : Value), W.var? Tryd.prog "strconv.ErrRange" = some #[.iface t p] := by
    obtain ⟨ps, ⟨g0, t0, cs0, f0, p0, q0, hg0, ht0, hv0, hd0, _, e0⟩, _, _⟩ := h3
    obtain rfl := Option.some.inj (gRange.symm.trans hg0)
    obtain rfl := Option.some.inj (gRangeType.symm.trans ht0)
    obtain ⟨f1, u, v, hcs, _, _⟩ := iface_of_trod Tryd.underlying50 hd0
    refine ⟨u, v, ?_⟩
    rw [hv0]
    congr 1
    exact Array.eq_one_of_toList hcs
  obtain ⟨t, p, hv⟩ := hv
  have hr := World.block_lt_of_cell? _ _ (World.var?_cell gRange hv 0)
  exact ⟨maxLen_cell hs, ⟨t, p, hv⟩, ht, hr, hc⟩

theorem addr_spot {w : World} {a : Addr} {v : Value} (h : w.cell? a = some v) : a.spot = none := by
  unfold World.cell? at h
  split at h
  · split at h
    · cases h
    · rename_i hs
      simpa using hs
  · cases h
/-- a slice of strings among the arguments reads as a list of strings -/
theorem strs_open {H : Type} {enc : TypeId × Value → H} {W : World} {a0 : Option Addr} {len cap : Nat} {d : DataW H} {p : List MemPlace}
    (h : DataW.Trod enc Tryd.prog W 0 (fun _ => true) true 23 (.slice a0 len cap) d p) : ∃ L : List ByteArray, StrsAt W (.slice a0 len cap) L ∧ L.length ≤ maxLen := by
  obtain ⟨fuel, hf⟩ := h
  rcases open_strings Tryd.underlying23 Tryd.underlying9 (by kernel_rfl) hf with ⟨hcs, _⟩ | ⟨a, len', cap', ss, hcs, _, hl, hm, hz, _, hcell, _⟩
  · have hv : Value.slice a0 len cap = .slice none 0 0 := by simpa [Value.cells] using hcs
    rw [hv]
    exact ⟨[], .inl ⟨rfl, _, _, rfl⟩, Nat.zero_le _⟩
  · have hv : Value.slice a0 len cap = .slice (some a) len' cap' := by simpa [Value.cells] using hcs
    rw [hv]
    have hsl : len' ≤ ss.length := by rw [hz]; simpa using hl
    have htl : (ss.take len').length = len' := by rw [List.length_take]; omega
    refine ⟨ss.take len', ?_, by rw [htl]; omega⟩
    by_cases h0 : len' = 0
    · subst h0
      exact .inl ⟨by simp, _, _, rfl⟩
    · have hsp := addr_spot (hcell 0 (by omega))
      have hadd0 : a.add 0 = a := by unfold Addr.add; rw [if_pos rfl]
      rw [hadd0] at hsp
      obtain ⟨b, o, sp⟩ := a
      simp only at hsp
      subst hsp
      refine .inr ⟨b, o, cap', by rw [htl], fun i hi => ?_⟩
      rw [htl] at hi
      have hc := hcell i (by omega)
      have hadd : (⟨b, o, none⟩ : Addr).add i = ⟨b, o + i, none⟩ := by unfold Addr.add; split <;> simp_all
      rw [hadd] at hc
      rw [hc, List.getElem_take]
      simp [List.getD, List.getElem?_eq_getElem (show i < ss.length by omega)]
theorem int_bounds {n : Int} (h : (Lit.int .i64 n).wf = true) : -9223372036854775808 ≤ n ∧ n ≤ 9223372036854775807 := bounds_i64 h
theorem u16_bounds {n : Int} (h : (Lit.int .u16 n).wf = true) : 0 ≤ n ∧ n ≤ 65535 := bounds_u16 h
theorem str_bound {H : Type} {s : ByteArray} (h : Rows.uptoSmall H ([DataW.lit (.string s.data.toList)] ++ []) = true) : s.size ≤ 1048576 := by
  have h := of_decide_eq_true h
  simp only [List.append_nil, Rows.uptoBulkAll, Rows.uptoBulk] at h
  have := bl_len s
  unfold bl at this
  omega
end Go.Proofs.YtfolocahchohdaaDoor
