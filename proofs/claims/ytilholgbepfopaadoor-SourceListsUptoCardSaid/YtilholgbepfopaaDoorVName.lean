/- Name and Op, and the reference's. -/
import Derived.Test.YtilholgbepfopaaDoorVLeaf
import Derived.Laws.Rows
import Derived.Laws.Tables
namespace Go.Proofs.YtilholgbepfopaaDoor
open Go.RowKit Go.MapKept

/-- the names of the operators from 1 on -/
def nmL : List ByteArray := [⟨#[97, 100, 100]⟩, ⟨#[115, 117, 98]⟩, ⟨#[109, 117, 108]⟩, ⟨#[100, 105, 118]⟩, ⟨#[109, 105, 110]⟩, ⟨#[109, 97, 120]⟩, ⟨#[97, 110, 100]⟩, ⟨#[111, 114]⟩, ⟨#[120, 111, 114]⟩, ⟨#[108, 101, 115, 115]⟩, ⟨#[101, 113, 117, 97, 108]⟩]
def nm (k : Nat) : ByteArray := nmL.getD k ⟨#[]⟩
def nmA : Array Value := (nmL.map Value.string).toArray
/-- the variable holds the names -/
def Glob (w : World) : Prop := ∃ t fr, w.heap[0]? = some (.cells nmA t fr)
theorem Glob.below {w w' : World} (h : Glob w) (hb : Below w.heap.size w w') : Glob w' := by
  obtain ⟨t, fr, h⟩ := h
  have hlt : 0 < w.heap.size := by
    rcases Nat.lt_or_ge 0 w.heap.size with q | q
    · exact q
    · rw [Array.getElem?_eq_none q] at h
      cases h
  exact ⟨t, fr, (hb.block _ hlt).trans h⟩
theorem nmA_at (k : Nat) (hk : k < 11) : nmA[k]? = some (.string (nm k)) := by
  have : k = 0 ∨ k = 1 ∨ k = 2 ∨ k = 3 ∨ k = 4 ∨ k = 5 ∨ k = 6 ∨ k = 7 ∨ k = 8 ∨ k = 9 ∨ k = 10 := by omega
  rcases this with rfl | rfl | rfl | rfl | rfl | rfl | rfl | rfl | rfl | rfl | rfl <;> rfl
theorem Glob.cell {w : World} (h : Glob w) (k : Nat) (hk : k < 11) : w.cell? ⟨0, k, none⟩ = some (.string (nm k)) := by
  obtain ⟨t, fr, h⟩ := h
  rw [cell_of_row w _ k nmA t fr h]
  exact nmA_at k hk
/-- the name of an operator -/
def opB (op : Int) : Bool := decide (1 ≤ op ∧ op ≤ 11)
def opNm (op : Int) : ByteArray := if opB op = true then nm (op.toNat - 1) else ⟨#[]⟩
def RetS (w : World) (s : ByteArray) (b : Bool) (e : Ending) (w' : World) : Prop := e = .returned (.tuple #[.string s, .bool b]) ∧ Below w.heap.size w w'
theorem retS {w w' : World} {s t : ByteArray} {a b : Bool} (h : t = s) (h2 : a = b) (hb : Below w.heap.size w w') : RetS w s b (.returned (.tuple #[.string t, .bool a])) w' := by subst h h2; exact ⟨rfl, hb⟩
set_option maxHeartbeats 1000000 in
set_option maxRecDepth 100000 in
theorem name_any (op : Int) (w : World) (hg : Glob w) : Calls Tryd.prog 83 #[.int .i64 op] w (RetS w (opNm op) (opB op)) := by
  by_cases h : 1 ≤ op ∧ op ≤ 11
  · obtain ⟨h1, h2⟩ := h
    have hB : opB op = true := decide_eq_true ⟨h1, h2⟩
    have Hn := Lib.hid (show nm (op.toNat - 1) = opNm op by unfold opNm; rw [if_pos hB])
    rw [hB]
    clear hB
    have hc := hg.cell (op.toNat - 1) (by omega)
    clear hg
    go_enter Tryd.func83, Tryd.ntmps83
    go_wp2
    go_ret2
    exact retS Hn.out rfl (Below.refl _ _)
  · have hB : opB op = false := decide_eq_false h
    have Hn := Lib.hid (show ⟨#[]⟩ = opNm op by unfold opNm; rw [if_neg (by simp [hB])])
    rw [hB]
    clear hB hg
    by_cases h1 : op < 1
    · go_enter Tryd.func83, Tryd.ntmps83
      go_wp2
      go_ret2
      exact retS Hn.out rfl (Below.refl _ _)
    · have h2 : 11 < op := by omega
      go_enter Tryd.func83, Tryd.ntmps83
      go_wp2
      go_ret2
      exact retS Hn.out rfl (Below.refl _ _)
/-- the reference's names: one empty string, then the names -/
def rnm (k : Nat) : ByteArray := (⟨#[]⟩ :: nmL).getD k ⟨#[]⟩
def RetNames (w : World) (e : Ending) (w' : World) : Prop := e = .returned (.slice (some ⟨w.heap.size, 0, none⟩) 12 12) ∧ (∀ k, k < 12 → w'.cell? ⟨w.heap.size, k, none⟩ = some (.string (rnm k))) ∧ Below w.heap.size w w' ∧ w.heap.size < w'.heap.size
theorem names_any (w : World) : Calls Tryd.prog 71 #[] w (RetNames w) := by
  go_enter Tryd.func71, Tryd.ntmps71
  go_wp2
  go_ret
  refine ⟨rfl, ?_, below1 _ _, by simp⟩
  intro k hk
  rw [cell_of_row _ _ k _ _ _ (heap_alloc_new w _)]
  have : k = 0 ∨ k = 1 ∨ k = 2 ∨ k = 3 ∨ k = 4 ∨ k = 5 ∨ k = 6 ∨ k = 7 ∨ k = 8 ∨ k = 9 ∨ k = 10 ∨ k = 11 := by omega
  rcases this with rfl | rfl | rfl | rfl | rfl | rfl | rfl | rfl | rfl | rfl | rfl | rfl <;> rfl
theorem rnm_succ (k : Nat) : rnm (k + 1) = nm k := rfl
set_option maxHeartbeats 1000000 in
set_option maxRecDepth 100000 in
theorem rname_any (op : Int) (w : World) : Calls Tryd.prog 79 #[.int .i64 op] w (RetS w (opNm op) (opB op)) := by
  by_cases h : 1 ≤ op ∧ op ≤ 11
  · obtain ⟨h1, h2⟩ := h
    have hB : opB op = true := decide_eq_true ⟨h1, h2⟩
    have Hn := Lib.hid (show rnm op.toNat = opNm op by
      unfold opNm
      rw [if_pos hB]
      obtain ⟨k, rfl⟩ : ∃ k : Nat, op = (k : Int) + 1 := ⟨(op - 1).toNat, by omega⟩
      have e1 : ((k : Int) + 1).toNat = k + 1 := by omega
      rw [e1, rnm_succ]
      rfl)
    rw [hB]
    clear hB
    go_enter Tryd.func79, Tryd.ntmps79
    go_wp2_with fail
    refine (names_any _).mono ?_
    rintro e w1 ⟨rfl, hcell, hb, -⟩
    have hc := hcell op.toNat (by omega)
    clear hcell
    go_wp2
    go_ret2
    exact retS Hn.out rfl hb
  · have hB : opB op = false := decide_eq_false h
    have Hn := Lib.hid (show ⟨#[]⟩ = opNm op by unfold opNm; rw [if_neg (by simp [hB])])
    rw [hB]
    clear hB
    by_cases h1 : op < 1
    · go_enter Tryd.func79, Tryd.ntmps79
      go_wp2
      go_ret2
      exact retS Hn.out rfl (Below.refl _ _)
    · have h2 : 11 < op := by omega
      go_enter Tryd.func79, Tryd.ntmps79
      go_wp2
      go_ret2
      exact retS Hn.out rfl (Below.refl _ _)
end Go.Proofs.YtilholgbepfopaaDoor
