/- Sets of strings as maps from strings to true: what a block holds, a look-up, a store. -/
import Derived.Test.YtilholgbepfopaaDoorBMap
import Derived.Test.YtilholgbepfopaaDoorBStr
namespace Go.Proofs.YtilholgbepfopaaDoor
open Go.RowKit Go.MapKept

def sent (s : ByteArray) : Value × Value := (.string s, .bool true)
/-- block b is a map that has the strings l, in their order -/
def SetAt (w : World) (b : Nat) (l : List ByteArray) : Prop := ∃ es c, w.heap[b]? = some (.map es c) ∧ es.toList.map eraw = l.map sent
theorem SetAt.new (w : World) : SetAt (w.alloc (.map #[] 0)) w.heap.size [] := ⟨#[], 0, (MapKept.heap_alloc w _).1, rfl⟩
theorem SetAt.lt {w : World} {b : Nat} {l : List ByteArray} (h : SetAt w b l) : b < w.heap.size := by
  obtain ⟨es, c, hb, _⟩ := h
  exact (Array.getElem?_eq_some_iff.1 hb).1
theorem SetAt.kept {w w' : World} {b : Nat} {l : List ByteArray} (h : SetAt w b l) (hh : w'.heap[b]? = w.heap[b]?) : SetAt w' b l := by
  obtain ⟨es, c, hb, e⟩ := h
  exact ⟨es, c, hh.trans hb, e⟩
theorem SetAt.below {w w' : World} {b : Nat} {l : List ByteArray} (h : SetAt w b l) (hb : Below w.heap.size w w') : SetAt w' b l := h.kept (hb.block b h.lt)
theorem SetAt.no_row {w : World} {b : Nat} {l : List ByteArray} (h : SetAt w b l) {cs : Array Value} {t : TypeId} {fr : Nat × Nat} : w.heap[b]? ≠ some (.cells cs t fr) := by
  obtain ⟨es, c, hh, _⟩ := h
  rw [hh]
  intro e
  cases e
theorem find_s (s : ByteArray) (es : List MapEntry) (l : List ByteArray) (i : Nat) (h : es.map eraw = l.map sent) :
    (s ∉ l ∧ Instr.findNow .string (.string s) es i = some none) ∨ (s ∈ l ∧ ∃ m, Instr.findNow .string (.string s) es i = some (some (i + m, .bool true))) := by
  induction es generalizing l i with
  | nil =>
    cases l with
    | nil => exact .inl ⟨by simp, rfl⟩
    | cons _ _ => simp at h
  | cons e es ih =>
    cases l with
    | nil => simp at h
    | cons y l =>
      simp only [List.map_cons, List.cons.injEq] at h
      obtain ⟨he, ht⟩ := h
      have hk : e.key = .string y := congrArg Prod.fst he
      have hv : e.val = .bool true := congrArg Prod.snd he
      by_cases hy : y = s
      · right
        have hs : Instr.sameNow .string (.string s) e.key = some true := by rw [hk, hy]; simp [Instr.sameNow, beq_toListBytes]
        refine ⟨by simp [hy], 0, ?_⟩
        unfold Instr.findNow
        rw [hs, hv]
        rfl
      · have hs : Instr.sameNow .string (.string s) e.key = some false := by rw [hk]; simp only [Instr.sameNow, beq_toListBytes]; exact congrArg some (tstr_ne (fun e => hy e.symm))
        rcases ih l (i + 1) ht with ⟨h1, h2⟩ | ⟨h1, m, h2⟩
        · refine .inl ⟨by simp [h1, Ne.symm hy], ?_⟩
          unfold Instr.findNow
          rw [hs]
          exact h2
        · refine .inr ⟨by simp [h1], m + 1, ?_⟩
          unfold Instr.findNow
          rw [hs]
          simp only [h2]
          congr 3
          omega
section
variable {P : Program} {T K E' : TypeId} {w : World} {b : Nat} {l : List ByteArray}
theorem SetAt.look_no (ht : P.underlying T = some (.map K E')) (hk : P.underlying K = some .string) (hz : (zeroValue E').run P w = .ok (.bool false) w) (h : SetAt w b l) {s : ByteArray} (hs : s ∉ l) :
    (Instr.lookup T (.map (some b)) (.string s) false).run P w = .ok (.bool false) w := by
  obtain ⟨es, c, hb, he⟩ := h
  have hKey : IsKey .string (.string s) := by simp [IsKey]
  rcases find_s s es.toList l 0 he with ⟨h1, h2⟩ | ⟨h1, m, h2⟩
  · simp [Instr.lookup, run_underlying ht, MapKept.run_getObj_map hb, run_checkKey hk hKey, run_findKey hk h2, hz, Result.andThen]
  · exact absurd h1 hs
theorem SetAt.look_yes (ht : P.underlying T = some (.map K E')) (hk : P.underlying K = some .string) (h : SetAt w b l) {s : ByteArray} (hs : s ∈ l) :
    (Instr.lookup T (.map (some b)) (.string s) false).run P w = .ok (.bool true) w := by
  obtain ⟨es, c, hb, he⟩ := h
  have hKey : IsKey .string (.string s) := by simp [IsKey]
  rcases find_s s es.toList l 0 he with ⟨h1, h2⟩ | ⟨h1, m, h2⟩
  · exact absurd hs h1
  · simp [Instr.lookup, run_underlying ht, MapKept.run_getObj_map hb, run_checkKey hk hKey, run_findKey hk h2, Result.andThen]
theorem SetAt.put (ht : P.underlying T = some (.map K E')) (hk : P.underlying K = some .string) (h : SetAt w b l) (s : ByteArray) (hs : s ∉ l) :
    ∃ w', (Instr.mapUpdate T (.map (some b)) (.string s) (.bool true)).run P w = .ok () w' ∧ SetAt w' b (l ++ [s]) ∧ w.grownBy w' (some b) := by
  obtain ⟨es, c, hb, he⟩ := h
  have hKey : IsKey .string (.string s) := by simp [IsKey]
  rcases find_s s es.toList l 0 he with ⟨h1, h2⟩ | ⟨h1, m, h2⟩
  · refine ⟨ChangeMaps.setBlock w b (.map (es.push ⟨.string s, .bool true, c⟩) (c + 1)), ?_, ?_, ?_⟩
    · simp [Instr.mapUpdate, run_underlying ht, MapKept.run_getObj_map hb, run_checkKey hk hKey, run_findKey hk h2, MapKept.run_setObj_map _ hb, Result.andThen]
      rfl
    · refine ⟨_, _, ChangeMaps.heap_setBlock_same hb _, ?_⟩
      rw [Array.toList_push, List.map_append, he, List.map_append]
      rfl
    · exact ⟨rfl, rfl, rfl, by simp [ChangeMaps.setBlock], fun i _ hi => ChangeMaps.heap_setBlock_other hb _ (fun e => hi (by rw [e]))⟩
  · exact absurd h1 hs
end
end Go.Proofs.YtilholgbepfopaaDoor
