/- Bytes that come in. -/
import Derived.Test.YtbnippldclpclaaMDice
import Derived.Test.YtbnippldclpclaaHGlob
namespace Go.Proofs.Ytbnippldclpclaa
open Go.RowKit Go.ChangeShapes Go.WideShapes

/-- bytes that came in -/
def BytesAt (w : World) (a : Option Addr) (n c : Nat) : Prop := ∃ l : List Nat, SlAt w 1 (.slice a n c) n (l.map fun (x : Nat) => Value.int .u8 (x : Int)) ∧ ∀ x ∈ l, x ≤ 255
theorem BytesAt.below {w w' : World} {a : Option Addr} {n c : Nat} (h : BytesAt w a n c) (hb : Below w.heap.size w w') : BytesAt w' a n c := by
  obtain ⟨l, h1, h2⟩ := h
  exact ⟨l, h1.below hb, h2⟩
theorem new_ok (a : Option Addr) (n c : Nat) (w : World) (h : BytesAt w a n c) : Calls Try.prog 7 #[.slice a n c] w (RDice w) := by
  obtain ⟨l, h1, h2⟩ := h
  exact new_any a n c l w h1 h2
section
variable {H : Type} {enc : TypeId × Value → H} {w W : World} {base b0 : Nat} {spare : Nat → Bool} {held : Bool} {fuel : Nat} {cs : List Value} {x : DataW H × List MemPlace} {v : Value} {d : DataW H} {p : List MemPlace} {r : Reach}
theorem open_bytes (h : DataW.trod enc Try.prog w base spare held fuel 22 cs = some x) : ∃ (a : Option Addr) (n c : Nat), cs = [.slice a n c] ∧ BytesAt w a n c := by
  rcases Deep.open_slice1 Try.underlying22 (show Try.prog.cellsOf 5 = 1 by kernel_rfl) h with ⟨rfl, rfl⟩ | ⟨a, len, cap, m, n, V, D, Pl, rfl, _, hl, _, hm, rfl, hx⟩
  · exact ⟨none, 0, 0, rfl, [], .inl ⟨rfl, rfl, rfl⟩, by simp⟩
  · have hlm : len ≤ m := by rw [hm]; split <;> omega
    obtain ⟨F, hF⟩ := Deep.choose_lt (α := Nat) (n := len) (p := fun i k => w.cell? (a.add i) = some (.int .u8 (k : Int)) ∧ k ≤ 255) (fun i hi => by
      obtain ⟨h1, h2⟩ := hx i (by omega)
      obtain ⟨k, e, _, hw⟩ := DataW.trod_int Try.underlying5 h2
      obtain ⟨j, rfl, hj⟩ := u8_nat hw
      simp only [List.cons.injEq, and_true] at e
      exact ⟨j, by rw [h1, e], hj⟩)
    refine ⟨some a, len, cap, rfl, (List.range len).map F, .inr ⟨a, cap, rfl, hl, by simp, fun j u hj => ?_⟩, fun y hy => ?_⟩
    · rw [List.map_map] at hj
      have hlt := (List.getElem?_eq_some_iff.1 hj).1
      simp only [List.length_map, List.length_range] at hlt
      rw [List.getElem?_map, List.getElem?_range hlt] at hj
      simp only [Option.map_some, Option.some.injEq, Function.comp] at hj
      rw [← hj]
      exact (hF j hlt).1
    · obtain ⟨i, hi, rfl⟩ := List.mem_map.1 hy
      exact (hF i (List.mem_range.1 hi)).2
theorem in_bytes (hv : Value.okWide Try.prog W r b0 22 v) (h : DataW.Trod enc Try.prog W 0 (fun _ => true) true 22 v d p) : ∃ (a : Option Addr) (n c : Nat), v = .slice a n c ∧ BytesAt W a n c := by
  obtain ⟨a, n, c, rfl⟩ := okWide_slice Try.underlying22 hv
  obtain ⟨fuel, h⟩ := h
  obtain ⟨a', n', c', e, ho⟩ := open_bytes h
  simp only [Value.cells, List.cons.injEq, and_true] at e
  obtain ⟨rfl, rfl, rfl⟩ := Value.slice.inj e
  exact ⟨a, n, c, rfl, ho⟩
end
end Go.Proofs.Ytbnippldclpclaa
