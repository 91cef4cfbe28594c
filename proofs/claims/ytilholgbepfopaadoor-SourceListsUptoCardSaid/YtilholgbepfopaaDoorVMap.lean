/- The map of operators: what a store of a new key and a look-up do to a block that the call made, written out. -/
import Derived.Test.YtilholgbepfopaaDoorRows
import Derived.WalkKit
import Derived.WalkSpells
import Derived.WalkLawsBesides
import Derived.Lib.Hide
import Derived.BigQuiet
import Derived.Deep.QuietTactic
import Derived.Maps.Own
import Derived.Laws.EntriesVeiled
namespace Go.Proofs.YtilholgbepfopaaDoor
open Go.RowKit Go.MapKept

/-- an entry of the map: its key, the function's number, its place -/
def ent (k : Int) (f c : Nat) : MapEntry := ⟨.int .i64 k, .func (.func f) #[] #[], c⟩
/-- the key of every entry is an integer, another one than k -/
def Other (k : Int) (es : List MapEntry) : Prop := ∀ x ∈ es, ∃ j : Int, x.key = .int .i64 j ∧ k ≠ j
def keyIsnt (k : Int) (x : MapEntry) : Bool := match x.key with | .int .i64 j => k != j | _ => false
theorem other_of {k : Int} {es : List MapEntry} (h : es.all (keyIsnt k) = true) : Other k es := by
  intro x hx
  have := List.all_eq_true.1 h x hx
  unfold keyIsnt at this
  split at this
  · rename_i j hj
    exact ⟨j, hj, by simpa using this⟩
  · cases this
theorem findNow_none (k : Int) (es : List MapEntry) (i : Nat) (h : Other k es) : Instr.findNow (.int .i64) (.int .i64 k) es i = some none := by
  induction es generalizing i with
  | nil => rfl
  | cons e es ih =>
    obtain ⟨j, hj, hne⟩ := h e (by simp)
    unfold Instr.findNow
    rw [hj]
    have hs : Instr.sameNow (.int .i64) (.int .i64 k) (.int .i64 j) = some false := by
      simp [Instr.sameNow, hne]
    rw [hs]
    exact ih (i + 1) (fun x hx => h x (by simp [hx]))
theorem findNow_some (k : Int) (es rest : List MapEntry) (v : Value) (c i : Nat) (h : Other k es) : Instr.findNow (.int .i64) (.int .i64 k) (es ++ ⟨.int .i64 k, v, c⟩ :: rest) i = some (some (i + es.length, v)) := by
  induction es generalizing i with
  | nil =>
    rw [List.nil_append]
    unfold Instr.findNow
    have hs : Instr.sameNow (.int .i64) (.int .i64 k) (.int .i64 k) = some true := by
      simp [Instr.sameNow]
    rw [hs]
    rfl
  | cons e es ih =>
    obtain ⟨j, hj, hne⟩ := h e (by simp)
    rw [List.cons_append]
    unfold Instr.findNow
    rw [hj]
    have hs : Instr.sameNow (.int .i64) (.int .i64 k) (.int .i64 j) = some false := by
      simp [Instr.sameNow, hne]
    rw [hs]
    have := ih (i + 1) (fun x hx => h x (by simp [hx]))
    simp only [this, List.length_cons, Option.some.injEq, Prod.mk.injEq, and_true]
    omega
theorem setBlock_alloc (w : World) (o o' : Obj) : ChangeMaps.setBlock (w.alloc o) w.heap.size o' = w.alloc o' := by
  have e : (w.heap.push o).setIfInBounds w.heap.size o' = w.heap.push o' := by
    apply Array.ext_getElem?
    intro i
    by_cases hi : i = w.heap.size
    · subst hi
      simp
    · rw [Array.getElem?_setIfInBounds_ne (by omega)]
      simp only [Array.getElem?_push, if_neg hi]
  unfold ChangeMaps.setBlock World.alloc
  simp only [e]
theorem run_put {P : Program} {T K E : TypeId} (ht : P.underlying T = some (.map K E)) (hk : P.underlying K = some (.int .i64)) (w : World) (es : Array MapEntry) (c : Nat) (k : Int) (v : Value) (h : Other k es.toList) :
    (Instr.mapUpdate T (.map (some w.heap.size)) (.int .i64 k) v).run P (w.alloc (.map es c)) = .ok () (w.alloc (.map (es.push ⟨.int .i64 k, v, c⟩) (c + 1))) := by
  have hb := (MapKept.heap_alloc w (.map es c)).1
  have hKey : IsKey (.int .i64) (.int .i64 k) := by simp [IsKey]
  have e := setBlock_alloc w (.map es c) (.map (es.push ⟨.int .i64 k, v, c⟩) (c + 1))
  unfold ChangeMaps.setBlock at e
  simp [Instr.mapUpdate, run_underlying ht, MapKept.run_getObj_map hb, run_checkKey hk hKey, run_findKey hk (findNow_none k es.toList 0 h), MapKept.run_setObj_map _ hb, Result.andThen]
  exact e
theorem run_get {P : Program} {T K E : TypeId} (ht : P.underlying T = some (.map K E)) (hk : P.underlying K = some (.int .i64)) (W : World) (b : Nat) (es : Array MapEntry) (c0 : Nat) (hb : W.heap[b]? = some (.map es c0))
    (k : Int) (l r : List MapEntry) (v : Value) (c : Nat) (hes : es.toList = l ++ ⟨.int .i64 k, v, c⟩ :: r) (h : Other k l) :
    (Instr.lookup T (.map (some b)) (.int .i64 k) true).run P W = .ok (.tuple #[v, .bool true]) W := by
  have hKey : IsKey (.int .i64) (.int .i64 k) := by simp [IsKey]
  have hf := findNow_some k l r v c 0 h
  rw [← hes] at hf
  simp [Instr.lookup, run_underlying ht, MapKept.run_getObj_map hb, run_checkKey hk hKey, run_findKey hk hf, Result.andThen]
theorem run_miss {P : Program} {T K E : TypeId} (ht : P.underlying T = some (.map K E)) (hk : P.underlying K = some (.int .i64)) (W : World) (b : Nat) (es : Array MapEntry) (c0 : Nat) (hb : W.heap[b]? = some (.map es c0))
    (k : Int) (h : Other k es.toList) (z : Value) (hz : (zeroValue E).run P W = .ok z W) :
    (Instr.lookup T (.map (some b)) (.int .i64 k) true).run P W = .ok (.tuple #[z, .bool false]) W := by
  have hKey : IsKey (.int .i64) (.int .i64 k) := by simp [IsKey]
  have hf := findNow_none k es.toList 0 h
  simp [Instr.lookup, run_underlying ht, MapKept.run_getObj_map hb, run_checkKey hk hKey, run_findKey hk hf, hz, Result.andThen]

end Go.Proofs.YtilholgbepfopaaDoor
