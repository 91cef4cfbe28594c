import Derived.Test.YtilholgbepfopaaDoorRows
import Derived.WalkKit
import Derived.WalkSpells
import Derived.WalkLawsBesides
import Derived.Lib.Hide
import Derived.BigQuiet
import Derived.Deep.QuietTactic
import Derived.Maps.Own
import Derived.Laws.EntriesVeiled
import Derived.Laws.Rows
import Derived.Laws.Tables
import Derived.Lib.AppendZeros
import Derived.Maps.AppendAt
import Derived.Laws.OwnMore
import Derived.Deep.RegionLaw
import Derived.Deep.RegionHeld3
import GoSem.Claim
import Derived.Lib.AppendStr
/- The map of operators: what a store of a new key and a look-up do to a block that the call made, written out. -/
namespace Go.Proofs.YtilholgbepfopaaDoor
open Go.RowKit Go.MapKept

/-- an entry of the map: its key, the function's number, its place -/
def ent (k : Int) (f c : Nat) : MapEntry := ⟨.int .i64 k, .func (.func f) #[] #[], c⟩
/-- the key of every entry is an integer, another one than k -/
def Other (k : Int) (es : List MapEntry) : Prop := ∀ x ∈ es, ∃ j : Int, x.key = .int .i64 j ∧ k ≠ j
def keyIsnt (k : Int) (x : MapEntry) : Bool := match x.key with | .int .i64 j => k != j | _ => false
theorem other_of {k : Int} {es : List MapEntry} (h : es.all (keyIsnt k) = true) : Other k es := by
  intro x hx
  have := List.all_eq_true.1 h x hx
  unfold keyIsnt at this
  split at this
  · rename_i j hj
    exact ⟨j, hj, by simpa using this⟩
  · cases this
theorem findNow_none (k : Int) (es : List MapEntry) (i : Nat) (h : Other k es) : Instr.findNow (.int .i64) (.int .i64 k) es i = some none := by
  induction es generalizing i with
  | nil => rfl
  | cons e es ih =>
    obtain ⟨j, hj, hne⟩ := h e (by simp)
    unfold Instr.findNow
    rw [hj]
    have hs : Instr.sameNow (.int .i64) (.int .i64 k) (.int .i64 j) = some false := by
      simp [Instr.sameNow, hne]
    rw [hs]
    exact ih (i + 1) (fun x hx => h x (by simp [hx]))
theorem findNow_some (k : Int) (es rest : List MapEntry) (v : Value) (c i : Nat) (h : Other k es) : Instr.findNow (.int .i64) (.int .i64 k) (es ++ ⟨.int .i64 k, v, c⟩ :: rest) i = some (some (i + es.length, v)) := by
  induction es generalizing i with
  | nil =>
    rw [List.nil_append]
    unfold Instr.findNow
    have hs : Instr.sameNow (.int .i64) (.int .i64 k) (.int .i64 k) = some true := by
      simp [Instr.sameNow]
    rw [hs]
    rfl
  | cons e es ih =>
    obtain ⟨j, hj, hne⟩ := h e (by simp)
    rw [List.cons_append]
    unfold Instr.findNow
    rw [hj]
    have hs : Instr.sameNow (.int .i64) (.int .i64 k) (.int .i64 j) = some false := by
      simp [Instr.sameNow, hne]
    rw [hs]
    have := ih (i + 1) (fun x hx => h x (by simp [hx]))
    simp only [this, List.length_cons, Option.some.injEq, Prod.mk.injEq, and_true]
    omega
theorem setBlock_alloc (w : World) (o o' : Obj) : ChangeMaps.setBlock (w.alloc o) w.heap.size o' = w.alloc o' := by
  have e : (w.heap.push o).setIfInBounds w.heap.size o' = w.heap.push o' := by
    apply Array.ext_getElem?
    intro i
    by_cases hi : i = w.heap.size
    · subst hi
      simp
    · rw [Array.getElem?_setIfInBounds_ne (by omega)]
      simp only [Array.getElem?_push, if_neg hi]
  unfold ChangeMaps.setBlock World.alloc
  simp only [e]
theorem run_put {P : Program} {T K E : TypeId} (ht : P.underlying T = some (.map K E)) (hk : P.underlying K = some (.int .i64)) (w : World) (es : Array MapEntry) (c : Nat) (k : Int) (v : Value) (h : Other k es.toList) :
    (Instr.mapUpdate T (.map (some w.heap.size)) (.int .i64 k) v).run P (w.alloc (.map es c)) = .ok () (w.alloc (.map (es.push ⟨.int .i64 k, v, c⟩) (c + 1))) := by
  have hb := (MapKept.heap_alloc w (.map es c)).1
  have hKey : IsKey (.int .i64) (.int .i64 k) := by simp [IsKey]
  have e := setBlock_alloc w (.map es c) (.map (es.push ⟨.int .i64 k, v, c⟩) (c + 1))
  unfold ChangeMaps.setBlock at e
  simp [Instr.mapUpdate, run_underlying ht, MapKept.run_getObj_map hb, run_checkKey hk hKey, run_findKey hk (findNow_none k es.toList 0 h), MapKept.run_setObj_map _ hb, Result.andThen]
  exact e
theorem run_get {P : Program} {T K E : TypeId} (ht : P.underlying T = some (.map K E)) (hk : P.underlying K = some (.int .i64)) (W : World) (b : Nat) (es : Array MapEntry) (c0 : Nat) (hb : W.heap[b]? = some (.map es c0))
    (k : Int) (l r : List MapEntry) (v : Value) (c : Nat) (hes : es.toList = l ++ ⟨.int .i64 k, v, c⟩ :: r) (h : Other k l) :
    (Instr.lookup T (.map (some b)) (.int .i64 k) true).run P W = .ok (.tuple #[v, .bool true]) W := by
  have hKey : IsKey (.int .i64) (.int .i64 k) := by simp [IsKey]
  have hf := findNow_some k l r v c 0 h
  rw [← hes] at hf
  simp [Instr.lookup, run_underlying ht, MapKept.run_getObj_map hb, run_checkKey hk hKey, run_findKey hk hf, Result.andThen]
theorem run_miss {P : Program} {T K E : TypeId} (ht : P.underlying T = some (.map K E)) (hk : P.underlying K = some (.int .i64)) (W : World) (b : Nat) (es : Array MapEntry) (c0 : Nat) (hb : W.heap[b]? = some (.map es c0))
    (k : Int) (h : Other k es.toList) (z : Value) (hz : (zeroValue E).run P W = .ok z W) :
    (Instr.lookup T (.map (some b)) (.int .i64 k) true).run P W = .ok (.tuple #[z, .bool false]) W := by
  have hKey : IsKey (.int .i64) (.int .i64 k) := by simp [IsKey]
  have hf := findNow_none k es.toList 0 h
  simp [Instr.lookup, run_underlying ht, MapKept.run_getObj_map hb, run_checkKey hk hKey, run_findKey hk hf, hz, Result.andThen]

end Go.Proofs.YtilholgbepfopaaDoor
/- The functions of the map. -/
namespace Go.Proofs.YtilholgbepfopaaDoor
open Go.RowKit

/-- an integer, and nothing old has changed -/
def RetIt (w : World) (n : Int) (e : Ending) (w' : World) : Prop := e = .returned (.int .i64 n) ∧ Below w.heap.size w w'
theorem below2 (w : World) (o o' : Obj) : Below w.heap.size w ((w.alloc o).alloc o') := ((Below.refl _ _).alloc (Nat.le_refl _) _).alloc (by simp) _
theorem retI {w w' : World} {n m : Int} (h : m = n) (hb : Below w.heap.size w w') : RetIt w n (.returned (.int .i64 m)) w' := by subst h; exact ⟨rfl, hb⟩
def minN (x y : Int) : Int := if y < x then y else x
def maxN (x y : Int) : Int := if x < y then y else x
def lessN (x y : Int) : Int := if x < y then 1 else 0
def sameN (r s : Bool) (x y : Int) : Int := if r = s ∧ x = y then 1 else 0

end Go.Proofs.YtilholgbepfopaaDoor
/- Apply. -/
namespace Go.Proofs.YtilholgbepfopaaDoor
open Go.RowKit Go.MapKept

/-- a value that is an integer, a fault, and nothing old has changed -/
def RetV (w : World) (n f : Int) (e : Ending) (w' : World) : Prop := e = .returned (.tuple #[.agg #[.bool false, .int .i64 n], .int .i64 f]) ∧ Below w.heap.size w w'
theorem retV {w w' : World} {n m f : Int} (h : m = n) (hb : Below w.heap.size w w') : RetV w n f (.returned (.tuple #[.agg #[.bool false, .int .i64 m], .int .i64 f])) w' := by subst h; exact ⟨rfl, hb⟩

/-- what lay there when a call began reads behind it as it did -/
theorem old_cells {W V : World} (hb : Below W.heap.size W V) (n k : Nat) (hn : n < W.heap.size) : V.cell? ⟨n, k, none⟩ = W.cell? ⟨n, k, none⟩ := by
  unfold World.cell?
  simp only [hb.block n hn]
theorem old_marks {W V : World} (hb : Below W.heap.size W V) (n k : Nat) (hn : n < W.heap.size) : V.frozen? ⟨n, k, none⟩ = W.frozen? ⟨n, k, none⟩ := by
  unfold World.frozen?
  simp only [hb.block n hn]
theorem last4 (w : World) (o1 o2 o3 o : Obj) : ((((w.alloc o1).alloc o2).alloc o3).alloc o).heap[w.heap.size + 1 + 1 + 1]? = some o := by simpa using (MapKept.heap_alloc (((w.alloc o1).alloc o2).alloc o3) o).1

theorem below_end {w : World} {o1 o2 o3 o : Obj} {w2 : World} (hb : Below ((((w.alloc o1).alloc o2).alloc o3).alloc o).heap.size ((((w.alloc o1).alloc o2).alloc o3).alloc o) w2) (a a' : Addr) (v v' : Value) (ha : w.heap.size ≤ a.block) (ha' : w.heap.size ≤ a'.block) :
    Below w.heap.size w ((w2.setCell a v).setCell a' v') :=
  (((((((Below.refl _ _).alloc (Nat.le_refl _) _).alloc (by simp) _).alloc (by simp; omega) _).alloc (by simp; omega) _).trans (hb.mono (by simp; omega))).setCell ha _).setCell ha' _
theorem below_end0 {w : World} {o1 o2 o3 o : Obj} :
    Below w.heap.size w ((((w.alloc o1).alloc o2).alloc o3).alloc o) :=
  ((((Below.refl _ _).alloc (Nat.le_refl _) _).alloc (by simp) _).alloc (by simp; omega) _).alloc (by simp; omega) _

end Go.Proofs.YtilholgbepfopaaDoor
/- Apply, at every operator. -/
namespace Go.Proofs.YtilholgbepfopaaDoor
open Go.RowKit Go.MapKept

/-- what Apply gives: the number and the fault -/
def rawN (op x y : Int) : Int :=
  if op = 1 then wrap64 (x + y) else if op = 2 then wrap64 (x - y) else if op = 3 then wrap64 (x * y) else if op = 4 then wrap64 (x.tdiv y) else if op = 5 then minN x y else if op = 6 then maxN x y
  else if op = 7 then bits .and .i64 x y else if op = 8 then bits .or .i64 x y else if op = 9 then bits .xor .i64 x y else lessN x y
def apN (op : Int) (r : Bool) (x : Int) (s : Bool) (y : Int) : Int :=
  if op = 11 then sameN r s x y else if op < 1 ∨ 11 < op ∨ r = true ∨ s = true then 0 else if op = 4 ∧ y = 0 then 0 else rawN op x y
def apF (op : Int) (r : Bool) (s : Bool) (y : Int) : Int :=
  if op = 11 then 0 else if op < 1 ∨ 11 < op ∨ r = true ∨ s = true then -2 else if op = 4 ∧ y = 0 then -3 else 0
end Go.Proofs.YtilholgbepfopaaDoor
/- The reference's Apply. -/
namespace Go.Proofs.YtilholgbepfopaaDoor
open Go.RowKit Go.MapKept

/-- a value that is an integer, and nothing old has changed -/
def RetN (w : World) (n : Int) (e : Ending) (w' : World) : Prop := e = .returned (.agg #[.bool false, .int .i64 n]) ∧ Below w.heap.size w w'
theorem below_one {w : World} {o : Obj} {w2 : World} (hb : Below (w.alloc o).heap.size (w.alloc o) w2) (a a' : Addr) (v v' : Value) (ha : w.heap.size ≤ a.block) (ha' : w.heap.size ≤ a'.block) : Below w.heap.size w ((w2.setCell a v).setCell a' v') :=
  ((((Below.refl _ _).alloc (Nat.le_refl _) _).trans (hb.mono (by simp))).setCell ha _).setCell ha' _
theorem below_three {w : World} {o1 o2 o3 : Obj} {w2 : World} (hb : Below (((w.alloc o1).alloc o2).alloc o3).heap.size (((w.alloc o1).alloc o2).alloc o3) w2) (a a' : Addr) (v v' : Value) (ha : w.heap.size ≤ a.block) (ha' : w.heap.size ≤ a'.block) :
    Below w.heap.size w ((w2.setCell a v).setCell a' v') :=
  ((((((Below.refl _ _).alloc (Nat.le_refl _) _).alloc (by simp) _).alloc (by simp; omega) _).trans (hb.mono (by simp; omega))).setCell ha _).setCell ha' _
theorem below_drewN {w W : World} {n : Nat} {B : Nat} (h : Below B w W) : Below B w (W.drewN n) := by
  induction n with
  | zero => exact h
  | succ n ih => exact ih.drew
theorem below_draws {w : World} {o1 o2 o3 : Obj} {n : Nat} {w2 : World} (hb : Below ((((w.alloc o1).alloc o2).alloc o3).drewN n).heap.size ((((w.alloc o1).alloc o2).alloc o3).drewN n) w2) (a a' : Addr) (v v' : Value) (ha : w.heap.size ≤ a.block) (ha' : w.heap.size ≤ a'.block) :
    Below w.heap.size w ((w2.setCell a v).setCell a' v') :=
  (((below_drewN ((((Below.refl _ _).alloc (Nat.le_refl _) _).alloc (by simp) _).alloc (by simp; omega) _)).trans (hb.mono (by simp; omega))).setCell ha _).setCell ha' _
theorem below_draws0 {w : World} {o1 o2 o3 : Obj} {n : Nat} : Below w.heap.size w ((((w.alloc o1).alloc o2).alloc o3).drewN n) :=
  below_drewN ((((Below.refl _ _).alloc (Nat.le_refl _) _).alloc (by simp) _).alloc (by simp; omega) _)
theorem below_three0 {w : World} {o1 o2 o3 : Obj} : Below w.heap.size w (((w.alloc o1).alloc o2).alloc o3) :=
  (((Below.refl _ _).alloc (Nat.le_refl _) _).alloc (by simp) _).alloc (by simp; omega) _
def bN (b : Bool) : Int := if b then 1 else 0
end Go.Proofs.YtilholgbepfopaaDoor
/- The reference's Apply: faults, the comparison, every operator. -/
namespace Go.Proofs.YtilholgbepfopaaDoor
open Go.RowKit Go.MapKept

end Go.Proofs.YtilholgbepfopaaDoor
/- General: what lay before stays; a bool handed back. -/
namespace Go.Proofs.YtilholgbepfopaaDoor
open Go.RowKit

theorem Below.new {w w' : World} (hb : Below w.heap.size w w') (o : Obj) : Below w.heap.size w (w'.alloc o) := hb.alloc hb.size o
theorem Below.then_ {w w' w'' : World} (h : Below w.heap.size w w') (h2 : Below w'.heap.size w' w'') : Below w.heap.size w w'' := h.trans (h2.mono h.size)
theorem _root_.Go.RowKit.Below.then_' {w w' w'' : World} (h : Below w.heap.size w w') (h2 : Below w'.heap.size w' w'') : Below w.heap.size w w'' := h.trans (h2.mono h.size)
theorem below1 (w : World) (o : Obj) : Below w.heap.size w (w.alloc o) := (Below.refl _ _).alloc (Nat.le_refl _) _
def RetB (w : World) (b : Bool) (e : Ending) (w' : World) : Prop := e = .returned (.bool b) ∧ Below w.heap.size w w'
theorem retB {w w' : World} {a b : Bool} (h : a = b) (hb : Below w.heap.size w w') : RetB w b (.returned (.bool a)) w' := by subst h; exact ⟨rfl, hb⟩
end Go.Proofs.YtilholgbepfopaaDoor
/- Truthy, Unit, Assoc, at. -/
namespace Go.Proofs.YtilholgbepfopaaDoor
open Go.RowKit Go.MapKept

/-- the unit of an operator, and whether it has one -/
def unitN (op : Int) : Int := if op = 3 then 1 else if op = 5 then 9223372036854775807 else if op = 6 then -9223372036854775808 else if op = 7 then -1 else 0
def assocB (op : Int) : Bool := decide (op = 1 ∨ op = 3 ∨ (5 ≤ op ∧ op ≤ 9))
def RetU (w : World) (n : Int) (b : Bool) (e : Ending) (w' : World) : Prop := e = .returned (.tuple #[.agg #[.bool false, .int .i64 n], .bool b]) ∧ Below w.heap.size w w'
theorem retU {w w' : World} {n m : Int} {a b : Bool} (h : m = n) (h2 : a = b) (hb : Below w.heap.size w w') : RetU w n b (.returned (.tuple #[.agg #[.bool false, .int .i64 m], .bool a])) w' := by subst h h2; exact ⟨rfl, hb⟩
theorem assoc_cases {op : Int} (h : assocB op = true) : op = 1 ∨ op = 3 ∨ op = 5 ∨ op = 6 ∨ op = 7 ∨ op = 8 ∨ op = 9 := by
  have := of_decide_eq_true h
  omega
theorem assoc_not {op : Int} (h : assocB op = false) : op ≠ 1 ∧ op ≠ 3 ∧ op ≠ 5 ∧ op ≠ 6 ∧ op ≠ 7 ∧ op ≠ 8 ∧ op ≠ 9 := by
  have := of_decide_eq_false h
  omega
theorem eqb_no {a b : Int} (h : a ≠ b) : (a == b) = false := by simpa using h
/-- what an operator gives for two numbers -/
def atN (op x y : Int) : Int := apN op false x false y
end Go.Proofs.YtilholgbepfopaaDoor
/- Name and Op, and the reference's. -/
namespace Go.Proofs.YtilholgbepfopaaDoor
open Go.RowKit Go.MapKept

/-- the names of the operators from 1 on -/
def nmL : List ByteArray := [⟨#[97, 100, 100]⟩, ⟨#[115, 117, 98]⟩, ⟨#[109, 117, 108]⟩, ⟨#[100, 105, 118]⟩, ⟨#[109, 105, 110]⟩, ⟨#[109, 97, 120]⟩, ⟨#[97, 110, 100]⟩, ⟨#[111, 114]⟩, ⟨#[120, 111, 114]⟩, ⟨#[108, 101, 115, 115]⟩, ⟨#[101, 113, 117, 97, 108]⟩]
def nm (k : Nat) : ByteArray := nmL.getD k ⟨#[]⟩
def nmA : Array Value := (nmL.map Value.string).toArray
/-- the variable holds the names -/
def Glob (w : World) : Prop := ∃ t fr, w.heap[0]? = some (.cells nmA t fr)
theorem Glob.below {w w' : World} (h : Glob w) (hb : Below w.heap.size w w') : Glob w' := by
  obtain ⟨t, fr, h⟩ := h
  have hlt : 0 < w.heap.size := by
    rcases Nat.lt_or_ge 0 w.heap.size with q | q
    · exact q
    · rw [Array.getElem?_eq_none q] at h
      cases h
  exact ⟨t, fr, (hb.block _ hlt).trans h⟩
theorem nmA_at (k : Nat) (hk : k < 11) : nmA[k]? = some (.string (nm k)) := by
  have : k = 0 ∨ k = 1 ∨ k = 2 ∨ k = 3 ∨ k = 4 ∨ k = 5 ∨ k = 6 ∨ k = 7 ∨ k = 8 ∨ k = 9 ∨ k = 10 := by omega
  rcases this with rfl | rfl | rfl | rfl | rfl | rfl | rfl | rfl | rfl | rfl | rfl <;> rfl
theorem Glob.cell {w : World} (h : Glob w) (k : Nat) (hk : k < 11) : w.cell? ⟨0, k, none⟩ = some (.string (nm k)) := by
  obtain ⟨t, fr, h⟩ := h
  rw [cell_of_row w _ k nmA t fr h]
  exact nmA_at k hk
/-- the name of an operator -/
def opB (op : Int) : Bool := decide (1 ≤ op ∧ op ≤ 11)
def opNm (op : Int) : ByteArray := if opB op = true then nm (op.toNat - 1) else ⟨#[]⟩
def RetS (w : World) (s : ByteArray) (b : Bool) (e : Ending) (w' : World) : Prop := e = .returned (.tuple #[.string s, .bool b]) ∧ Below w.heap.size w w'
theorem retS {w w' : World} {s t : ByteArray} {a b : Bool} (h : t = s) (h2 : a = b) (hb : Below w.heap.size w w') : RetS w s b (.returned (.tuple #[.string t, .bool a])) w' := by subst h h2; exact ⟨rfl, hb⟩
set_option maxHeartbeats 1000000 in
set_option maxRecDepth 100000 in
theorem name_any (op : Int) (w : World) (hg : Glob w) : Calls Tryd.prog 83 #[.int .i64 op] w (RetS w (opNm op) (opB op)) := by
  by_cases h : 1 ≤ op ∧ op ≤ 11
  · obtain ⟨h1, h2⟩ := h
    have hB : opB op = true := decide_eq_true ⟨h1, h2⟩
    have Hn := Lib.hid (show nm (op.toNat - 1) = opNm op by unfold opNm; rw [if_pos hB])
    rw [hB]
    clear hB
    have hc := hg.cell (op.toNat - 1) (by omega)
    clear hg
    go_enter Tryd.func83, Tryd.ntmps83
    go_wp2
    go_ret2
    exact retS Hn.out rfl (Below.refl _ _)
  · have hB : opB op = false := decide_eq_false h
    have Hn := Lib.hid (show ⟨#[]⟩ = opNm op by unfold opNm; rw [if_neg (by simp [hB])])
    rw [hB]
    clear hB hg
    by_cases h1 : op < 1
    · go_enter Tryd.func83, Tryd.ntmps83
      go_wp2
      go_ret2
      exact retS Hn.out rfl (Below.refl _ _)
    · have h2 : 11 < op := by omega
      go_enter Tryd.func83, Tryd.ntmps83
      go_wp2
      go_ret2
      exact retS Hn.out rfl (Below.refl _ _)
/-- the reference's names: one empty string, then the names -/
def rnm (k : Nat) : ByteArray := (⟨#[]⟩ :: nmL).getD k ⟨#[]⟩
def RetNames (w : World) (e : Ending) (w' : World) : Prop := e = .returned (.slice (some ⟨w.heap.size, 0, none⟩) 12 12) ∧ (∀ k, k < 12 → w'.cell? ⟨w.heap.size, k, none⟩ = some (.string (rnm k))) ∧ Below w.heap.size w w' ∧ w.heap.size < w'.heap.size
theorem names_any (w : World) : Calls Tryd.prog 71 #[] w (RetNames w) := by
  go_enter Tryd.func71, Tryd.ntmps71
  go_wp2
  go_ret
  refine ⟨rfl, ?_, below1 _ _, by simp⟩
  intro k hk
  rw [cell_of_row _ _ k _ _ _ (heap_alloc_new w _)]
  have : k = 0 ∨ k = 1 ∨ k = 2 ∨ k = 3 ∨ k = 4 ∨ k = 5 ∨ k = 6 ∨ k = 7 ∨ k = 8 ∨ k = 9 ∨ k = 10 ∨ k = 11 := by omega
  rcases this with rfl | rfl | rfl | rfl | rfl | rfl | rfl | rfl | rfl | rfl | rfl | rfl <;> rfl
theorem rnm_succ (k : Nat) : rnm (k + 1) = nm k := rfl
set_option maxHeartbeats 1000000 in
set_option maxRecDepth 100000 in
theorem rname_any (op : Int) (w : World) : Calls Tryd.prog 79 #[.int .i64 op] w (RetS w (opNm op) (opB op)) := by
  by_cases h : 1 ≤ op ∧ op ≤ 11
  · obtain ⟨h1, h2⟩ := h
    have hB : opB op = true := decide_eq_true ⟨h1, h2⟩
    have Hn := Lib.hid (show rnm op.toNat = opNm op by
      unfold opNm
      rw [if_pos hB]
      obtain ⟨k, rfl⟩ : ∃ k : Nat, op = (k : Int) + 1 := ⟨(op - 1).toNat, by omega⟩
      have e1 : ((k : Int) + 1).toNat = k + 1 := by omega
      rw [e1, rnm_succ]
      rfl)
    rw [hB]
    clear hB
    go_enter Tryd.func79, Tryd.ntmps79
    go_wp2_with fail
    refine (names_any _).mono ?_
    rintro e w1 ⟨rfl, hcell, hb, -⟩
    have hc := hcell op.toNat (by omega)
    clear hcell
    go_wp2
    go_ret2
    exact retS Hn.out rfl hb
  · have hB : opB op = false := decide_eq_false h
    have Hn := Lib.hid (show ⟨#[]⟩ = opNm op by unfold opNm; rw [if_neg (by simp [hB])])
    rw [hB]
    clear hB
    by_cases h1 : op < 1
    · go_enter Tryd.func79, Tryd.ntmps79
      go_wp2
      go_ret2
      exact retS Hn.out rfl (Below.refl _ _)
    · have h2 : 11 < op := by omega
      go_enter Tryd.func79, Tryd.ntmps79
      go_wp2
      go_ret2
      exact retS Hn.out rfl (Below.refl _ _)
end Go.Proofs.YtilholgbepfopaaDoor
/- Op, and the reference's. -/
namespace Go.Proofs.YtilholgbepfopaaDoor
open Go.RowKit Go.MapKept

theorem ba_ne {a b : ByteArray} (h : ¬ a = b) : (a.toList == b.toList) = false := by
  rw [beq_eq_false_iff_ne]
  intro e
  rw [ByteArray.toList_eq, ByteArray.toList_eq] at e
  obtain ⟨⟨x⟩⟩ := a
  obtain ⟨⟨y⟩⟩ := b
  exact h (by cases e; rfl)
def opAt : List ByteArray → Int → ByteArray → Int × Bool
  | [], _, _ => (0, false)
  | x :: l, i, s => if x = s then (i, true) else opAt l (i + 1) s
/-- the operator with a name -/
def opR (s : ByteArray) : Int × Bool := opAt nmL 1 s
def NoneOf (s : ByteArray) (k : Nat) : Prop := ∀ j, j < k → nm j ≠ s
theorem NoneOf.zero (s : ByteArray) : NoneOf s 0 := fun j hj => by omega
theorem NoneOf.succ {s : ByteArray} {k : Nat} (h : NoneOf s k) (hk : nm k ≠ s) : NoneOf s (k + 1) := fun j hj => by
  rcases Nat.lt_or_ge j k with q | q
  · exact h j q
  · obtain rfl : j = k := by omega
    exact hk
theorem opAt_hit (l : List ByteArray) (i : Int) (s : ByteArray) (k : Nat) (hk : k < l.length) (hn : ∀ j, j < k → l.getD j ⟨#[]⟩ ≠ s) (hs : l.getD k ⟨#[]⟩ = s) : opAt l i s = (i + k, true) := by
  induction l generalizing i k with
  | nil => simp at hk
  | cons x l ih =>
    cases k with
    | zero =>
      have : x = s := by simpa using hs
      simp [opAt, this]
    | succ k =>
      have h0 : x ≠ s := by simpa using hn 0 (by omega)
      have := ih (i + 1) k (by simpa using hk) (fun j hj => by simpa using hn (j + 1) (by omega)) (by simpa using hs)
      rw [opAt, if_neg h0, this]
      simp
      omega
theorem opAt_miss (l : List ByteArray) (i : Int) (s : ByteArray) (hn : ∀ j, j < l.length → l.getD j ⟨#[]⟩ ≠ s) : opAt l i s = (0, false) := by
  induction l generalizing i with
  | nil => rfl
  | cons x l ih =>
    have h0 : x ≠ s := by simpa using hn 0 (by simp)
    rw [opAt, if_neg h0]
    exact ih (i + 1) (fun j hj => by simpa using hn (j + 1) (by simpa using hj))
theorem opR_hit {s : ByteArray} {k : Nat} (hk : k < 11) (h : NoneOf s k) (hs : nm k = s) : opR s = ((k : Int) + 1, true) := by
  unfold opR
  rw [opAt_hit nmL 1 s k hk h hs]
  simp
  omega
theorem opR_miss {s : ByteArray} (h : NoneOf s 11) : opR s = (0, false) := opAt_miss nmL 1 s h
def RetOp (w : World) (s : ByteArray) (e : Ending) (w' : World) : Prop := e = .returned (.tuple #[.int .i64 (opR s).1, .bool (opR s).2]) ∧ Below w.heap.size w w'
theorem retO_hit {w w' : World} {s : ByteArray} {k : Nat} (hk : k < 11) (h : NoneOf s k) (hs : nm k = s) (hb : Below w.heap.size w w') : RetOp w s (.returned (.tuple #[.int .i64 (1 + (k : Int)), .bool true])) w' := by
  unfold RetOp
  rw [opR_hit hk h hs, Int.add_comm]
  exact ⟨rfl, hb⟩
theorem retO_miss {w w' : World} {s : ByteArray} (h : NoneOf s 11) (hb : Below w.heap.size w w') : RetOp w s (.returned (.tuple #[.int .i64 0, .bool false])) w' := by
  unfold RetOp
  rw [opR_miss h]
  exact ⟨rfl, hb⟩

theorem run_index_nm0 (w : World) : (Instr.index 102 (.agg nmA) (.int .i64 (0 : Nat))).run Tryd.prog w = .ok (.string (nm 0)) w := by kernel_rfl
theorem run_index_nm1 (w : World) : (Instr.index 102 (.agg nmA) (.int .i64 (1 : Nat))).run Tryd.prog w = .ok (.string (nm 1)) w := by kernel_rfl
theorem run_index_nm2 (w : World) : (Instr.index 102 (.agg nmA) (.int .i64 (2 : Nat))).run Tryd.prog w = .ok (.string (nm 2)) w := by kernel_rfl
theorem run_index_nm3 (w : World) : (Instr.index 102 (.agg nmA) (.int .i64 (3 : Nat))).run Tryd.prog w = .ok (.string (nm 3)) w := by kernel_rfl
theorem run_index_nm4 (w : World) : (Instr.index 102 (.agg nmA) (.int .i64 (4 : Nat))).run Tryd.prog w = .ok (.string (nm 4)) w := by kernel_rfl
theorem run_index_nm5 (w : World) : (Instr.index 102 (.agg nmA) (.int .i64 (5 : Nat))).run Tryd.prog w = .ok (.string (nm 5)) w := by kernel_rfl
theorem run_index_nm6 (w : World) : (Instr.index 102 (.agg nmA) (.int .i64 (6 : Nat))).run Tryd.prog w = .ok (.string (nm 6)) w := by kernel_rfl
theorem run_index_nm7 (w : World) : (Instr.index 102 (.agg nmA) (.int .i64 (7 : Nat))).run Tryd.prog w = .ok (.string (nm 7)) w := by kernel_rfl
theorem run_index_nm8 (w : World) : (Instr.index 102 (.agg nmA) (.int .i64 (8 : Nat))).run Tryd.prog w = .ok (.string (nm 8)) w := by kernel_rfl
theorem run_index_nm9 (w : World) : (Instr.index 102 (.agg nmA) (.int .i64 (9 : Nat))).run Tryd.prog w = .ok (.string (nm 9)) w := by kernel_rfl
theorem run_index_nm10 (w : World) : (Instr.index 102 (.agg nmA) (.int .i64 (10 : Nat))).run Tryd.prog w = .ok (.string (nm 10)) w := by kernel_rfl
theorem run_index_nm (w : World) (k : Nat) (hk : k < 11) : (Instr.index 102 (.agg nmA) (.int .i64 k)).run Tryd.prog w = .ok (.string (nm k)) w := by
  have : k = 0 ∨ k = 1 ∨ k = 2 ∨ k = 3 ∨ k = 4 ∨ k = 5 ∨ k = 6 ∨ k = 7 ∨ k = 8 ∨ k = 9 ∨ k = 10 := by omega
  rcases this with rfl | rfl | rfl | rfl | rfl | rfl | rfl | rfl | rfl | rfl | rfl
  · exact run_index_nm0 w
  · exact run_index_nm1 w
  · exact run_index_nm2 w
  · exact run_index_nm3 w
  · exact run_index_nm4 w
  · exact run_index_nm5 w
  · exact run_index_nm6 w
  · exact run_index_nm7 w
  · exact run_index_nm8 w
  · exact run_index_nm9 w
  · exact run_index_nm10 w
theorem size_names : (Tryd.prog.info? 102).map (·.size) = some nmA.size := by kernel_rfl

set_option maxHeartbeats 1000000 in
set_option maxRecDepth 100000 in
theorem op_any (s : ByteArray) (w : World) (hg : Glob w) : Calls Tryd.prog 55 #[.string s] w (RetOp w s) := by
  obtain ⟨t, fr, hg1⟩ := hg
  have Hg := Lib.hid hg1
  clear hg1
  go_enter Tryd.func55, Tryd.ntmps55
  go_wp2_with (refine wpList_load_row rfl 102 _ rfl 0 rfl t nmA fr _ Hg.out Tryd.underlying102 rfl size_names ?_)
  go_loop [4, 5, 7] (fun _ _ i => ∃ k : Nat, k ≤ 11 ∧ i = .int .i64 k ∧ NoneOf s k) (fun _ _ i => 11 - (intOf i).toNat)
  case atStart => exact ⟨0, by omega, rfl, NoneOf.zero s⟩
  case round =>
    obtain ⟨k, hk, rfl, hN⟩ := hrel
    have HN := Lib.hid hN
    clear hN
    by_cases hlt : k < 11
    · have hi := run_index_nm w k hlt
      by_cases hs : nm k = s
      · have hq : ((nm k).toList == s.toList) = true := by rw [hs]; simp
        have Hs := Lib.hid hs
        clear hs
        go_wp2
        go_ret2
        exact retO_hit hlt HN.out Hs.out (Below.refl _ _)
      · have hq : ((nm k).toList == s.toList) = false := ba_ne hs
        have Hs := Lib.hid hs
        clear hs
        go_wp2
        go_round
        case rel => exact ⟨k + 1, by omega, by go_num, HN.out.succ Hs.out⟩
        case measure => simp [intOf]; omega
    · obtain rfl : k = 11 := by omega
      go_wp2
      go_ret2
      exact retO_miss HN.out (Below.refl _ _)

theorem retO_rhit {w w' : World} {s : ByteArray} {k : Nat} (h0 : 0 < k) (hk : k < 12) (h : NoneOf s (k - 1)) (hs : rnm k = s) (hb : Below w.heap.size w w') : RetOp w s (.returned (.tuple #[.int .i64 (k : Int), .bool true])) w' := by
  obtain ⟨j, rfl⟩ : ∃ j, k = j + 1 := ⟨k - 1, by omega⟩
  unfold RetOp
  rw [opR_hit (k := j) (by omega) h hs]
  exact ⟨rfl, hb⟩
set_option maxHeartbeats 1000000 in
set_option maxRecDepth 100000 in
theorem rop_any (s : ByteArray) (w : World) : Calls Tryd.prog 56 #[.string s] w (RetOp w s) := by
  go_enter Tryd.func56, Tryd.ntmps56
  go_wp2_with fail
  refine (names_any _).mono ?_
  rintro e w1 ⟨rfl, hcell, hb, -⟩
  have Hc := Lib.hid hcell
  have Hb := Lib.hid hb
  clear hcell hb
  go_wp2_with fail
  go_loop [4, 5, 8] (fun _ _ i => ∃ k : Nat, k ≤ 12 ∧ i = .int .i64 k ∧ NoneOf s (k - 1)) (fun _ _ i => 12 - (intOf i).toNat)
  case atStart => exact ⟨0, by omega, rfl, NoneOf.zero s⟩
  case round =>
    obtain ⟨k, hk, rfl, hN⟩ := hrel
    have HN := Lib.hid hN
    clear hN
    by_cases hlt : k < 12
    · have hi := Hc.out k hlt
      by_cases h0 : 0 < k
      · by_cases hs : rnm k = s
        · have hq : ((rnm k).toList == s.toList) = true := by rw [hs]; simp
          have Hs := Lib.hid hs
          clear hs
          go_wp2
          go_ret2
          exact retO_rhit h0 hlt HN.out Hs.out Hb.out
        · have hq : ((rnm k).toList == s.toList) = false := ba_ne hs
          have Hs := Lib.hid hs
          clear hs
          go_wp2
          go_round
          case rel => exact ⟨k + 1, by omega, by go_num, by
            have := HN.out.succ (k := k - 1) (by rw [← rnm_succ, show k - 1 + 1 = k by omega]; exact Hs.out)
            rw [show k - 1 + 1 = k by omega] at this
            exact this⟩
          case measure => simp [intOf]; omega
      · obtain rfl : k = 0 := by omega
        go_wp2
        go_round
        case rel => exact ⟨1, by omega, by go_num, NoneOf.zero s⟩
        case measure => simp [intOf]
    · obtain rfl : k = 12 := by omega
      go_wp2
      go_ret2
      exact retO_miss HN.out Hb.out
end Go.Proofs.YtilholgbepfopaaDoor
/- Rows of cells that are read: slices of structs; appending them to what the call owns. -/
namespace Go.Proofs.YtilholgbepfopaaDoor
open Go.RowKit

theorem Below.grew {w w' : World} {row : Option Nat} (h : w.grownBy w' row) {B : Nat} (hB : B ≤ w.heap.size) (hr : ∀ k, row = some k → B ≤ k) : Below B w w' := (Below.refl B w).grown h hB hr
theorem Below.grewNone {w w' : World} (h : w.grownBy w' none) : Below w.heap.size w w' := Below.grew h (Nat.le_refl _) (by intro k hk; cases hk)

theorem addr_add (b o j : Nat) : (⟨b, o, none⟩ : Addr).add j = ⟨b, o + j, none⟩ := by unfold Addr.add; split <;> simp_all
theorem addr_spot {w : World} {a : Addr} {v : Value} (h : w.cell? a = some v) : a.spot = none := by
  unfold World.cell? at h
  split at h
  · split at h
    · cases h
    · rename_i hs
      simpa using hs
  · cases h

/-- v is a slice of n elements of sz cells each, whose cells read xs -/
def SlAt (w : World) (sz : Nat) (v : Value) (n : Nat) (xs : List Value) : Prop :=
  (v = .slice none 0 0 ∧ n = 0 ∧ xs = []) ∨ (∃ ad c, v = .slice (some ad) n c ∧ n ≤ c ∧ xs.length = n * sz ∧ ∀ j u, xs[j]? = some u → w.cell? (ad.add j) = some u)
theorem SlAt.len {w : World} {sz : Nat} {v : Value} {n : Nat} {xs : List Value} (h : SlAt w sz v n xs) : xs.length = n * sz := by
  rcases h with ⟨_, rfl, rfl⟩ | ⟨_, _, _, _, h, _⟩
  · simp
  · exact h
theorem SlAt.shape {w : World} {sz : Nat} {v : Value} {n : Nat} {xs : List Value} (h : SlAt w sz v n xs) : ∃ a c, v = .slice a n c := by
  rcases h with ⟨rfl, rfl, rfl⟩ | ⟨ad, c, rfl, _⟩
  · exact ⟨_, _, rfl⟩
  · exact ⟨_, _, rfl⟩
theorem SlAt.cap {w : World} {sz : Nat} {a : Option Addr} {n m c : Nat} {xs : List Value} (h : SlAt w sz (.slice a n c) m xs) : n ≤ c := by
  rcases h with ⟨e, _, _⟩ | ⟨ad, c', e, hnc, _⟩
  · obtain ⟨_, rfl, rfl⟩ := Value.slice.inj e
    exact Nat.le_refl _
  · obtain ⟨_, rfl, rfl⟩ := Value.slice.inj e
    exact hnc
theorem SlAt.pos {w : World} {sz : Nat} {v : Value} {n : Nat} {xs : List Value} (h : SlAt w sz v n xs) (hn : 0 < n) (hs : 0 < sz) :
    ∃ b o c, v = .slice (some ⟨b, o, none⟩) n c ∧ b < w.heap.size ∧ ∀ j u, xs[j]? = some u → w.cell? ⟨b, o + j, none⟩ = some u := by
  rcases h with ⟨rfl, rfl, rfl⟩ | ⟨ad, c, rfl, _, hl, hc⟩
  · omega
  · have hp : 0 < xs.length := by rw [hl]; exact Nat.mul_pos hn hs
    have h0 := hc 0 _ (List.getElem?_eq_getElem hp)
    have hsp := addr_spot h0
    rw [show ad.add 0 = ad from by unfold Addr.add; rw [if_pos rfl]] at hsp h0
    obtain ⟨b, o, sp⟩ := ad
    simp only at hsp
    subst hsp
    exact ⟨b, o, c, rfl, World.block_lt_of_cell? w _ h0, fun j u hj => by rw [← addr_add]; exact hc j u hj⟩
theorem SlAt.below {w w' : World} {sz : Nat} {v : Value} {n : Nat} {xs : List Value} (h : SlAt w sz v n xs) (hb : Below w.heap.size w w') : SlAt w' sz v n xs := by
  rcases h with h | ⟨ad, c, hv, hnc, hl, hc⟩
  · exact .inl h
  · exact .inr ⟨ad, c, hv, hnc, hl, fun j u hj => (hb.cell (World.block_lt_of_cell? w _ (hc j u hj))).trans (hc j u hj)⟩

theorem own_sl {w : World} {base : Nat} {e : TypeId} {sz n : Nat} {v : Value} {xs : List Value} (h : w.ownsRow base e sz v n xs) : SlAt w sz v n xs := by
  rcases h.2 with ⟨rfl, rfl⟩ | ⟨g, cap, cur, rfl, hbg, hgg, hnc, rest⟩
  · exact .inl ⟨rfl, rfl, List.eq_nil_of_length_eq_zero (by simpa using h.1)⟩
  · exact .inr ⟨_, _, rfl, hnc, h.1, h.cells rfl⟩
theorem own_below {w w' : World} {base : Nat} {e : TypeId} {size : Nat} {v : Value} {n : Nat} {xs : List Value} (h : w.ownsRow base e size v n xs) (hb : Below w.heap.size w w') : w'.ownsRow base e size v n xs := by
  refine ⟨h.1, ?_⟩
  rcases h.2 with hn | ⟨g, cap, cur, rfl, hbg, hgg, rest⟩
  · exact .inl hn
  · exact .inr ⟨g, cap, cur, rfl, hbg, by rw [hb.block g (Array.getElem?_eq_some_iff.1 hgg).1]; exact hgg, rest⟩
theorem own_mono {w : World} {base base' : Nat} {e : TypeId} {size : Nat} {v : Value} {n : Nat} {xs : List Value} (h : w.ownsRow base e size v n xs) (hb : base' ≤ base) : w.ownsRow base' e size v n xs := by
  refine ⟨h.1, ?_⟩
  rcases h.2 with hn | ⟨g, cap, cur, rfl, hbg, r⟩
  · exact .inl hn
  · exact .inr ⟨g, cap, cur, rfl, Nat.le_trans hb hbg, r⟩

/-- append of a row that reads xs to one that the call owns -/
theorem run_append_sl {P : Program} (w : World) (base : Nat) (t ty e : TypeId) (i : TypeInfo) (z : Value) (size bytes : Nat) (ht : P.underlying t = some (.slice e)) (hi : P.info? e = some i) (hz : i.zero = some z)
    (hsize : i.size = size) (hby : i.bytes = bytes) (hzs : z.cells.size = size) (hsz : 0 < size)
    (v : Value) (n : Nat) (xs : List Value) (hown : w.ownsRow base e size v n xs) (x : Value) (m : Nat) (news : List Value) (hx : SlAt w size x m news) (h1 : ∀ u ∈ news, u.oneCell' = true)
    (h63 : n + m ≤ maxLen) (hbytes : (n + m) * bytes ≤ 140737488355328) (hbase : base ≤ w.heap.size) :
    ∃ v' w', (Builtin.append_ #[t, t] ty #[v, x]).run P w = .ok v' w' ∧ w'.ownsRow base e size v' (n + m) (xs ++ news) ∧ w.grownBy w' v.ownBlock ∧
      (v'.ownBlock = v.ownBlock ∨ v'.ownBlock = some w.heap.size) := by
  rcases hx with ⟨rfl, rfl, rfl⟩ | ⟨ad, c, rfl, _, hl, hc⟩
  · exact ⟨v, w, run_append_owned_none (P := P) w base t ty e i size ht hi v n xs hown, by simpa using hown, World.grownBy.refl _ _, .inl rfl⟩
  · obtain ⟨v', w', h2, h3, h4, _, h5⟩ := run_append_own_at (P := P) w base t ty e i z size bytes ht hi hz hsize hby hzs hsz v n xs hown ad m c news hl hc h1 h63 hbytes hbase
    exact ⟨v', w', h2, h3, h4, h5⟩

theorem wpList_append_sl {P : Program} {w : World} {ops : Array Oper} {rest : List Oper} {o : Oper} {a : Act} {Q : Exit → Act → World → Prop} (hgd : o.guard = none) (s x : Operand) (t : TypeId)
    (ho : o.op = .call { callee := .builtin .append, args := #[s, x], argTypes := #[t, t] }) (base : Nat) (e : TypeId) (z : Value) (size bytes : Nat) (ht : P.underlying t = some (.slice e))
    (hi : (P.info? e).map (fun i => (i.zero, i.size, i.bytes)) = some (some z, size, bytes)) (hzs : z.cells.size = size) (hsz : 0 < size)
    (v : Value) (n : Nat) (xs : List Value) (hs : a.eval s = v) (hown : w.ownsRow base e size v n xs) (xv : Value) (m : Nat) (news : List Value) (hxe : a.eval x = xv) (hx : SlAt w size xv m news) (h1 : ∀ u ∈ news, u.oneCell' = true)
    (h63 : n + m ≤ maxLen) (hbytes : (n + m) * bytes ≤ 140737488355328) (hbase : base ≤ w.heap.size)
    (h : ∀ v' w', w'.ownsRow base e size v' (n + m) (xs ++ news) → w.grownBy w' v.ownBlock → (v'.ownBlock = v.ownBlock ∨ v'.ownBlock = some w.heap.size) → wpList P ops Q rest (a.put o.dst v') w') :
    wpList P ops Q (o :: rest) a w := by
  obtain ⟨i0, hi0, hz0, hz1, hz2⟩ := info_parts hi
  obtain ⟨v', w', h2, h3, h4, h5⟩ := run_append_sl (P := P) w base t o.type e i0 z size bytes ht hi0 hz0 hz1 hz2 hzs hsz v n xs hown xv m news hx h1 h63 hbytes hbase
  exact Lib.wpList_append_run w hgd s x t t ho v xv hs hxe v' w' h2 (h v' w' h3 h4 h5)

theorem step_append_sl {P : Program} {w : World} {ops : Array Oper} {o : Oper} {a : Act} {K : Act → World → Prop} {Q : Exit → Act → World → Prop} {E : Prop} (hgd : o.guard = none) (s x : Operand) (t : TypeId)
    (ho : o.op = .call { callee := .builtin .append, args := #[s, x], argTypes := #[t, t] }) (base : Nat) (e : TypeId) (z : Value) (size bytes : Nat) (ht : P.underlying t = some (.slice e))
    (hi : (P.info? e).map (fun i => (i.zero, i.size, i.bytes)) = some (some z, size, bytes)) (hzs : z.cells.size = size) (hsz : 0 < size)
    (v : Value) (n : Nat) (xs : List Value) (hs : a.eval s = v) (hown : w.ownsRow base e size v n xs) (xv : Value) (m : Nat) (news : List Value) (hxe : a.eval x = xv) (hx : SlAt w size xv m news) (h1 : ∀ u ∈ news, u.oneCell' = true)
    (h63 : n + m ≤ maxLen) (hbytes : (n + m) * bytes ≤ 140737488355328) (hbase : base ≤ w.heap.size)
    (h : ∀ v' w', w'.ownsRow base e size v' (n + m) (xs ++ news) → w.grownBy w' v.ownBlock → (v'.ownBlock = v.ownBlock ∨ v'.ownBlock = some w.heap.size) → K (a.put o.dst v') w') :
    if Region.wanted o (yielded ops a.tmps) = true then Oper.wp P o a w K Q else E := by
  have hw : Region.wanted o (yielded ops a.tmps) = true := by simp [Region.wanted, hgd]
  rw [if_pos hw]
  obtain ⟨i0, hi0, hz0, hz1, hz2⟩ := info_parts hi
  obtain ⟨v', w', h2, h3, h4, h5⟩ := run_append_sl (P := P) w base t o.type e i0 z size bytes ht hi0 hz0 hz1 hz2 hzs hsz v n xs hown xv m news hx h1 h63 hbytes hbase
  exact Lib.wp_append_run w s x t t ho v xv hs hxe v' w' h2 (h v' w' h3 h4 h5)
end Go.Proofs.YtilholgbepfopaaDoor
/- Programs as trees, and how memory holds them. -/
namespace Go.Proofs.YtilholgbepfopaaDoor
open Go.RowKit

inductive Ex where
  | mk (kind n : Int) (name : ByteArray) (op : Int) (l : List Ex)
def Ex.kind : Ex → Int | .mk k _ _ _ _ => k
def Ex.n : Ex → Int | .mk _ n _ _ _ => n
def Ex.name : Ex → ByteArray | .mk _ _ s _ _ => s
def Ex.op : Ex → Int | .mk _ _ _ o _ => o
def Ex.l : Ex → List Ex | .mk _ _ _ _ l => l
inductive St where
  | mk (kind : Int) (name fn : ByteArray) (n op : Int) (exprs : List Ex) (body els : List St)
def St.kind : St → Int | .mk k _ _ _ _ _ _ _ => k
def St.name : St → ByteArray | .mk _ s _ _ _ _ _ _ => s
def St.fn : St → ByteArray | .mk _ _ s _ _ _ _ _ => s
def St.n : St → Int | .mk _ _ _ n _ _ _ _ => n
def St.op : St → Int | .mk _ _ _ _ o _ _ _ => o
def St.exprs : St → List Ex | .mk _ _ _ _ _ l _ _ => l
def St.body : St → List St | .mk _ _ _ _ _ _ l _ => l
def St.els : St → List St | .mk _ _ _ _ _ _ _ l => l
structure Fn where
  name : ByteArray
  params : List ByteArray
  body : List St

theorem flatten_len {css : List (List Value)} {s : Nat} (h : ∀ c ∈ css, c.length = s) : css.flatten.length = css.length * s := by
  induction css with
  | nil => simp
  | cons c r ih =>
    rw [List.flatten_cons, List.length_append, ih (fun x hx => h x (List.mem_cons_of_mem _ hx)), h c (List.mem_cons_self ..), List.length_cons, Nat.succ_mul]
    omega
theorem flatten_at {css : List (List Value)} {s : Nat} (h : ∀ c ∈ css, c.length = s) {k : Nat} {c : List Value} (hk : css[k]? = some c) {j : Nat} (hj : j < s) : css.flatten[k * s + j]? = c[j]? := by
  induction css generalizing k with
  | nil => simp at hk
  | cons d r ih =>
    have hd := h d (List.mem_cons_self ..)
    rw [List.flatten_cons]
    cases k with
    | zero =>
      simp only [List.getElem?_cons_zero, Option.some.injEq] at hk
      subst hk
      rw [Nat.zero_mul, Nat.zero_add, List.getElem?_append_left (by omega)]
    | succ k =>
      rw [List.getElem?_cons_succ] at hk
      rw [List.getElem?_append_right (by rw [hd, Nat.succ_mul]; omega), hd, show (k + 1) * s + j - s = k * s + j by rw [Nat.succ_mul]; omega]
      exact ih (fun x hx => h x (List.mem_cons_of_mem _ hx)) hk

mutual
/-- these cells are an expression's -/
def ExAt (w : World) : Ex → List Value → Prop
  | .mk k n nm op l, cs => ∃ u, cs = [.int .i64 k, .int .i64 n, .string nm, .int .i64 op, u] ∧ ∃ css : List (List Value), SlAt w 5 u l.length css.flatten ∧ ExL w l css
def ExL (w : World) : List Ex → List (List Value) → Prop
  | [], css => css = []
  | e :: l, css => ∃ c r, css = c :: r ∧ ExAt w e c ∧ ExL w l r
end
/-- v is a slice of the expressions l -/
def ExsAt (w : World) (v : Value) (l : List Ex) : Prop := ∃ css : List (List Value), SlAt w 5 v l.length css.flatten ∧ ExL w l css
mutual
/-- these cells are a statement's -/
def StAt (w : World) : St → List Value → Prop
  | .mk k nm f n op es b e, cs => ∃ u v x, cs = [.int .i64 k, .string nm, .string f, .int .i64 n, .int .i64 op, u, v, x] ∧ ExsAt w u es ∧ (∃ css : List (List Value), SlAt w 8 v b.length css.flatten ∧ StL w b css) ∧ (∃ css : List (List Value), SlAt w 8 x e.length css.flatten ∧ StL w e css)
def StL (w : World) : List St → List (List Value) → Prop
  | [], css => css = []
  | e :: l, css => ∃ c r, css = c :: r ∧ StAt w e c ∧ StL w l r
end
/-- v is a slice of the statements l -/
def StsAt (w : World) (v : Value) (l : List St) : Prop := ∃ css : List (List Value), SlAt w 8 v l.length css.flatten ∧ StL w l css
/-- v is a slice of the strings l -/
def NmsAt (w : World) (v : Value) (l : List ByteArray) : Prop := SlAt w 1 v l.length (l.map Value.string)
/-- these cells are a function's -/
def FnAt (w : World) (f : Fn) (cs : List Value) : Prop := ∃ u v, cs = [.string f.name, u, v] ∧ NmsAt w u f.params ∧ StsAt w v f.body
def FnL (w : World) : List Fn → List (List Value) → Prop
  | [], css => css = []
  | e :: l, css => ∃ c r, css = c :: r ∧ FnAt w e c ∧ FnL w l r
/-- v is a slice of the functions l -/
def FnsAt (w : World) (v : Value) (l : List Fn) : Prop := ∃ css : List (List Value), SlAt w 3 v l.length css.flatten ∧ FnL w l css

theorem ExAt.len {w : World} {e : Ex} {cs : List Value} (h : ExAt w e cs) : cs.length = 5 := by
  cases e
  unfold ExAt at h
  obtain ⟨u, rfl, _⟩ := h
  rfl
theorem StAt.len {w : World} {e : St} {cs : List Value} (h : StAt w e cs) : cs.length = 8 := by
  cases e
  unfold StAt at h
  obtain ⟨u, v, x, rfl, _⟩ := h
  rfl
theorem FnAt.len {w : World} {e : Fn} {cs : List Value} (h : FnAt w e cs) : cs.length = 3 := by
  obtain ⟨u, v, rfl, _⟩ := h
  rfl
theorem ExL.len {w : World} {l : List Ex} {css : List (List Value)} (h : ExL w l css) : css.length = l.length ∧ ∀ c ∈ css, c.length = 5 := by
  induction l generalizing css with
  | nil => unfold ExL at h; subst h; simp
  | cons e l ih =>
    unfold ExL at h
    obtain ⟨c, r, rfl, h1, h2⟩ := h
    obtain ⟨h3, h4⟩ := ih h2
    refine ⟨by simp [h3], fun x hx => ?_⟩
    rcases List.mem_cons.1 hx with rfl | hx
    · exact h1.len
    · exact h4 x hx
theorem StL.len {w : World} {l : List St} {css : List (List Value)} (h : StL w l css) : css.length = l.length ∧ ∀ c ∈ css, c.length = 8 := by
  induction l generalizing css with
  | nil => unfold StL at h; subst h; simp
  | cons e l ih =>
    unfold StL at h
    obtain ⟨c, r, rfl, h1, h2⟩ := h
    obtain ⟨h3, h4⟩ := ih h2
    refine ⟨by simp [h3], fun x hx => ?_⟩
    rcases List.mem_cons.1 hx with rfl | hx
    · exact h1.len
    · exact h4 x hx
theorem FnL.len {w : World} {l : List Fn} {css : List (List Value)} (h : FnL w l css) : css.length = l.length ∧ ∀ c ∈ css, c.length = 3 := by
  induction l generalizing css with
  | nil => unfold FnL at h; subst h; simp
  | cons e l ih =>
    unfold FnL at h
    obtain ⟨c, r, rfl, h1, h2⟩ := h
    obtain ⟨h3, h4⟩ := ih h2
    refine ⟨by simp [h3], fun x hx => ?_⟩
    rcases List.mem_cons.1 hx with rfl | hx
    · exact h1.len
    · exact h4 x hx
theorem ExL.get {w : World} {l : List Ex} {css : List (List Value)} (h : ExL w l css) {k : Nat} {e : Ex} (hk : l[k]? = some e) : ∃ c, css[k]? = some c ∧ ExAt w e c := by
  induction l generalizing css k with
  | nil => simp at hk
  | cons d l ih =>
    unfold ExL at h
    obtain ⟨c, r, rfl, h1, h2⟩ := h
    cases k with
    | zero => simp at hk; subst hk; exact ⟨c, rfl, h1⟩
    | succ k => rw [List.getElem?_cons_succ] at hk ⊢; exact ih h2 hk
theorem StL.get {w : World} {l : List St} {css : List (List Value)} (h : StL w l css) {k : Nat} {e : St} (hk : l[k]? = some e) : ∃ c, css[k]? = some c ∧ StAt w e c := by
  induction l generalizing css k with
  | nil => simp at hk
  | cons d l ih =>
    unfold StL at h
    obtain ⟨c, r, rfl, h1, h2⟩ := h
    cases k with
    | zero => simp at hk; subst hk; exact ⟨c, rfl, h1⟩
    | succ k => rw [List.getElem?_cons_succ] at hk ⊢; exact ih h2 hk
theorem FnL.get {w : World} {l : List Fn} {css : List (List Value)} (h : FnL w l css) {k : Nat} {e : Fn} (hk : l[k]? = some e) : ∃ c, css[k]? = some c ∧ FnAt w e c := by
  induction l generalizing css k with
  | nil => simp at hk
  | cons d l ih =>
    unfold FnL at h
    obtain ⟨c, r, rfl, h1, h2⟩ := h
    cases k with
    | zero => simp at hk; subst hk; exact ⟨c, rfl, h1⟩
    | succ k => rw [List.getElem?_cons_succ] at hk ⊢; exact ih h2 hk

mutual
theorem ExAt.below {w w' : World} (hb : Below w.heap.size w w') : ∀ (e : Ex) (cs : List Value), ExAt w e cs → ExAt w' e cs
  | .mk k n nm op l, cs, h => by
    unfold ExAt at h ⊢
    obtain ⟨u, e, css, h1, h2⟩ := h
    exact ⟨u, e, css, h1.below hb, ExL.below hb l css h2⟩
theorem ExL.below {w w' : World} (hb : Below w.heap.size w w') : ∀ (l : List Ex) (css : List (List Value)), ExL w l css → ExL w' l css
  | [], css, h => by unfold ExL at h ⊢; exact h
  | e :: l, css, h => by
    unfold ExL at h ⊢
    obtain ⟨c, r, h0, h1, h2⟩ := h
    exact ⟨c, r, h0, ExAt.below hb e c h1, ExL.below hb l r h2⟩
end
theorem ExsAt.below {w w' : World} {v : Value} {l : List Ex} (h : ExsAt w v l) (hb : Below w.heap.size w w') : ExsAt w' v l := by
  obtain ⟨css, h1, h2⟩ := h
  exact ⟨css, h1.below hb, ExL.below hb l css h2⟩
mutual
theorem StAt.below {w w' : World} (hb : Below w.heap.size w w') : ∀ (e : St) (cs : List Value), StAt w e cs → StAt w' e cs
  | .mk k nm f n op es b e, cs, h => by
    unfold StAt at h ⊢
    obtain ⟨u, v, x, e0, h1, ⟨c1, h2, h3⟩, ⟨c2, h4, h5⟩⟩ := h
    exact ⟨u, v, x, e0, h1.below hb, ⟨c1, h2.below hb, StL.below hb b c1 h3⟩, ⟨c2, h4.below hb, StL.below hb e c2 h5⟩⟩
theorem StL.below {w w' : World} (hb : Below w.heap.size w w') : ∀ (l : List St) (css : List (List Value)), StL w l css → StL w' l css
  | [], css, h => by unfold StL at h ⊢; exact h
  | e :: l, css, h => by
    unfold StL at h ⊢
    obtain ⟨c, r, h0, h1, h2⟩ := h
    exact ⟨c, r, h0, StAt.below hb e c h1, StL.below hb l r h2⟩
end
theorem StsAt.below {w w' : World} {v : Value} {l : List St} (h : StsAt w v l) (hb : Below w.heap.size w w') : StsAt w' v l := by
  obtain ⟨css, h1, h2⟩ := h
  exact ⟨css, h1.below hb, StL.below hb l css h2⟩
theorem NmsAt.below {w w' : World} {v : Value} {l : List ByteArray} (h : NmsAt w v l) (hb : Below w.heap.size w w') : NmsAt w' v l := SlAt.below h hb
theorem FnL.below {w w' : World} (hb : Below w.heap.size w w') : ∀ (l : List Fn) (css : List (List Value)), FnL w l css → FnL w' l css
  | [], css, h => by unfold FnL at h ⊢; exact h
  | e :: l, css, h => by
    unfold FnL at h ⊢
    obtain ⟨c, r, h0, ⟨u, v, h1, h2, h3⟩, h4⟩ := h
    exact ⟨c, r, h0, ⟨u, v, h1, h2.below hb, h3.below hb⟩, FnL.below hb l r h4⟩
theorem FnsAt.below {w w' : World} {v : Value} {l : List Fn} (h : FnsAt w v l) (hb : Below w.heap.size w w') : FnsAt w' v l := by
  obtain ⟨css, h1, h2⟩ := h
  exact ⟨css, h1.below hb, FnL.below hb l css h2⟩

theorem ExsAt.shape {w : World} {v : Value} {l : List Ex} (h : ExsAt w v l) : ∃ a c, v = .slice a l.length c := by
  obtain ⟨css, h1, _⟩ := h
  exact h1.shape
theorem StsAt.shape {w : World} {v : Value} {l : List St} (h : StsAt w v l) : ∃ a c, v = .slice a l.length c := by
  obtain ⟨css, h1, _⟩ := h
  exact h1.shape
theorem NmsAt.shape {w : World} {v : Value} {l : List ByteArray} (h : NmsAt w v l) : ∃ a c, v = .slice a l.length c := SlAt.shape h
theorem FnsAt.shape {w : World} {v : Value} {l : List Fn} (h : FnsAt w v l) : ∃ a c, v = .slice a l.length c := by
  obtain ⟨css, h1, _⟩ := h
  exact h1.shape
/-- element k of a slice of expressions: its cells, and what its own list is -/
theorem ExsAt.elem {w : World} {v : Value} {l : List Ex} (h : ExsAt w v l) {k : Nat} {e : Ex} (hk : l[k]? = some e) :
    ∃ b o c u, v = .slice (some ⟨b, o, none⟩) l.length c ∧ b < w.heap.size ∧ w.cell? ⟨b, o + k * 5, none⟩ = some (.int .i64 e.kind) ∧ w.cell? ⟨b, o + k * 5 + 1, none⟩ = some (.int .i64 e.n) ∧ w.cell? ⟨b, o + k * 5 + 2, none⟩ = some (.string e.name) ∧
      w.cell? ⟨b, o + k * 5 + 3, none⟩ = some (.int .i64 e.op) ∧ w.cell? ⟨b, o + k * 5 + 4, none⟩ = some u ∧ ExsAt w u e.l := by
  obtain ⟨css, h1, h2⟩ := h
  have hlt := (List.getElem?_eq_some_iff.1 hk).1
  obtain ⟨b, o, c, hv, hb, hc⟩ := h1.pos (by omega) (by decide)
  obtain ⟨cs, hcs, he⟩ := h2.get hk
  obtain ⟨hl1, hl2⟩ := h2.len
  have at_ : ∀ j u, cs[j]? = some u → w.cell? ⟨b, o + k * 5 + j, none⟩ = some u := fun j u hj => by
    have hj5 : j < 5 := by have := (List.getElem?_eq_some_iff.1 hj).1; rw [hl2 cs (List.mem_of_getElem? hcs)] at this; exact this
    rw [Nat.add_assoc]
    exact hc _ _ (by rw [flatten_at hl2 hcs hj5]; exact hj)
  obtain ⟨kd, n, nm, op, l'⟩ := e
  unfold ExAt at he
  obtain ⟨u, rfl, css', h3, h4⟩ := he
  exact ⟨b, o, c, u, hv, hb, at_ 0 _ rfl, at_ 1 _ rfl, at_ 2 _ rfl, at_ 3 _ rfl, at_ 4 _ rfl, css', h3, h4⟩
/-- element k of a slice of statements -/
theorem StsAt.elem {w : World} {v : Value} {l : List St} (h : StsAt w v l) {k : Nat} {e : St} (hk : l[k]? = some e) :
    ∃ b o c u x y, v = .slice (some ⟨b, o, none⟩) l.length c ∧ b < w.heap.size ∧ w.cell? ⟨b, o + k * 8, none⟩ = some (.int .i64 e.kind) ∧ w.cell? ⟨b, o + k * 8 + 1, none⟩ = some (.string e.name) ∧ w.cell? ⟨b, o + k * 8 + 2, none⟩ = some (.string e.fn) ∧
      w.cell? ⟨b, o + k * 8 + 3, none⟩ = some (.int .i64 e.n) ∧ w.cell? ⟨b, o + k * 8 + 4, none⟩ = some (.int .i64 e.op) ∧ w.cell? ⟨b, o + k * 8 + 5, none⟩ = some u ∧ w.cell? ⟨b, o + k * 8 + 6, none⟩ = some x ∧ w.cell? ⟨b, o + k * 8 + 7, none⟩ = some y ∧
      ExsAt w u e.exprs ∧ StsAt w x e.body ∧ StsAt w y e.els := by
  obtain ⟨css, h1, h2⟩ := h
  have hlt := (List.getElem?_eq_some_iff.1 hk).1
  obtain ⟨b, o, c, hv, hb, hc⟩ := h1.pos (by omega) (by decide)
  obtain ⟨cs, hcs, he⟩ := h2.get hk
  obtain ⟨hl1, hl2⟩ := h2.len
  have at_ : ∀ j u, cs[j]? = some u → w.cell? ⟨b, o + k * 8 + j, none⟩ = some u := fun j u hj => by
    have hj8 : j < 8 := by have := (List.getElem?_eq_some_iff.1 hj).1; rw [hl2 cs (List.mem_of_getElem? hcs)] at this; exact this
    rw [Nat.add_assoc]
    exact hc _ _ (by rw [flatten_at hl2 hcs hj8]; exact hj)
  obtain ⟨kd, nm, f, n, op, es, bd, el⟩ := e
  unfold StAt at he
  obtain ⟨u, x, y, rfl, h3, h4, h5⟩ := he
  exact ⟨b, o, c, u, x, y, hv, hb, at_ 0 _ rfl, at_ 1 _ rfl, at_ 2 _ rfl, at_ 3 _ rfl, at_ 4 _ rfl, at_ 5 _ rfl, at_ 6 _ rfl, at_ 7 _ rfl, h3, h4, h5⟩
/-- element k of a slice of functions -/
theorem FnsAt.elem {w : World} {v : Value} {l : List Fn} (h : FnsAt w v l) {k : Nat} {e : Fn} (hk : l[k]? = some e) :
    ∃ b o c u x, v = .slice (some ⟨b, o, none⟩) l.length c ∧ b < w.heap.size ∧ w.cell? ⟨b, o + k * 3, none⟩ = some (.string e.name) ∧ w.cell? ⟨b, o + k * 3 + 1, none⟩ = some u ∧ w.cell? ⟨b, o + k * 3 + 2, none⟩ = some x ∧ NmsAt w u e.params ∧ StsAt w x e.body := by
  obtain ⟨css, h1, h2⟩ := h
  have hlt := (List.getElem?_eq_some_iff.1 hk).1
  obtain ⟨b, o, c, hv, hb, hc⟩ := h1.pos (by omega) (by decide)
  obtain ⟨cs, hcs, he⟩ := h2.get hk
  obtain ⟨hl1, hl2⟩ := h2.len
  have at_ : ∀ j u, cs[j]? = some u → w.cell? ⟨b, o + k * 3 + j, none⟩ = some u := fun j u hj => by
    have hj3 : j < 3 := by have := (List.getElem?_eq_some_iff.1 hj).1; rw [hl2 cs (List.mem_of_getElem? hcs)] at this; exact this
    rw [Nat.add_assoc]
    exact hc _ _ (by rw [flatten_at hl2 hcs hj3]; exact hj)
  obtain ⟨u, x, rfl, h3, h4⟩ := he
  exact ⟨b, o, c, u, x, hv, hb, at_ 0 _ rfl, at_ 1 _ rfl, at_ 2 _ rfl, h3, h4⟩
theorem NmsAt.elem {w : World} {v : Value} {l : List ByteArray} (h : NmsAt w v l) {k : Nat} {s : ByteArray} (hk : l[k]? = some s) :
    ∃ b o c, v = .slice (some ⟨b, o, none⟩) l.length c ∧ b < w.heap.size ∧ w.cell? ⟨b, o + k, none⟩ = some (.string s) := by
  have hlt := (List.getElem?_eq_some_iff.1 hk).1
  obtain ⟨b, o, c, hv, hb, hc⟩ := SlAt.pos h (by omega) (by decide)
  exact ⟨b, o, c, hv, hb, hc k _ (by rw [List.getElem?_map, hk]; rfl)⟩
end Go.Proofs.YtilholgbepfopaaDoor
/- General: a bool handed back; comparing two lists from a place on; blocks of cells; worlds that have drawn. -/
namespace Go.Proofs.YtilholgbepfopaaDoor
open Go.RowKit

/-- two lists from place k on -/
def eqFrom {α : Type} [DecidableEq α] (A B : List α) (k : Nat) : Bool := decide (A.drop k = B.drop k)
theorem eqFrom_zero {α : Type} [DecidableEq α] (A B : List α) : eqFrom A B 0 = decide (A = B) := by unfold eqFrom; simp
theorem eqFrom_end {α : Type} [DecidableEq α] (A B : List α) (k : Nat) (h : A.length ≤ k) (h2 : B.length ≤ k) : eqFrom A B k = true := by
  unfold eqFrom
  rw [List.drop_eq_nil_of_le h, List.drop_eq_nil_of_le h2]
  rfl
theorem eqFrom_same {α : Type} [DecidableEq α] {A B : List α} {k : Nat} {x : α} (h : A[k]? = some x) (h2 : B[k]? = some x) : eqFrom A B k = eqFrom A B (k + 1) := by
  obtain ⟨h1, e1⟩ := List.getElem?_eq_some_iff.1 h
  obtain ⟨h3, e3⟩ := List.getElem?_eq_some_iff.1 h2
  unfold eqFrom
  rw [List.drop_eq_getElem_cons h1, List.drop_eq_getElem_cons h3, e1, e3]
  simp
theorem eqFrom_other {α : Type} [DecidableEq α] {A B : List α} {k : Nat} {x y : α} (h : A[k]? = some x) (h2 : B[k]? = some y) (hn : x ≠ y) : eqFrom A B k = false := by
  obtain ⟨h1, e1⟩ := List.getElem?_eq_some_iff.1 h
  obtain ⟨h3, e3⟩ := List.getElem?_eq_some_iff.1 h2
  unfold eqFrom
  rw [List.drop_eq_getElem_cons h1, List.drop_eq_getElem_cons h3, e1, e3]
  simp [hn]
theorem eq_lens {α : Type} [DecidableEq α] {A B : List α} (h : A.length ≠ B.length) : decide (A = B) = false := by
  apply decide_eq_false
  rintro rfl
  exact h rfl

theorem Below.drewN {B : Nat} {w w' : World} (h : Below B w w') (n : Nat) : Below B w (w'.drewN n) := ⟨h.os, h.tape, h.output, h.size, h.block⟩

/-- block b holds these cells, and they may be written -/
structure CsAt (w : World) (b : Nat) (cs : List Value) : Prop where
  cell : ∀ j u, cs[j]? = some u → w.cell? ⟨b, j, none⟩ = some u
  fr : ∀ j, w.frozen? ⟨b, j, none⟩ = false
  lt : b < w.heap.size
theorem CsAt.new (w : World) (cs : List Value) (t : TypeId) : CsAt (w.alloc (.cells cs.toArray t)) w.heap.size cs :=
  ⟨fun j u hj => by rw [cell_of_row _ _ j _ _ _ (heap_alloc_new w _)]; simpa using hj, fun j => frozen_of_row _ _ j _ _ (heap_alloc_new w _), by simp⟩
theorem CsAt.newAt (w : World) (k : Nat) (h : w.heap.size = k) (cs : List Value) (t : TypeId) : CsAt (w.alloc (.cells cs.toArray t)) k cs := h ▸ CsAt.new w cs t
theorem CsAt.below {w w' : World} {b : Nat} {cs : List Value} (h : CsAt w b cs) (hb : Below w.heap.size w w') : CsAt w' b cs :=
  ⟨fun j u hj => (hb.cell (p := ⟨b, j, none⟩) h.lt).trans (h.cell j u hj), fun j => (hb.frozen (p := ⟨b, j, none⟩) h.lt).trans (h.fr j), Nat.lt_of_lt_of_le h.lt hb.size⟩
theorem CsAt.alloc {w : World} {b : Nat} {cs : List Value} (h : CsAt w b cs) (o : Obj) : CsAt (w.alloc o) b cs := h.below (below1 w o)
theorem below_drew' (w : World) : Below w.heap.size w w.drew := (Below.refl _ _).drew
theorem CsAt.set {w : World} {b : Nat} {cs : List Value} (h : CsAt w b cs) {k : Nat} (hk : k < cs.length) (u : Value) : CsAt (w.setCell ⟨b, k, none⟩ u) b (cs.set k u) := by
  refine ⟨fun j v hj => ?_, fun j => by simpa using h.fr j, by simpa [World.setCell] using h.lt⟩
  rw [List.getElem?_set] at hj
  by_cases e : k = j
  · subst e
    rw [if_pos rfl, if_pos hk] at hj
    obtain rfl := Option.some.inj hj
    exact World.cell?_setCell_same' _ _ _ (by rw [h.cell k _ (List.getElem?_eq_getElem hk)]; rfl)
  · rw [if_neg e] at hj
    exact (World.cell?_setCell_other _ _ _ _ (by intro e2; exact e (by cases e2; rfl))).trans (h.cell j v hj)
theorem CsAt.far {w : World} {b : Nat} {cs : List Value} (h : CsAt w b cs) {p : Addr} (hp : b ≠ p.block) (u : Value) : CsAt (w.setCell p u) b cs :=
  have hh : (w.setCell p u).heap[b]? = w.heap[b]? := Below.heap_setCell w p u b hp
  ⟨fun j v hj => (World.cell?_of_block (a := ⟨b, j, none⟩) hh).trans (h.cell j v hj), fun j => (World.frozen?_of_block (a := ⟨b, j, none⟩) hh).trans (h.fr j), by simpa [World.setCell] using h.lt⟩
end Go.Proofs.YtilholgbepfopaaDoor
/- General: strings, compared. -/
namespace Go.Proofs.YtilholgbepfopaaDoor

theorem tstr_ne {s t : ByteArray} (h : s ≠ t) : (s.toList == t.toList) = false := by
  rw [beq_eq_false_iff_ne]
  intro e
  refine h (ByteArray.ext (Array.toList_inj.1 ?_))
  rw [ByteArray.toList_eq, ByteArray.toList_eq] at e
  exact e
theorem tstr_eq {s t : ByteArray} (h : s = t) : (s.toList == t.toList) = true := by subst h; simp

end Go.Proofs.YtilholgbepfopaaDoor
/- Names (of the reference). -/
namespace Go.Proofs.YtilholgbepfopaaDoor
open Go.RowKit

/-- the words that are no names -/
def resL : List ByteArray := [⟨#[110, 105, 108]⟩, ⟨#[102, 105, 101, 108, 100]⟩, ⟨#[110, 101, 119]⟩, ⟨#[102, 117, 110, 99]⟩, ⟨#[115, 101, 116]⟩, ⟨#[115, 116, 111, 114, 101]⟩, ⟨#[99, 97, 108, 108]⟩, ⟨#[105, 102]⟩, ⟨#[101, 108, 115, 101]⟩, ⟨#[102, 111, 114]⟩, ⟨#[119, 104, 105, 108, 101]⟩, ⟨#[114, 101, 116, 117, 114, 110]⟩, ⟨#[116, 104, 114, 111, 119]⟩, ⟨#[116, 114, 121]⟩, ⟨#[99, 97, 116, 99, 104]⟩, ⟨#[101, 109, 105, 116]⟩, ⟨#[97, 115, 107]⟩, ⟨#[114, 101, 100, 117, 99, 101]⟩, ⟨#[101, 110, 100]⟩]
def isRes (s : ByteArray) : Bool := (resL.any fun x => decide (x = s)) || (opR s).2
theorem res_len : resL.length = 19 := rfl
theorem res_world (w : World) : ∃ W, w.alloc (.cells #[.string ⟨#[110, 105, 108]⟩, .string ⟨#[102, 105, 101, 108, 100]⟩, .string ⟨#[110, 101, 119]⟩, .string ⟨#[102, 117, 110, 99]⟩, .string ⟨#[115, 101, 116]⟩, .string ⟨#[115, 116, 111, 114, 101]⟩, .string ⟨#[99, 97, 108, 108]⟩, .string ⟨#[105, 102]⟩, .string ⟨#[101, 108, 115, 101]⟩, .string ⟨#[102, 111, 114]⟩, .string ⟨#[119, 104, 105, 108, 101]⟩, .string ⟨#[114, 101, 116, 117, 114, 110]⟩, .string ⟨#[116, 104, 114, 111, 119]⟩, .string ⟨#[116, 114, 121]⟩, .string ⟨#[99, 97, 116, 99, 104]⟩, .string ⟨#[101, 109, 105, 116]⟩, .string ⟨#[97, 115, 107]⟩, .string ⟨#[114, 101, 100, 117, 99, 101]⟩, .string ⟨#[101, 110, 100]⟩] 9) = W ∧ Below w.heap.size w W ∧ CsAt W w.heap.size (resL.map Value.string) := ⟨_, rfl, below1 _ _, CsAt.new _ _ _⟩
def NoRes (s : ByteArray) (k : Nat) : Prop := ∀ j x, j < k → resL[j]? = some x → x ≠ s
theorem NoRes.succ {s x : ByteArray} {k : Nat} (h : NoRes s k) (hk : resL[k]? = some x) (hx : x ≠ s) : NoRes s (k + 1) := fun j y hj hy => by
  rcases Nat.lt_or_ge j k with q | q
  · exact h j y q hy
  · obtain rfl : j = k := by omega
    rw [hk] at hy
    exact Option.some.inj hy ▸ hx
theorem res_no {s : ByteArray} (h : NoRes s 19) : isRes s = (opR s).2 := by
  unfold isRes
  rw [show (resL.any fun x => decide (x = s)) = false by
    rw [List.any_eq_false]
    intro x hx
    obtain ⟨j, hj⟩ := List.getElem?_of_mem hx
    have hlt := (List.getElem?_eq_some_iff.1 hj).1
    rw [res_len] at hlt
    simpa using h j x hlt hj, Bool.false_or]
theorem res_yes {s x : ByteArray} {k : Nat} (hk : resL[k]? = some x) (hx : x = s) : isRes s = true := by
  unfold isRes
  rw [show (resL.any fun x => decide (x = s)) = true from List.any_eq_true.2 ⟨x, List.mem_of_getElem? hk, by simpa using hx⟩, Bool.true_or]

set_option maxHeartbeats 1000000 in
set_option maxRecDepth 100000 in
theorem rreserved_any (s : ByteArray) (w : World) : Calls Tryd.prog 28 #[.string s] w (RetB w (isRes s)) := by
  obtain ⟨W, hW, hB, hP⟩ := res_world w
  have HW := Lib.hid hW
  have BW := Lib.hid hB
  have PW := Lib.hid hP
  clear hW hB hP
  go_enter Tryd.func28, Tryd.ntmps28
  go_wp2_with fail
  rw [HW.out]
  go_loopw [4, 9] (fun _ i_ wr => ∃ k : Nat, k ≤ 19 ∧ i_ = .int .i64 k ∧ NoRes s k ∧ wr = W) (fun _ i_ _ => 19 - (intOf i_).toNat)
  case atStart => exact ⟨0, by omega, rfl, fun j x hj => by omega, rfl⟩
  case round =>
    obtain ⟨k, hk, rfl, hN, rfl⟩ := hrel
    have HN := Lib.hid hN
    clear hN
    by_cases hlt : k < 19
    · obtain ⟨x, hx⟩ : ∃ x, resL[k]? = some x := ⟨_, List.getElem?_eq_getElem (by rw [res_len]; exact hlt)⟩
      have c0 := PW.out.cell k (.string x) (by rw [List.getElem?_map, hx]; rfl)
      have HX := Lib.hid hx
      clear hx
      by_cases hs : x = s
      · have hq := tstr_eq hs
        have Hs := Lib.hid hs
        clear hs
        go_wp2
        go_ret
        exact retB (res_yes HX.out Hs.out).symm BW.out
      · have hq := tstr_ne hs
        have Hs := Lib.hid hs
        clear hs
        go_wp2
        go_roundw
        case rel => exact ⟨k + 1, by omega, by go_num, HN.out.succ HX.out Hs.out, by first | rfl | trivial⟩
        case measure => simp [intOf]; omega
    · obtain rfl : k = 19 := by omega
      go_wp2_with fail
      refine (rop_any s _).mono ?_
      rintro e w2 ⟨rfl, hb⟩
      go_wp2
      go_ret
      exact retB (res_no HN.out).symm (BW.out.then_' hb)
/-- whether a byte may stand at a place of a name -/
def okB (i b : Nat) : Bool := (decide (97 ≤ b) && decide (b ≤ 122)) || (decide (0 < i) && decide (48 ≤ b) && decide (b ≤ 57))
def NmOK (s : ByteArray) (k : Nat) : Prop := ∀ j, (h : j < s.size) → j < k → okB j s[j].toNat = true
def isNm (s : ByteArray) : Bool := decide (∀ j, (h : j < s.size) → okB j s[j].toNat = true) && (decide (0 < s.size) && decide (s.size ≤ 16) && !isRes s)
theorem NmOK.succ {s : ByteArray} {k : Nat} (h : NmOK s k) (hk : k < s.size) (hb : okB k s[k].toNat = true) : NmOK s (k + 1) := fun j hj hjk => by
  rcases Nat.lt_or_ge j k with q | q
  · exact h j hj q
  · obtain rfl : j = k := by omega
    exact hb
theorem nm_bad {s : ByteArray} {k : Nat} (hk : k < s.size) (hb : okB k s[k].toNat = false) : isNm s = false := by
  unfold isNm
  rw [show decide (∀ j, (h : j < s.size) → okB j s[j].toNat = true) = false from decide_eq_false (fun h => by rw [h k hk] at hb; cases hb), Bool.false_and]
theorem nm_all {s : ByteArray} (h : NmOK s s.size) : isNm s = (decide (0 < s.size) && decide (s.size ≤ 16) && !isRes s) := by
  unfold isNm
  rw [show decide (∀ j, (h : j < s.size) → okB j s[j].toNat = true) = true from decide_eq_true (fun j hj => h j hj hj), Bool.true_and]
set_option maxHeartbeats 1000000 in
set_option maxRecDepth 100000 in
theorem rnm_any (s : ByteArray) (w : World) (hs : s.size ≤ 1000000000) : Calls Tryd.prog 11 #[.string s] w (RetB w (isNm s)) := by
  go_enter Tryd.func11, Tryd.ntmps11
  go_wp2_with fail
  go_loop [3] (fun i_ => ∃ k : Nat, k ≤ s.size ∧ i_ = .int .i64 k ∧ NmOK s k) (fun i_ => s.size - (intOf i_).toNat)
  case atStart => exact ⟨0, Nat.zero_le _, rfl, fun j _ hj => by omega⟩
  case round =>
    obtain ⟨k, hk, rfl, hN⟩ := hrel
    have HN := Lib.hid hN
    clear hN
    by_cases hlt : k < s.size
    · have hki : (k : Int) < (s.size : Int) := by omega
      by_cases h1 : 97 ≤ s[k].toNat
      · have t1 : (97 : Int) ≤ (s[k].toNat : Int) := by omega
        by_cases h2 : s[k].toNat ≤ 122
        · have t2 : (s[k].toNat : Int) ≤ 122 := by omega
          have HF := Lib.hid (HN.out.succ hlt (by unfold okB; simp; omega))
          go_wp2_with fail
          go_round
          case rel => exact ⟨k + 1, by omega, by go_num, HF.out⟩
          case measure => simp [intOf]; omega
        · have t2 : ¬ (s[k].toNat : Int) ≤ 122 := by omega
          have t3 : (48 : Int) ≤ (s[k].toNat : Int) := by omega
          have t4 : ¬ (s[k].toNat : Int) ≤ 57 := by omega
          by_cases h0 : 0 < k
          · have t0 : (0 : Int) < (k : Int) := by omega
            have HF := Lib.hid (nm_bad hlt (by unfold okB; simp; omega))
            go_wp2_with fail
            go_ret
            exact retB HF.out.symm (Below.refl _ _)
          · have t0 : ¬ (0 : Int) < (k : Int) := by omega
            have HF := Lib.hid (nm_bad hlt (by unfold okB; simp; omega))
            go_wp2_with fail
            go_ret
            exact retB HF.out.symm (Below.refl _ _)
      · have t1 : ¬ (97 : Int) ≤ (s[k].toNat : Int) := by omega
        by_cases h0 : 0 < k
        · have t0 : (0 : Int) < (k : Int) := by omega
          by_cases h3 : 48 ≤ s[k].toNat
          · have t3 : (48 : Int) ≤ (s[k].toNat : Int) := by omega
            by_cases h4 : s[k].toNat ≤ 57
            · have t4 : (s[k].toNat : Int) ≤ 57 := by omega
              have HF := Lib.hid (HN.out.succ hlt (by unfold okB; simp; omega))
              go_wp2_with fail
              go_round
              case rel => exact ⟨k + 1, by omega, by go_num, HF.out⟩
              case measure => simp [intOf]; omega
            · have t4 : ¬ (s[k].toNat : Int) ≤ 57 := by omega
              have HF := Lib.hid (nm_bad hlt (by unfold okB; simp; omega))
              go_wp2_with fail
              go_ret
              exact retB HF.out.symm (Below.refl _ _)
          · have t3 : ¬ (48 : Int) ≤ (s[k].toNat : Int) := by omega
            have HF := Lib.hid (nm_bad hlt (by unfold okB; simp; omega))
            go_wp2_with fail
            go_ret
            exact retB HF.out.symm (Below.refl _ _)
        · have t0 : ¬ (0 : Int) < (k : Int) := by omega
          have HF := Lib.hid (nm_bad hlt (by unfold okB; simp; omega))
          go_wp2_with fail
          go_ret
          exact retB HF.out.symm (Below.refl _ _)
    · obtain rfl : k = s.size := by omega
      have HA := Lib.hid (nm_all HN.out)
      by_cases h0 : 0 < s.size
      · have t0 : (0 : Int) < (s.size : Int) := by omega
        by_cases h1 : s.size ≤ 16
        · have t1 : (s.size : Int) ≤ 16 := by omega
          have HB : Hid (isNm s = !isRes s) := Lib.hid (by rw [HA.out]; simp [h0, h1])
          go_wp2_with fail
          refine (rreserved_any s _).mono ?_
          rintro e w2 ⟨rfl, hb⟩
          go_wp2
          go_ret
          exact retB (by rw [HB.out]) hb
        · have t1 : ¬ (s.size : Int) ≤ 16 := by omega
          have HB : Hid (isNm s = false) := Lib.hid (by rw [HA.out]; simp [h1])
          go_wp2
          go_ret
          exact retB HB.out.symm (Below.refl _ _)
      · have t0 : ¬ (0 : Int) < (s.size : Int) := by omega
        have HB : Hid (isNm s = false) := Lib.hid (by rw [HA.out]; simp [h0])
        go_wp2
        go_ret
        exact retB HB.out.symm (Below.refl _ _)
end Go.Proofs.YtilholgbepfopaaDoor
/- Plain functions and lemmas on lists of bytes: the words of a line, the line of words, the lines of a text. No program. -/
namespace Go.Proofs.YtilholgbepfopaaDoor
namespace WMath
/-- a byte that may stand in a plain word -/
def plainB (b : UInt8) : Bool := decide (33 ≤ b.toNat) && decide (b.toNat ≤ 126) && b != 34 && b != 92
def isPlainL (l : List UInt8) : Bool := l.all plainB && !l.isEmpty
/-- the byte that a letter of a pair stands for -/
def unesc (c : UInt8) : Option UInt8 := if c = 34 then some 34 else if c = 92 then some 92 else if c = 110 then some 10 else if c = 114 then some 13 else none
/-- the letter of a pair that stands for a byte -/
def escB (c : UInt8) : Option UInt8 := if c = 34 then some 34 else if c = 92 then some 92 else if c = 10 then some 110 else if c = 13 then some 114 else none
def esc (c : UInt8) : List UInt8 := match escB c with | some d => [92, d] | none => [c]
def wtn (l : List UInt8) : List UInt8 := if isPlainL l then l else 34 :: (l.flatMap esc ++ [34])

abbrev RS := Nat × List UInt8 × List (List UInt8)
def plainStep (c : UInt8) (w : List UInt8) (ws : List (List UInt8)) : RS := if plainB c then (1, w ++ [c], ws) else (5, w, ws)
def stepR (σ : RS) (c : UInt8) : RS :=
  match σ with
  | (0, w, ws) => if c = 34 then (2, w, ws) else plainStep c w ws
  | (1, w, ws) => if c = 32 then (0, [], ws ++ [w]) else plainStep c w ws
  | (2, w, ws) => if c = 34 then (4, w, ws) else if c = 92 then (3, w, ws) else if c = 10 ∨ c = 13 then (5, w, ws) else (2, w ++ [c], ws)
  | (3, w, ws) => match unesc c with | some m => (2, w ++ [m], ws) | none => (5, w, ws)
  | (4, w, ws) => if c = 32 then (0, [], ws ++ [w]) else (5, w, ws)
  | (_, w, ws) => (5, w, ws)
def runR (l : List UInt8) (σ : RS) : RS := l.foldl stepR σ
def endsR (σ : RS) : Option (List (List UInt8)) := if σ.1 = 1 ∨ σ.1 = 4 then some (σ.2.2 ++ [σ.2.1]) else none
/-- the words of a line, or none -/
def readL (l : List UInt8) : Option (List (List UInt8)) := if l = [] then some [] else endsR (runR l (0, [], []))

theorem runR_nil (σ : RS) : runR [] σ = σ := rfl
theorem runR_cons (c : UInt8) (l : List UInt8) (σ : RS) : runR (c :: l) σ = runR l (stepR σ c) := rfl
theorem runR_append (l m : List UInt8) (σ : RS) : runR (l ++ m) σ = runR m (runR l σ) := by simp [runR]
theorem stepR_bad (σ : RS) (c : UInt8) (h : 5 ≤ σ.1) : 5 ≤ (stepR σ c).1 := by
  obtain ⟨st, w, ws⟩ := σ
  match st, h with
  | n + 5, _ => simp [stepR]
theorem runR_bad (l : List UInt8) (σ : RS) (h : 5 ≤ σ.1) : 5 ≤ (runR l σ).1 := by
  induction l generalizing σ with
  | nil => exact h
  | cons c l ih => rw [runR_cons]; exact ih _ (stepR_bad σ c h)
theorem endsR_bad (l : List UInt8) (σ : RS) (h : 5 ≤ σ.1) : endsR (runR l σ) = none := by
  have := runR_bad l σ h
  unfold endsR
  rw [if_neg (by omega)]

/-- the reference's words: the word at the head, and how many bytes it takes -/
def refQ : List UInt8 → List UInt8 → Nat → Option (List UInt8 × Nat)
  | [], _, _ => none
  | c :: r, acc, n =>
    if c = 34 then some (acc, n + 1)
    else if c = 10 ∨ c = 13 then none
    else if c = 92 then
      match r with
      | [] => none
      | d :: r' => match unesc d with
        | none => none
        | some x => refQ r' (acc ++ [x]) (n + 2)
    else refQ r (acc ++ [c]) (n + 1)
def refWordL (t : List UInt8) : Option (List UInt8 × Nat) :=
  if t.head? = some 34 then refQ t.tail [] 1
  else if (t.takeWhile plainB) = [] then none else some (t.takeWhile plainB, (t.takeWhile plainB).length)

theorem refQ_run (t acc : List UInt8) (n : Nat) (ws : List (List UInt8)) :
    match refQ t acc n with
    | none => endsR (runR t (2, acc, ws)) = none
    | some (w, m) => n < m ∧ m ≤ n + t.length ∧ runR t (2, acc, ws) = runR (t.drop (m - n)) (4, w, ws) := by
  match t with
  | [] => simp [refQ, runR, endsR]
  | c :: r =>
    unfold refQ
    by_cases h1 : c = 34
    · simp [h1, runR_cons, stepR]
    · by_cases h2 : c = 10 ∨ c = 13
      · simp only [h1, h2, if_true, if_false]
        rw [runR_cons]
        apply endsR_bad
        have h3 : c ≠ 92 := by rcases h2 with rfl | rfl <;> decide
        simp [stepR, h1, h2, h3]
      · by_cases h3 : c = 92
        · subst h3
          simp only [h1, h2, if_true, if_false]
          match r with
          | [] => simp [runR, stepR, endsR]
          | d :: r' =>
            cases hu : unesc d with
            | none =>
              simp only [hu]
              rw [runR_cons, runR_cons]
              apply endsR_bad
              simp [stepR, hu]
            | some x =>
              simp only [hu]
              have ih := refQ_run r' (acc ++ [x]) (n + 2) ws
              have hs : runR (92 :: d :: r') (2, acc, ws) = runR r' (2, acc ++ [x], ws) := by
                rw [runR_cons, runR_cons]; simp [stepR, hu]
              rw [hs]
              cases hq : refQ r' (acc ++ [x]) (n + 2) with
              | none => simpa [hq] using ih
              | some p =>
                obtain ⟨w, m⟩ := p
                simp only [hq] at ih ⊢
                obtain ⟨a, b, c'⟩ := ih
                refine ⟨by omega, by simp only [List.length_cons]; omega, ?_⟩
                rw [c']
                have : m - n = (m - (n + 2)) + 2 := by omega
                rw [this, List.drop_succ_cons, List.drop_succ_cons]
        · simp only [h1, h2, h3, if_false]
          have ih := refQ_run r (acc ++ [c]) (n + 1) ws
          have hs : runR (c :: r) (2, acc, ws) = runR r (2, acc ++ [c], ws) := by
            rw [runR_cons]; simp [stepR, h1, h2, h3]
          rw [hs]
          cases hq : refQ r (acc ++ [c]) (n + 1) with
          | none => simpa [hq] using ih
          | some p =>
            obtain ⟨w, m⟩ := p
            simp only [hq] at ih ⊢
            obtain ⟨a, b, c'⟩ := ih
            refine ⟨by omega, by simp only [List.length_cons]; omega, ?_⟩
            rw [c']
            have : m - n = (m - (n + 1)) + 1 := by omega
            rw [this, List.drop_succ_cons]

theorem plain_ne (c : UInt8) (h : plainB c = true) : c ≠ 34 ∧ c ≠ 32 ∧ c ≠ 92 ∧ c ≠ 10 ∧ c ≠ 13 := by
  refine ⟨?_, ?_, ?_, ?_, ?_⟩ <;> (rintro rfl; revert h; decide)

theorem plain_run (t acc : List UInt8) (ws : List (List UInt8)) :
    runR t (1, acc, ws) = runR (t.dropWhile plainB) (1, acc ++ t.takeWhile plainB, ws) := by
  induction t generalizing acc with
  | nil => simp
  | cons c r ih =>
    by_cases h : plainB c = true
    · have hn := plain_ne c h
      rw [List.dropWhile_cons_of_pos h, List.takeWhile_cons_of_pos h, runR_cons]
      have : stepR (1, acc, ws) c = (1, acc ++ [c], ws) := by simp [stepR, hn.2.1, plainStep, h]
      rw [this, ih]
      simp
    · rw [List.dropWhile_cons_of_neg h, List.takeWhile_cons_of_neg h]; simp

theorem dropWhile_eq_drop (t : List UInt8) : t.dropWhile plainB = t.drop (t.takeWhile plainB).length := by
  induction t with
  | nil => rfl
  | cons c r ih =>
    by_cases h : plainB c = true
    · rw [List.dropWhile_cons_of_pos h, List.takeWhile_cons_of_pos h]; simpa using ih
    · rw [List.dropWhile_cons_of_neg h, List.takeWhile_cons_of_neg h]; rfl

theorem dropWhile_head (t : List UInt8) (c : UInt8) (r : List UInt8) (h : t.dropWhile plainB = c :: r) : plainB c = false := by
  induction t with
  | nil => cases h
  | cons d t ih =>
    by_cases hd : plainB d = true
    · rw [List.dropWhile_cons_of_pos hd] at h; exact ih h
    · rw [List.dropWhile_cons_of_neg hd] at h
      cases h
      simpa using hd

theorem refWord_run (t : List UInt8) (ws : List (List UInt8)) :
    match refWordL t with
    | none => endsR (runR t (0, [], ws)) = none
    | some (w, m) => 0 < m ∧ m ≤ t.length ∧ ∃ st, (st = 4 ∨ (st = 1 ∧ ∀ c r, t.drop m = c :: r → plainB c = false)) ∧ runR t (0, [], ws) = runR (t.drop m) (st, w, ws) := by
  unfold refWordL
  by_cases h : t.head? = some 34
  · rw [if_pos h]
    match t, h with
    | c :: r, h =>
      simp only [List.head?_cons, Option.some.injEq] at h
      subst h
      simp only [List.tail_cons]
      have hq := refQ_run r [] 1 ws
      have hs : runR (34 :: r) (0, [], ws) = runR r (2, [], ws) := by rw [runR_cons]; simp [stepR]
      rw [hs]
      cases hr : refQ r [] 1 with
      | none => simpa [hr] using hq
      | some p =>
        obtain ⟨w, m⟩ := p
        simp only [hr] at hq ⊢
        obtain ⟨a, b, c⟩ := hq
        refine ⟨by omega, by simp only [List.length_cons]; omega, 4, .inl rfl, ?_⟩
        rw [c]
        have : m = (m - 1) + 1 := by omega
        rw [this, List.drop_succ_cons]
        simp
  · rw [if_neg h]
    by_cases hp : t.takeWhile plainB = []
    · rw [if_pos hp]
      match t, h, hp with
      | [], _, _ => simp [runR, endsR]
      | c :: r, h, hp =>
        have hc : c ≠ 34 := by simpa using h
        have hn : ¬ plainB c = true := by
          intro hh
          rw [List.takeWhile_cons_of_pos hh] at hp
          cases hp
        simp only
        rw [runR_cons]
        apply endsR_bad
        simp [stepR, hc, plainStep, hn]
    · rw [if_neg hp]
      match t, h, hp with
      | c :: r, h, hp =>
        have hc : c ≠ 34 := by simpa using h
        have hh : plainB c = true := by
          by_cases hh : plainB c = true
          · exact hh
          · rw [List.takeWhile_cons_of_neg hh] at hp; exact absurd rfl hp
        refine ⟨?_, ?_, 1, .inr ⟨rfl, ?_⟩, ?_⟩
        · rw [List.takeWhile_cons_of_pos hh]; simp
        · exact (List.takeWhile_sublist _).length_le
        · intro d r' hd
          rw [← dropWhile_eq_drop] at hd
          exact dropWhile_head _ _ _ hd
        · rw [← dropWhile_eq_drop, List.dropWhile_cons_of_pos hh, List.takeWhile_cons_of_pos hh, runR_cons]
          have : stepR (0, [], ws) c = (1, [c], ws) := by simp [stepR, hc, plainStep, hh]
          rw [this, plain_run]
          simp

/-- what the reference does behind a word -/
theorem after_word (t : List UInt8) (ws : List (List UInt8)) (w : List UInt8) (m : Nat) (h : refWordL t = some (w, m)) :
    0 < m ∧ m ≤ t.length ∧
    (m = t.length → endsR (runR t (0, [], ws)) = some (ws ++ [w])) ∧
    (∀ c r, t.drop m = c :: r → c ≠ 32 → endsR (runR t (0, [], ws)) = none) ∧
    (∀ r, t.drop m = 32 :: r → runR t (0, [], ws) = runR r (0, [], ws ++ [w])) := by
  have hr := refWord_run t ws
  rw [h] at hr
  obtain ⟨h0, h1, st, hst, hrun⟩ := hr
  refine ⟨h0, h1, ?_, ?_, ?_⟩
  · intro hm
    rw [hrun, hm, List.drop_length, runR_nil]
    rcases hst with rfl | ⟨rfl, _⟩ <;> simp [endsR]
  · intro c r hd hc
    rw [hrun, hd, runR_cons]
    apply endsR_bad
    rcases hst with rfl | ⟨rfl, hnp⟩
    · simp [stepR, hc]
    · have := hnp c r hd
      simp [stepR, hc, plainStep, this]
  · intro r hd
    rw [hrun, hd, runR_cons]
    rcases hst with rfl | ⟨rfl, _⟩ <;> simp [stepR]

/-- the words of a line, as Split tells them: with the error's number -/
def splitL (l : List UInt8) : List (List UInt8) × Nat :=
  if 4096 < l.length then ([], 3)
  else match readL l with
    | none => ([], 4)
    | some ws => if 256 < ws.length then ([], 3) else (ws, 0)

/-- the line of words -/
def joinL : List (List UInt8) → List UInt8
  | [] => []
  | [w] => wtn w
  | w :: w' :: ws => wtn w ++ 32 :: joinL (w' :: ws)

theorem joinL_snoc (l : List (List UInt8)) (w : List UInt8) : joinL (l ++ [w]) = if l = [] then wtn w else joinL l ++ 32 :: wtn w := by
  match l with
  | [] => simp [joinL]
  | [a] => simp [joinL]
  | a :: b :: r =>
    have ih := joinL_snoc (b :: r) w
    simp only [reduceCtorEq, if_false] at ih ⊢
    show joinL (a :: b :: (r ++ [w])) = _
    have : b :: r ++ [w] = b :: (r ++ [w]) := rfl
    rw [this] at ih
    simp only [joinL] at ih ⊢
    rw [ih]
    simp

theorem joinL_take_succ (l : List (List UInt8)) (k : Nat) (h : k < l.length) :
    joinL (l.take (k + 1)) = if k = 0 then wtn l[k] else joinL (l.take k) ++ 32 :: wtn l[k] := by
  rw [List.take_succ_eq_append_getElem h, joinL_snoc]
  have : (l.take k = []) ↔ k = 0 := by
    rw [List.take_eq_nil_iff]
    constructor
    · rintro (h' | h')
      · exact h'
      · subst h'; simp at h
    · exact .inl
  simp [this]

theorem joinL_take_le (l : List (List UInt8)) (k : Nat) : (joinL (l.take k)).length ≤ (joinL (l.take (k + 1))).length := by
  by_cases h : k < l.length
  · rw [joinL_take_succ l k h]
    by_cases h0 : k = 0
    · subst h0; simp [joinL]
    · simp [h0]
  · rw [List.take_of_length_le (by omega), List.take_of_length_le (by omega)]
    omega

theorem joinL_take_mono (l : List (List UInt8)) (j k : Nat) (h : j ≤ k) : (joinL (l.take j)).length ≤ (joinL (l.take k)).length := by
  induction k with
  | zero => have : j = 0 := by omega
            subst this; omega
  | succ k ih =>
    by_cases hj : j = k + 1
    · subst hj; omega
    · exact Nat.le_trans (ih (by omega)) (joinL_take_le l k)

theorem joinL_take_full (l : List (List UInt8)) (k : Nat) : (joinL (l.take k)).length ≤ (joinL l).length := by
  by_cases h : k ≤ l.length
  · have := joinL_take_mono l k l.length h
    rwa [List.take_length] at this
  · rw [List.take_of_length_le (by omega)]; omega

/-- Join, with the error's number -/
def joinR (l : List (List UInt8)) : List UInt8 × Nat :=
  if 256 < l.length ∨ 4096 < (joinL l).length then ([], 3) else (joinL l, 0)

theorem esc_len (c : UInt8) : 1 ≤ (esc c).length ∧ (esc c).length ≤ 2 := by
  unfold esc; cases escB c <;> simp
theorem flatEsc_len (l : List UInt8) : l.length ≤ (l.flatMap esc).length ∧ (l.flatMap esc).length ≤ 2 * l.length := by
  induction l with
  | nil => simp
  | cons c l ih =>
    have := esc_len c
    simp only [List.flatMap_cons, List.length_append, List.length_cons]
    omega
theorem wtn_len (l : List UInt8) : l.length ≤ (wtn l).length ∧ (wtn l).length ≤ 2 * l.length + 2 := by
  unfold wtn
  split
  · omega
  · have := flatEsc_len l
    simp only [List.length_cons, List.length_append, List.length_nil]
    omega

theorem run_esc (c : UInt8) (w : List UInt8) (ws : List (List UInt8)) : runR (esc c) (2, w, ws) = (2, w ++ [c], ws) := by
  unfold esc
  cases h : escB c with
  | some d =>
    have hu : unesc d = some c := by
      unfold escB at h
      repeat' split at h
      all_goals first | (cases h; done) | (subst_vars; simp only [Option.some.injEq] at h; subst h; decide)
    simp [runR, stepR, hu]
  | none =>
    have : c ≠ 34 ∧ c ≠ 92 ∧ c ≠ 10 ∧ c ≠ 13 := by
      unfold escB at h
      repeat' split at h
      all_goals first | (cases h; done) | exact ⟨by assumption, by assumption, by assumption, by assumption⟩
    simp [runR, stepR, this]

theorem run_flatEsc (l w : List UInt8) (ws : List (List UInt8)) : runR (l.flatMap esc) (2, w, ws) = (2, w ++ l, ws) := by
  induction l generalizing w with
  | nil => simp [runR]
  | cons c l ih => rw [List.flatMap_cons, runR_append, run_esc, ih]; simp

theorem run_plainAll (l w : List UInt8) (ws : List (List UInt8)) (h : l.all plainB = true) : runR l (1, w, ws) = (1, w ++ l, ws) := by
  rw [plain_run]
  have ha : ∀ x ∈ l, plainB x = true := by simpa using h
  have h1 : l.takeWhile plainB = l := by
    rw [← List.append_nil l, List.takeWhile_append_of_pos ha]; simp
  have h2 : l.dropWhile plainB = [] := by rw [dropWhile_eq_drop, h1, List.drop_length]
  rw [h1, h2, runR_nil]

/-- reading a wtn word from the beginning of a word -/
theorem run_wtn (w : List UInt8) (ws : List (List UInt8)) : ∃ st, (st = 1 ∨ st = 4) ∧ runR (wtn w) (0, [], ws) = (st, w, ws) := by
  unfold wtn
  by_cases h : isPlainL w = true
  · rw [if_pos h]
    match w, h with
    | c :: r, h =>
      simp only [isPlainL, List.all_cons, Bool.and_eq_true] at h
      have hn := plain_ne c h.1.1
      refine ⟨1, .inl rfl, ?_⟩
      rw [runR_cons]
      have : stepR (0, [], ws) c = (1, [c], ws) := by simp [stepR, hn.1, plainStep, h.1.1]
      rw [this, run_plainAll _ _ _ h.1.2]
      rfl
  · rw [if_neg h]
    refine ⟨4, .inr rfl, ?_⟩
    rw [runR_cons]
    have : stepR (0, [], ws) 34 = (2, [], ws) := by simp [stepR]
    rw [this, runR_append, run_flatEsc]
    simp [runR, stepR]

theorem run_joinL (l : List (List UInt8)) (ws : List (List UInt8)) (hl : l ≠ []) : endsR (runR (joinL l) (0, [], ws)) = some (ws ++ l) := by
  match l, hl with
  | [w], _ =>
    obtain ⟨st, hst, hr⟩ := run_wtn w ws
    simp only [joinL, hr, endsR]
    rw [if_pos (by omega)]
  | w :: w' :: r, _ =>
    obtain ⟨st, hst, hr⟩ := run_wtn w ws
    have ih := run_joinL (w' :: r) (ws ++ [w]) (by simp)
    simp only [joinL]
    rw [runR_append, hr, runR_cons]
    have : stepR (st, w, ws) 32 = (0, [], ws ++ [w]) := by rcases hst with rfl | rfl <;> simp [stepR]
    rw [this, ih]
    simp

theorem wtn_ne (w : List UInt8) : wtn w ≠ [] := by
  unfold wtn
  by_cases h : isPlainL w = true
  · rw [if_pos h]
    rintro rfl
    simp [isPlainL] at h
  · rw [if_neg h]; simp

theorem joinL_ne (l : List (List UInt8)) (hl : l ≠ []) : joinL l ≠ [] := by
  match l, hl with
  | [w], _ => exact wtn_ne w
  | w :: w' :: r, _ => simp [joinL]

theorem read_join (l : List (List UInt8)) : readL (joinL l) = some l := by
  unfold readL
  by_cases hl : l = []
  · subst hl; simp [joinL]
  · rw [if_neg (joinL_ne l hl), run_joinL l [] hl]; simp

theorem split_join (l : List (List UInt8)) (h : (joinR l).2 = 0) : splitL (joinR l).1 = (l, 0) := by
  unfold joinR at h ⊢
  split at h
  · cases h
  · rename_i hc
    rw [if_neg hc]
    unfold splitL
    simp only
    rw [if_neg (by omega), read_join]
    simp only
    rw [if_neg (by omega)]

theorem esc_ne10 (c : UInt8) : (10 : UInt8) ∉ esc c := by
  unfold esc
  cases h : escB c with
  | some d =>
    unfold escB at h
    repeat' split at h
    all_goals first | (cases h; done) | (simp only [Option.some.injEq] at h; subst h; simp; done)
  | none =>
    have : c ≠ 10 := by
      rintro rfl
      simp [escB] at h
    simp [Ne.symm this]

theorem wtn_ne10 (w : List UInt8) : (10 : UInt8) ∉ wtn w := by
  unfold wtn
  by_cases h : isPlainL w = true
  · rw [if_pos h]
    intro hm
    simp only [isPlainL, Bool.and_eq_true, List.all_eq_true] at h
    exact (plain_ne 10 (h.1 10 hm)).2.2.2.1 rfl
  · rw [if_neg h]
    simp only [List.mem_cons, List.mem_append, List.mem_flatMap, not_or]
    refine ⟨by decide, ?_, by decide, by simp⟩
    rintro ⟨c, _, hc⟩
    exact esc_ne10 c hc

theorem joinL_ne10 (l : List (List UInt8)) : (10 : UInt8) ∉ joinL l := by
  match l with
  | [] => simp [joinL]
  | [w] => exact wtn_ne10 w
  | w :: w' :: r =>
    have ih := joinL_ne10 (w' :: r)
    have := wtn_ne10 w
    simp only [joinL, List.mem_append, List.mem_cons, not_or]
    exact ⟨this, by decide, ih⟩

/-- the lines of a text -/
def linesAux : List UInt8 → List UInt8 → List (List UInt8)
  | [], cur => if cur = [] then [] else [cur]
  | c :: r, cur => if c = 10 then cur :: linesAux r [] else linesAux r (cur ++ [c])
def linesL (t : List UInt8) : List (List UInt8) := linesAux t []

theorem linesAux_noLF (p r cur : List UInt8) (h : (10 : UInt8) ∉ p) : linesAux (p ++ r) cur = linesAux r (cur ++ p) := by
  induction p generalizing cur with
  | nil => simp
  | cons c p ih =>
    simp only [List.mem_cons, not_or] at h
    simp only [List.cons_append, linesAux]
    rw [if_neg (Ne.symm h.1), ih _ h.2]
    simp
theorem linesL_line (p r : List UInt8) (h : (10 : UInt8) ∉ p) : linesL (p ++ 10 :: r) = p :: linesL r := by
  unfold linesL
  rw [linesAux_noLF p _ [] h]
  simp [linesAux]
theorem linesL_last (p : List UInt8) (h : (10 : UInt8) ∉ p) (hp : p ≠ []) : linesL p = [p] := by
  unfold linesL
  have := linesAux_noLF p [] [] h
  simp only [List.append_nil, List.nil_append] at this
  rw [this]
  simp [linesAux, hp]
theorem lines_join2 (l : List (List UInt8)) : linesL (joinL l ++ 10 :: (joinL l ++ [10])) = [joinL l, joinL l] := by
  rw [linesL_line _ _ (joinL_ne10 l), linesL_line _ _ (joinL_ne10 l)]
  rfl

/-- all lines, each with a line feed -/
def unlines (l : List (List UInt8)) : List UInt8 := l.flatMap (· ++ [10])
theorem unlines_aux (t cur : List UInt8) : unlines (linesAux t cur) = cur ++ t ∨ (unlines (linesAux t cur) = cur ++ t ++ [10] ∧ ∃ x, (cur ++ t).getLast? = some x ∧ (t = [] ∨ x ≠ 10)) := by
  induction t generalizing cur with
  | nil =>
    simp only [linesAux]
    by_cases h : cur = []
    · subst h; left; rfl
    · rw [if_neg h]; right
      refine ⟨by simp [unlines], ?_⟩
      rw [List.append_nil]
      exact ⟨cur.getLast h, List.getLast?_eq_some_getLast h, .inl trivial⟩
  | cons c r ih =>
    simp only [linesAux]
    by_cases h : c = 10
    · subst h
      rw [if_pos rfl]
      have ih' := ih []
      have hu : unlines (cur :: linesAux r []) = cur ++ 10 :: unlines (linesAux r []) := by simp [unlines]
      rw [hu]
      rcases ih' with h1 | ⟨h1, x, hx, hx'⟩
      · left; rw [h1]; simp
      · right
        simp only [List.nil_append] at h1 hx
        refine ⟨by rw [h1]; simp, ?_⟩
        have hr : r ≠ [] := by rintro rfl; simp at hx
        rcases hx' with rfl | hx'
        · exact absurd rfl hr
        · refine ⟨x, ?_, .inr hx'⟩
          rw [List.getLast?_append, List.getLast?_cons, hx]
          simp
    · rw [if_neg h]
      rcases ih (cur ++ [c]) with h1 | ⟨h1, x, hx, hx'⟩
      · left; rw [h1]; simp
      · right
        refine ⟨by rw [h1]; simp, x, by simpa using hx, .inr ?_⟩
        rcases hx' with rfl | hx'
        · simp at hx; subst hx; exact h
        · exact hx'
theorem unlines_lines (t : List UInt8) : unlines (linesL t) = t ∨ (unlines (linesL t) = t ++ [10] ∧ t ≠ [] ∧ t.getLast? ≠ some 10) := by
  rcases unlines_aux t [] with h | ⟨h, x, hx, hx'⟩
  · left; simpa [linesL] using h
  · right
    simp only [List.nil_append] at h hx
    have ht : t ≠ [] := by rintro rfl; simp at hx
    refine ⟨by simpa [linesL] using h, ht, ?_⟩
    rw [hx]
    rcases hx' with rfl | hx'
    · exact absurd rfl ht
    · simpa using hx'
end WMath
end Go.Proofs.YtilholgbepfopaaDoor
/- Small facts about worlds: what a conversion from a string lays, what a slice of strings reads as, what the call owns. -/
namespace Go.Proofs.YtilholgbepfopaaDoor
open Go.RowKit WMath

/-- the bytes of a string -/
def bl (s : ByteArray) : List UInt8 := s.data.toList
theorem bl_len (s : ByteArray) : (bl s).length = s.size := by simp [bl]
/-- a string of bytes -/
def bs (l : List UInt8) : ByteArray := ⟨l.toArray⟩
theorem bs_bl (s : ByteArray) : bs (bl s) = s := by simp [bs, bl]
theorem bl_bs (l : List UInt8) : bl (bs l) = l := by simp [bs, bl]
theorem bs_size (l : List UInt8) : (bs l).size = l.length := by simp [bs, ByteArray.size]
theorem bl_inj {s t : ByteArray} (h : bl s = bl t) : s = t := by rw [← bs_bl s, ← bs_bl t, h]
theorem bl_toList (s : ByteArray) : s.toList = bl s := ByteArray.toList_eq s
theorem bl_get (s : ByteArray) (k : Nat) (h : k < s.size) : (bl s)[k]? = some s[k] := by
  unfold bl
  rw [Array.getElem?_toList, Array.getElem?_eq_getElem h]
  rfl
theorem bl_drop (s : ByteArray) (k : Nat) (h : k < s.size) : (bl s).drop k = s[k] :: (bl s).drop (k + 1) := by
  have hl : k < (bl s).length := by rw [bl_len]; exact h
  rw [List.drop_eq_getElem_cons hl]
  have := bl_get s k h
  rw [List.getElem?_eq_getElem hl] at this
  simp only [Option.some.injEq] at this
  rw [this]
theorem bl_take (s : ByteArray) (k : Nat) (h : k < s.size) : (bl s).take (k + 1) = (bl s).take k ++ [s[k]] := by
  have hl : k < (bl s).length := by rw [bl_len]; exact h
  rw [List.take_succ_eq_append_getElem hl]
  have := bl_get s k h
  rw [List.getElem?_eq_getElem hl] at this
  simp only [Option.some.injEq] at this
  rw [this]
theorem bl_take_all (s : ByteArray) (k : Nat) (h : s.size ≤ k) : (bl s).take k = bl s := List.take_of_length_le (by rw [bl_len]; exact h)
theorem bl_empty (s : ByteArray) : (bl s = []) ↔ s.size = 0 := by rw [← List.length_eq_zero_iff, bl_len]

/-- the world behind []byte(s): one draw, one block; what it is good for -/
theorem bytes_of_string {P : Program} (w : World) (src dst e : TypeId) (s : ByteArray) (hs : P.underlying src = some .string) (hd : P.underlying dst = some (.slice e)) (he : P.underlying e = some (.int .u8)) :
    ∃ (W : World) (c : Nat), (convert src dst (.string s)).run P w = .ok (.slice (some ⟨w.heap.size, 0, none⟩) s.size c) W ∧ Below w.heap.size w W ∧
      (∀ k (h : k < s.size), W.cell? ⟨w.heap.size, k, none⟩ = some (.int .u8 (s[k].toNat : Int))) ∧ W.heap.size = w.heap.size + 1 := by
  refine ⟨_, _, run_bytes_of_string w src dst e s hs hd he, ?_, ?_, ?_⟩
  · exact (Below.refl _ _).drew.alloc (Nat.le_refl _) _
  · intro k h
    have := World.cell?_alloc_mark w.drew (bytesRow s (grownCap w s.size 0 e)) e ((bytesRow s (grownCap w s.size 0 e)).size, (bytesRow s (grownCap w s.size 0 e)).size + 1) k
    rw [bytesRow_at s _ k h] at this
    exact this
  · simp

theorem of_not {b : Bool} (h : (!b) = true) : b = false := by simpa using h
theorem of_not' {b : Bool} (h : (!b) = false) : b = true := by simpa using h
theorem u8_eq (b c : UInt8) (h : ((b.toNat : Int) == (c.toNat : Int)) = true) : b = c := by
  rw [beq_iff_eq] at h
  exact UInt8.toNat_inj.1 (by omega)
theorem u8_ne (b c : UInt8) (h : ((b.toNat : Int) == (c.toNat : Int)) = false) : b ≠ c := by
  rintro rfl
  simp at h
theorem u8_t {b c : UInt8} (h : b = c) : ((b.toNat : Int) == (c.toNat : Int)) = true := by subst h; simp
theorem u8_f {b c : UInt8} (h : b ≠ c) : ((b.toNat : Int) == (c.toNat : Int)) = false := by
  rw [beq_eq_false_iff_ne]
  intro e
  exact h (UInt8.toNat_inj.1 (by omega))
theorem byte_lt (b : UInt8) : (b.toNat : Int) < 256 := by have := b.toNat_lt; omega

end Go.Proofs.YtilholgbepfopaaDoor
/- Names (of the code). -/
namespace Go.Proofs.YtilholgbepfopaaDoor
open Go.RowKit

def ltrB (c : Int) : Bool := decide (97 ≤ c) && decide (c ≤ 122)
def digB (c : Int) : Bool := decide (48 ≤ c) && decide (c ≤ 57)
theorem letter_any (c : Int) (w : World) : Calls Tryd.prog 25 #[.int .u8 c] w (fun e w' => e = .returned (.bool (ltrB c)) ∧ w' = w) := by
  go_enter Tryd.func25, Tryd.ntmps25
  by_cases h1 : 97 ≤ c
  · by_cases h2 : c ≤ 122
    · have HB : Hid (ltrB c = true) := Lib.hid (by unfold ltrB; simp [h1, h2])
      go_wp2
      go_ret
      exact ⟨by rw [HB.out]; rfl, rfl⟩
    · have HB : Hid (ltrB c = false) := Lib.hid (by unfold ltrB; simp [h2])
      go_wp2
      go_ret
      exact ⟨by rw [HB.out]; rfl, rfl⟩
  · have HB : Hid (ltrB c = false) := Lib.hid (by unfold ltrB; simp [h1])
    go_wp2
    go_ret
    exact ⟨by rw [HB.out]; rfl, rfl⟩
theorem digit_any (c : Int) (w : World) : Calls Tryd.prog 26 #[.int .u8 c] w (fun e w' => e = .returned (.bool (digB c)) ∧ w' = w) := by
  go_enter Tryd.func26, Tryd.ntmps26
  by_cases h1 : 48 ≤ c
  · by_cases h2 : c ≤ 57
    · have HB : Hid (digB c = true) := Lib.hid (by unfold digB; simp [h1, h2])
      go_wp2
      go_ret
      exact ⟨by rw [HB.out]; rfl, rfl⟩
    · have HB : Hid (digB c = false) := Lib.hid (by unfold digB; simp [h2])
      go_wp2
      go_ret
      exact ⟨by rw [HB.out]; rfl, rfl⟩
  · have HB : Hid (digB c = false) := Lib.hid (by unfold digB; simp [h1])
    go_wp2
    go_ret
    exact ⟨by rw [HB.out]; rfl, rfl⟩

theorem lst_ne {s : ByteArray} {l : List UInt8} (h : ¬ s = ⟨l.toArray⟩) : (s.toList == l) = false := by
  rw [beq_eq_false_iff_ne]
  intro e
  refine h (ByteArray.ext (Array.toList_inj.1 ?_))
  rw [ByteArray.toList_eq] at e
  exact e
theorem lst_eq {s : ByteArray} {l : List UInt8} (h : s = ⟨l.toArray⟩) : (s.toList == l) = true := by
  subst h
  rw [beq_iff_eq, ByteArray.toList_eq]

set_option maxHeartbeats 1000000 in
set_option maxRecDepth 100000 in
theorem sreserved_any (s : ByteArray) (w : World) (hg : Glob w) : Calls Tryd.prog 27 #[.string s] w (RetB w (isRes s)) := by
  have HG := Lib.hid hg
  clear hg
  go_enter Tryd.func27, Tryd.ntmps27
  by_cases h0 : s = ⟨#[110, 105, 108]⟩
  · have q0 := lst_eq (l := [110, 105, 108]) h0
    have HR := Lib.hid (res_yes (k := 0) rfl h0.symm)
    clear h0
    go_wp2_with fail
    go_ret
    exact retB HR.out.symm (Below.refl _ _)
  have H0 := Lib.hid h0
  have q0 := lst_ne (l := [110, 105, 108]) h0
  clear h0
  by_cases h1 : s = ⟨#[102, 105, 101, 108, 100]⟩
  · have q1 := lst_eq (l := [102, 105, 101, 108, 100]) h1
    have HR := Lib.hid (res_yes (k := 1) rfl h1.symm)
    clear h1
    go_wp2_with fail
    go_ret
    exact retB HR.out.symm (Below.refl _ _)
  have H1 := Lib.hid h1
  have q1 := lst_ne (l := [102, 105, 101, 108, 100]) h1
  clear h1
  by_cases h2 : s = ⟨#[110, 101, 119]⟩
  · have q2 := lst_eq (l := [110, 101, 119]) h2
    have HR := Lib.hid (res_yes (k := 2) rfl h2.symm)
    clear h2
    go_wp2_with fail
    go_ret
    exact retB HR.out.symm (Below.refl _ _)
  have H2 := Lib.hid h2
  have q2 := lst_ne (l := [110, 101, 119]) h2
  clear h2
  by_cases h3 : s = ⟨#[102, 117, 110, 99]⟩
  · have q3 := lst_eq (l := [102, 117, 110, 99]) h3
    have HR := Lib.hid (res_yes (k := 3) rfl h3.symm)
    clear h3
    go_wp2_with fail
    go_ret
    exact retB HR.out.symm (Below.refl _ _)
  have H3 := Lib.hid h3
  have q3 := lst_ne (l := [102, 117, 110, 99]) h3
  clear h3
  by_cases h4 : s = ⟨#[115, 101, 116]⟩
  · have q4 := lst_eq (l := [115, 101, 116]) h4
    have HR := Lib.hid (res_yes (k := 4) rfl h4.symm)
    clear h4
    go_wp2_with fail
    go_ret
    exact retB HR.out.symm (Below.refl _ _)
  have H4 := Lib.hid h4
  have q4 := lst_ne (l := [115, 101, 116]) h4
  clear h4
  by_cases h5 : s = ⟨#[115, 116, 111, 114, 101]⟩
  · have q5 := lst_eq (l := [115, 116, 111, 114, 101]) h5
    have HR := Lib.hid (res_yes (k := 5) rfl h5.symm)
    clear h5
    go_wp2_with fail
    go_ret
    exact retB HR.out.symm (Below.refl _ _)
  have H5 := Lib.hid h5
  have q5 := lst_ne (l := [115, 116, 111, 114, 101]) h5
  clear h5
  by_cases h6 : s = ⟨#[99, 97, 108, 108]⟩
  · have q6 := lst_eq (l := [99, 97, 108, 108]) h6
    have HR := Lib.hid (res_yes (k := 6) rfl h6.symm)
    clear h6
    go_wp2_with fail
    go_ret
    exact retB HR.out.symm (Below.refl _ _)
  have H6 := Lib.hid h6
  have q6 := lst_ne (l := [99, 97, 108, 108]) h6
  clear h6
  by_cases h7 : s = ⟨#[105, 102]⟩
  · have q7 := lst_eq (l := [105, 102]) h7
    have HR := Lib.hid (res_yes (k := 7) rfl h7.symm)
    clear h7
    go_wp2_with fail
    go_ret
    exact retB HR.out.symm (Below.refl _ _)
  have H7 := Lib.hid h7
  have q7 := lst_ne (l := [105, 102]) h7
  clear h7
  by_cases h8 : s = ⟨#[101, 108, 115, 101]⟩
  · have q8 := lst_eq (l := [101, 108, 115, 101]) h8
    have HR := Lib.hid (res_yes (k := 8) rfl h8.symm)
    clear h8
    go_wp2_with fail
    go_ret
    exact retB HR.out.symm (Below.refl _ _)
  have H8 := Lib.hid h8
  have q8 := lst_ne (l := [101, 108, 115, 101]) h8
  clear h8
  by_cases h9 : s = ⟨#[102, 111, 114]⟩
  · have q9 := lst_eq (l := [102, 111, 114]) h9
    have HR := Lib.hid (res_yes (k := 9) rfl h9.symm)
    clear h9
    go_wp2_with fail
    go_ret
    exact retB HR.out.symm (Below.refl _ _)
  have H9 := Lib.hid h9
  have q9 := lst_ne (l := [102, 111, 114]) h9
  clear h9
  by_cases h10 : s = ⟨#[119, 104, 105, 108, 101]⟩
  · have q10 := lst_eq (l := [119, 104, 105, 108, 101]) h10
    have HR := Lib.hid (res_yes (k := 10) rfl h10.symm)
    clear h10
    go_wp2_with fail
    go_ret
    exact retB HR.out.symm (Below.refl _ _)
  have H10 := Lib.hid h10
  have q10 := lst_ne (l := [119, 104, 105, 108, 101]) h10
  clear h10
  by_cases h11 : s = ⟨#[114, 101, 116, 117, 114, 110]⟩
  · have q11 := lst_eq (l := [114, 101, 116, 117, 114, 110]) h11
    have HR := Lib.hid (res_yes (k := 11) rfl h11.symm)
    clear h11
    go_wp2_with fail
    go_ret
    exact retB HR.out.symm (Below.refl _ _)
  have H11 := Lib.hid h11
  have q11 := lst_ne (l := [114, 101, 116, 117, 114, 110]) h11
  clear h11
  by_cases h12 : s = ⟨#[116, 104, 114, 111, 119]⟩
  · have q12 := lst_eq (l := [116, 104, 114, 111, 119]) h12
    have HR := Lib.hid (res_yes (k := 12) rfl h12.symm)
    clear h12
    go_wp2_with fail
    go_ret
    exact retB HR.out.symm (Below.refl _ _)
  have H12 := Lib.hid h12
  have q12 := lst_ne (l := [116, 104, 114, 111, 119]) h12
  clear h12
  by_cases h13 : s = ⟨#[116, 114, 121]⟩
  · have q13 := lst_eq (l := [116, 114, 121]) h13
    have HR := Lib.hid (res_yes (k := 13) rfl h13.symm)
    clear h13
    go_wp2_with fail
    go_ret
    exact retB HR.out.symm (Below.refl _ _)
  have H13 := Lib.hid h13
  have q13 := lst_ne (l := [116, 114, 121]) h13
  clear h13
  by_cases h14 : s = ⟨#[99, 97, 116, 99, 104]⟩
  · have q14 := lst_eq (l := [99, 97, 116, 99, 104]) h14
    have HR := Lib.hid (res_yes (k := 14) rfl h14.symm)
    clear h14
    go_wp2_with fail
    go_ret
    exact retB HR.out.symm (Below.refl _ _)
  have H14 := Lib.hid h14
  have q14 := lst_ne (l := [99, 97, 116, 99, 104]) h14
  clear h14
  by_cases h15 : s = ⟨#[101, 109, 105, 116]⟩
  · have q15 := lst_eq (l := [101, 109, 105, 116]) h15
    have HR := Lib.hid (res_yes (k := 15) rfl h15.symm)
    clear h15
    go_wp2_with fail
    go_ret
    exact retB HR.out.symm (Below.refl _ _)
  have H15 := Lib.hid h15
  have q15 := lst_ne (l := [101, 109, 105, 116]) h15
  clear h15
  by_cases h16 : s = ⟨#[97, 115, 107]⟩
  · have q16 := lst_eq (l := [97, 115, 107]) h16
    have HR := Lib.hid (res_yes (k := 16) rfl h16.symm)
    clear h16
    go_wp2_with fail
    go_ret
    exact retB HR.out.symm (Below.refl _ _)
  have H16 := Lib.hid h16
  have q16 := lst_ne (l := [97, 115, 107]) h16
  clear h16
  by_cases h17 : s = ⟨#[114, 101, 100, 117, 99, 101]⟩
  · have q17 := lst_eq (l := [114, 101, 100, 117, 99, 101]) h17
    have HR := Lib.hid (res_yes (k := 17) rfl h17.symm)
    clear h17
    go_wp2_with fail
    go_ret
    exact retB HR.out.symm (Below.refl _ _)
  have H17 := Lib.hid h17
  have q17 := lst_ne (l := [114, 101, 100, 117, 99, 101]) h17
  clear h17
  by_cases h18 : s = ⟨#[101, 110, 100]⟩
  · have q18 := lst_eq (l := [101, 110, 100]) h18
    have HR := Lib.hid (res_yes (k := 18) rfl h18.symm)
    clear h18
    go_wp2_with fail
    go_ret
    exact retB HR.out.symm (Below.refl _ _)
  have H18 := Lib.hid h18
  have q18 := lst_ne (l := [101, 110, 100]) h18
  clear h18
  have HN : Hid (NoRes s 19) := Lib.hid (fun j x hj hx => by
    have : j = 0 ∨ j = 1 ∨ j = 2 ∨ j = 3 ∨ j = 4 ∨ j = 5 ∨ j = 6 ∨ j = 7 ∨ j = 8 ∨ j = 9 ∨ j = 10 ∨ j = 11 ∨ j = 12 ∨ j = 13 ∨ j = 14 ∨ j = 15 ∨ j = 16 ∨ j = 17 ∨ j = 18 := by omega
    rcases this with rfl | rfl | rfl | rfl | rfl | rfl | rfl | rfl | rfl | rfl | rfl | rfl | rfl | rfl | rfl | rfl | rfl | rfl | rfl
    · exact Option.some.inj hx ▸ fun e => H0.out e.symm
    · exact Option.some.inj hx ▸ fun e => H1.out e.symm
    · exact Option.some.inj hx ▸ fun e => H2.out e.symm
    · exact Option.some.inj hx ▸ fun e => H3.out e.symm
    · exact Option.some.inj hx ▸ fun e => H4.out e.symm
    · exact Option.some.inj hx ▸ fun e => H5.out e.symm
    · exact Option.some.inj hx ▸ fun e => H6.out e.symm
    · exact Option.some.inj hx ▸ fun e => H7.out e.symm
    · exact Option.some.inj hx ▸ fun e => H8.out e.symm
    · exact Option.some.inj hx ▸ fun e => H9.out e.symm
    · exact Option.some.inj hx ▸ fun e => H10.out e.symm
    · exact Option.some.inj hx ▸ fun e => H11.out e.symm
    · exact Option.some.inj hx ▸ fun e => H12.out e.symm
    · exact Option.some.inj hx ▸ fun e => H13.out e.symm
    · exact Option.some.inj hx ▸ fun e => H14.out e.symm
    · exact Option.some.inj hx ▸ fun e => H15.out e.symm
    · exact Option.some.inj hx ▸ fun e => H16.out e.symm
    · exact Option.some.inj hx ▸ fun e => H17.out e.symm
    · exact Option.some.inj hx ▸ fun e => H18.out e.symm)
  go_wp2_with fail
  refine (op_any s _ HG.out).mono ?_
  rintro e w2 ⟨rfl, hb⟩
  go_wp2
  go_ret
  exact retB (res_no HN.out).symm hb

theorem isNm_big {s : ByteArray} (h : 16 < s.size) : isNm s = false := by unfold isNm; simp; omega
theorem isNm_zero {s : ByteArray} (h : s.size = 0) : isNm s = false := by unfold isNm; simp; omega
theorem emp0 {s : ByteArray} (h : s.size = 0) : s.toList.isEmpty = true := by
  rw [ByteArray.toList_eq]
  have : s.data.toList.length = 0 := by simpa using h
  rw [List.length_eq_zero_iff.1 this]
  rfl
theorem emp1 {s : ByteArray} (h : 0 < s.size) : s.toList.isEmpty = false := by
  rw [ByteArray.toList_eq]
  have : 0 < s.data.toList.length := by simpa using h
  cases hh : s.data.toList with
  | nil => rw [hh] at this; simp at this
  | cons x l => rfl
theorem ltr_ok {i b : Nat} (h : ltrB (b : Int) = true) : okB i b = true := by
  unfold ltrB at h
  unfold okB
  simp at h ⊢
  omega
theorem dig_ok {i b : Nat} (hi : 0 < i) (h : digB (b : Int) = true) : okB i b = true := by
  unfold digB at h
  unfold okB
  simp at h ⊢
  omega
theorem first_bad {b : Nat} (h : ltrB (b : Int) = false) : okB 0 b = false := by
  unfold ltrB at h
  unfold okB
  simp at h ⊢
  omega
theorem both_bad {i b : Nat} (h : ltrB (b : Int) = false) (h2 : digB (b : Int) = false) : okB i b = false := by
  unfold ltrB at h
  unfold digB at h2
  unfold okB
  simp at h h2 ⊢
  omega

set_option maxHeartbeats 1000000 in
set_option maxRecDepth 100000 in
theorem sname_any (s : ByteArray) (w : World) (hg : Glob w) : Calls Tryd.prog 10 #[.string s] w (RetB w (isNm s)) := by
  obtain ⟨W, c, hcv, hB, hcell, hsz⟩ := bytes_of_string (P := Tryd.prog) w 9 47 5 s Tryd.underlying9 Tryd.underlying47 Tryd.underlying5
  have HB := Lib.hid hB
  have HG := Lib.hid (hg.below hB)
  have HCV := Lib.hid hcv
  clear hB hsz hg hcv
  go_enter Tryd.func10, Tryd.ntmps10
  by_cases h0 : 0 < s.size
  · have e0 := emp1 h0
    by_cases h1 : s.size ≤ 16
    · have t1 : ¬ (16 : Int) < (s.size : Int) := by omega
      go_wp2_with fail
      refine (letter_any _ _).mono ?_
      rintro e w1 ⟨rfl, rfl⟩
      cases hl : ltrB s[0].toNat with
      | false =>
        have HR := Lib.hid (nm_bad h0 (first_bad hl))
        clear hl
        go_wp2_with fail
        go_ret
        exact retB HR.out.symm (Below.refl _ _)
      | true =>
        have HL := Lib.hid (ltr_ok (i := 0) hl)
        clear hl
        have hcv := HCV.out
        go_wp2_with fail
        clear hcv HCV
        go_loop [4, 21] (fun _ i_ => ∃ k : Nat, k ≤ s.size ∧ i_ = .int .i64 k ∧ NmOK s k) (fun _ i_ => s.size - (intOf i_).toNat)
        case atStart => exact ⟨0, Nat.zero_le _, rfl, fun j _ hj => by omega⟩
        case round =>
          obtain ⟨k, hk, rfl, hN⟩ := hrel
          have HN := Lib.hid hN
          clear hN
          by_cases hlt : k < s.size
          · have hc := hcell k hlt
            have hki : (k : Int) < (s.size : Int) := by omega
            clear hcell
            go_wp2_with fail
            refine (letter_any _ _).mono ?_
            rintro e w1 ⟨rfl, rfl⟩
            cases hl : ltrB s[k].toNat with
            | true =>
              have HF := Lib.hid (HN.out.succ hlt (ltr_ok hl))
              clear hl
              go_wp2_with fail
              go_round
              case rel => exact ⟨k + 1, by omega, by go_num, HF.out⟩
              case measure => simp [intOf]; omega
            | false =>
              have HLF := Lib.hid hl
              clear hl
              go_wp2_with fail
              refine (digit_any _ _).mono ?_
              rintro e w1 ⟨rfl, rfl⟩
              cases hd : digB s[k].toNat with
              | true =>
                have HF := Lib.hid (HN.out.succ hlt (by
                  rcases Nat.eq_zero_or_pos k with rfl | hk0
                  · exact HL.out
                  · exact dig_ok hk0 hd))
                clear hd
                go_wp2_with fail
                go_round
                case rel => exact ⟨k + 1, by omega, by go_num, HF.out⟩
                case measure => simp [intOf]; omega
              | false =>
                have HR := Lib.hid (nm_bad hlt (both_bad HLF.out hd))
                clear hd
                go_wp2_with fail
                go_ret
                exact retB HR.out.symm HB.out
          · obtain rfl : k = s.size := by omega
            have HA := Lib.hid (nm_all HN.out)
            have HZ : Hid (isNm s = !isRes s) := Lib.hid (by rw [HA.out]; simp [h0, h1])
            clear hcell
            go_wp2_with fail
            refine (sreserved_any s _ HG.out).mono ?_
            rintro e w2 ⟨rfl, hb⟩
            go_wp2
            go_ret
            exact retB (by rw [HZ.out]) (HB.out.then_' hb)
    · have t1 : (16 : Int) < (s.size : Int) := by omega
      have HR := Lib.hid (isNm_big (show 16 < s.size by omega))
      go_wp2_with fail
      go_ret
      exact retB HR.out.symm (Below.refl _ _)
  · have hz : s.size = 0 := by omega
    have e0 := emp0 hz
    have HR := Lib.hid (isNm_zero hz)
    clear hz
    go_wp2_with fail
    go_ret
    exact retB HR.out.symm (Below.refl _ _)
end Go.Proofs.YtilholgbepfopaaDoor
/- Variables of statements (of the reference): which kinds have a name, whether a list has one, adding one. -/
namespace Go.Proofs.YtilholgbepfopaaDoor
open Go.RowKit

/-- what a statement of a kind has: expressions, Name, Func, N, Op, Body, Else; whether there is such a kind -/
structure Parts where
  exprs : Int
  name : Bool
  fn : Bool
  n : Bool
  op : Bool
  body : Bool
  els : Bool
  ok : Bool
def partsOf (k : Int) : Parts :=
  if k = 1 then ⟨1, true, false, false, false, false, false, true⟩ else
  if k = 11 then ⟨1, true, false, false, false, false, false, true⟩ else
  if k = 2 then ⟨2, false, false, true, false, false, false, true⟩ else
  if k = 3 then ⟨-1, true, true, false, false, false, false, true⟩ else
  if k = 4 then ⟨1, false, false, false, false, true, true, true⟩ else
  if k = 5 then ⟨2, true, false, false, false, true, false, true⟩ else
  if k = 6 then ⟨1, false, false, false, false, true, false, true⟩ else
  if k = 7 then ⟨1, false, false, false, false, false, false, true⟩ else
  if k = 8 then ⟨1, false, false, false, false, false, false, true⟩ else
  if k = 10 then ⟨1, false, false, false, false, false, false, true⟩ else
  if k = 9 then ⟨0, true, false, false, false, true, true, true⟩ else
  if k = 12 then ⟨1, true, false, false, true, false, false, true⟩ else
  ⟨0, false, false, false, false, false, false, false⟩
def RParts (w : World) (p : Parts) (e : Ending) (w' : World) : Prop := e = .returned (.tuple #[.int .i64 p.exprs, .bool p.name, .bool p.fn, .bool p.n, .bool p.op, .bool p.body, .bool p.els, .bool p.ok]) ∧ Below w.heap.size w w'
set_option maxHeartbeats 1000000 in
set_option maxRecDepth 100000 in
theorem parts_any (k : Int) (w : World) : Calls Tryd.prog 77 #[.int .i64 k] w (RParts w (partsOf k)) := by
  by_cases h1 : k = 1
  · subst h1
    go_enter Tryd.func77, Tryd.ntmps77
    go_wp2
    refine bodyPost_ret (v := .tuple #[.int .i64 1, .bool true, .bool false, .bool false, .bool false, .bool false, .bool false, .bool true]) (by simp [results, Tryd.results77, go_sem]) rfl ?_
    exact ⟨by simp [partsOf], Below.refl _ _⟩
  by_cases h11 : k = 11
  · subst h11
    go_enter Tryd.func77, Tryd.ntmps77
    go_wp2
    refine bodyPost_ret (v := .tuple #[.int .i64 1, .bool true, .bool false, .bool false, .bool false, .bool false, .bool false, .bool true]) (by simp [results, Tryd.results77, go_sem]) rfl ?_
    exact ⟨by simp [partsOf], Below.refl _ _⟩
  by_cases h2 : k = 2
  · subst h2
    go_enter Tryd.func77, Tryd.ntmps77
    go_wp2
    refine bodyPost_ret (v := .tuple #[.int .i64 2, .bool false, .bool false, .bool true, .bool false, .bool false, .bool false, .bool true]) (by simp [results, Tryd.results77, go_sem]) rfl ?_
    exact ⟨by simp [partsOf], Below.refl _ _⟩
  by_cases h3 : k = 3
  · subst h3
    go_enter Tryd.func77, Tryd.ntmps77
    go_wp2
    refine bodyPost_ret (v := .tuple #[.int .i64 (-1), .bool true, .bool true, .bool false, .bool false, .bool false, .bool false, .bool true]) (by simp [results, Tryd.results77, go_sem]) rfl ?_
    exact ⟨by simp [partsOf], Below.refl _ _⟩
  by_cases h4 : k = 4
  · subst h4
    go_enter Tryd.func77, Tryd.ntmps77
    go_wp2
    refine bodyPost_ret (v := .tuple #[.int .i64 1, .bool false, .bool false, .bool false, .bool false, .bool true, .bool true, .bool true]) (by simp [results, Tryd.results77, go_sem]) rfl ?_
    exact ⟨by simp [partsOf], Below.refl _ _⟩
  by_cases h5 : k = 5
  · subst h5
    go_enter Tryd.func77, Tryd.ntmps77
    go_wp2
    refine bodyPost_ret (v := .tuple #[.int .i64 2, .bool true, .bool false, .bool false, .bool false, .bool true, .bool false, .bool true]) (by simp [results, Tryd.results77, go_sem]) rfl ?_
    exact ⟨by simp [partsOf], Below.refl _ _⟩
  by_cases h6 : k = 6
  · subst h6
    go_enter Tryd.func77, Tryd.ntmps77
    go_wp2
    refine bodyPost_ret (v := .tuple #[.int .i64 1, .bool false, .bool false, .bool false, .bool false, .bool true, .bool false, .bool true]) (by simp [results, Tryd.results77, go_sem]) rfl ?_
    exact ⟨by simp [partsOf], Below.refl _ _⟩
  by_cases h7 : k = 7
  · subst h7
    go_enter Tryd.func77, Tryd.ntmps77
    go_wp2
    refine bodyPost_ret (v := .tuple #[.int .i64 1, .bool false, .bool false, .bool false, .bool false, .bool false, .bool false, .bool true]) (by simp [results, Tryd.results77, go_sem]) rfl ?_
    exact ⟨by simp [partsOf], Below.refl _ _⟩
  by_cases h8 : k = 8
  · subst h8
    go_enter Tryd.func77, Tryd.ntmps77
    go_wp2
    refine bodyPost_ret (v := .tuple #[.int .i64 1, .bool false, .bool false, .bool false, .bool false, .bool false, .bool false, .bool true]) (by simp [results, Tryd.results77, go_sem]) rfl ?_
    exact ⟨by simp [partsOf], Below.refl _ _⟩
  by_cases h10 : k = 10
  · subst h10
    go_enter Tryd.func77, Tryd.ntmps77
    go_wp2
    refine bodyPost_ret (v := .tuple #[.int .i64 1, .bool false, .bool false, .bool false, .bool false, .bool false, .bool false, .bool true]) (by simp [results, Tryd.results77, go_sem]) rfl ?_
    exact ⟨by simp [partsOf], Below.refl _ _⟩
  by_cases h9 : k = 9
  · subst h9
    go_enter Tryd.func77, Tryd.ntmps77
    go_wp2
    refine bodyPost_ret (v := .tuple #[.int .i64 0, .bool true, .bool false, .bool false, .bool false, .bool true, .bool true, .bool true]) (by simp [results, Tryd.results77, go_sem]) rfl ?_
    exact ⟨by simp [partsOf], Below.refl _ _⟩
  by_cases h12 : k = 12
  · subst h12
    go_enter Tryd.func77, Tryd.ntmps77
    go_wp2
    refine bodyPost_ret (v := .tuple #[.int .i64 1, .bool true, .bool false, .bool false, .bool true, .bool false, .bool false, .bool true]) (by simp [results, Tryd.results77, go_sem]) rfl ?_
    exact ⟨by simp [partsOf], Below.refl _ _⟩
  have t1 : (k == 1) = false := by rw [beq_eq_false_iff_ne]; exact h1
  have t11 : (k == 11) = false := by rw [beq_eq_false_iff_ne]; exact h11
  have t2 : (k == 2) = false := by rw [beq_eq_false_iff_ne]; exact h2
  have t3 : (k == 3) = false := by rw [beq_eq_false_iff_ne]; exact h3
  have t4 : (k == 4) = false := by rw [beq_eq_false_iff_ne]; exact h4
  have t5 : (k == 5) = false := by rw [beq_eq_false_iff_ne]; exact h5
  have t6 : (k == 6) = false := by rw [beq_eq_false_iff_ne]; exact h6
  have t7 : (k == 7) = false := by rw [beq_eq_false_iff_ne]; exact h7
  have t8 : (k == 8) = false := by rw [beq_eq_false_iff_ne]; exact h8
  have t10 : (k == 10) = false := by rw [beq_eq_false_iff_ne]; exact h10
  have t9 : (k == 9) = false := by rw [beq_eq_false_iff_ne]; exact h9
  have t12 : (k == 12) = false := by rw [beq_eq_false_iff_ne]; exact h12
  have hp : partsOf k = ⟨0, false, false, false, false, false, false, false⟩ := by simp [partsOf, h1, h11, h2, h3, h4, h5, h6, h7, h8, h10, h9, h12]
  rw [hp]
  clear hp
  go_enter Tryd.func77, Tryd.ntmps77
  go_wp2
  refine bodyPost_ret (v := .tuple #[.int .i64 0, .bool false, .bool false, .bool false, .bool false, .bool false, .bool false, .bool false]) (by simp [results, Tryd.results77, go_sem]) rfl ?_
  exact ⟨rfl, Below.refl _ _⟩
theorem rnames_any (k : Int) (w : World) : Calls Tryd.prog 66 #[.int .i64 k] w (RetB w (partsOf k).name) := by
  go_enter Tryd.func66, Tryd.ntmps66
  go_wp2_with fail
  refine (parts_any k w).mono ?_
  rintro e w1 ⟨rfl, hb⟩
  go_wp2
  go_ret
  exact ⟨rfl, hb⟩

/-- whether a list has a name -/
def hasN (l : List ByteArray) (s : ByteArray) : Bool := l.any fun x => decide (x = s)
def addN (l : List ByteArray) (s : ByteArray) : List ByteArray := if hasN l s = true then l else l ++ [s]
def NoneN (l : List ByteArray) (s : ByteArray) (k : Nat) : Prop := ∀ j x, j < k → l[j]? = some x → x ≠ s
theorem NoneN.succ {l : List ByteArray} {s x : ByteArray} {k : Nat} (h : NoneN l s k) (hk : l[k]? = some x) (hx : x ≠ s) : NoneN l s (k + 1) := fun j y hj hy => by
  rcases Nat.lt_or_ge j k with q | q
  · exact h j y q hy
  · obtain rfl : j = k := by omega
    rw [hk] at hy
    exact Option.some.inj hy ▸ hx
theorem has_no {l : List ByteArray} {s : ByteArray} (h : NoneN l s l.length) : hasN l s = false := by
  unfold hasN
  rw [List.any_eq_false]
  intro x hx
  obtain ⟨j, hj⟩ := List.getElem?_of_mem hx
  simpa using h j x (List.getElem?_eq_some_iff.1 hj).1 hj
theorem has_yes {l : List ByteArray} {s x : ByteArray} {k : Nat} (hk : l[k]? = some x) (hx : x = s) : hasN l s = true :=
  List.any_eq_true.2 ⟨x, List.mem_of_getElem? hk, by simpa using hx⟩
set_option maxHeartbeats 1000000 in
set_option maxRecDepth 100000 in
theorem rhas_any (v : Value) (l : List ByteArray) (s : ByteArray) (w : World) (hv : NmsAt w v l) (hl : l.length ≤ 1000000000) : Calls Tryd.prog 44 #[v, .string s] w (RetB w (hasN l s)) := by
  obtain ⟨a, c, rfl⟩ := hv.shape
  have H := Lib.hid hv
  clear hv
  obtain ⟨n, hn⟩ : ∃ n, n = l.length := ⟨_, rfl⟩
  have HN := Lib.hid hn
  rw [← hn] at H hl ⊢
  clear hn
  go_enter Tryd.func44, Tryd.ntmps44
  go_wp2
  go_loop [6, 9] (fun _ i_ => ∃ k : Nat, k ≤ n ∧ i_ = .int .i64 k ∧ NoneN l s k) (fun _ i_ => n - (intOf i_).toNat)
  case atStart => exact ⟨0, Nat.zero_le _, rfl, fun j x hj => by omega⟩
  case round =>
    obtain ⟨k, hk, rfl, hN⟩ := hrel
    have HNN := Lib.hid hN
    clear hN
    by_cases hlt : k < n
    · obtain ⟨x, hx⟩ : ∃ x, l[k]? = some x := ⟨_, List.getElem?_eq_getElem (by rw [← HN.out]; exact hlt)⟩
      obtain ⟨b, o, c', hv, _, c0⟩ := H.out.elem hx
      obtain ⟨rfl, -, rfl⟩ := Value.slice.inj hv
      have HX := Lib.hid hx
      have hki : (k : Int) < (n : Int) := by omega
      clear hv hx
      by_cases hs : x = s
      · have hq := tstr_eq hs
        have Hs := Lib.hid hs
        clear hs
        go_wp2
        go_ret
        exact retB (has_yes HX.out Hs.out).symm (Below.refl _ _)
      · have hq := tstr_ne hs
        have Hs := Lib.hid hs
        clear hs
        go_wp2
        go_round
        case rel => exact ⟨k + 1, by omega, by go_num, HNN.out.succ HX.out Hs.out⟩
        case measure => simp [intOf]; omega
    · obtain rfl : k = n := by omega
      have HF := Lib.hid (has_no (by rw [← HN.out]; exact HNN.out) : hasN l s = false)
      go_wp2
      go_ret
      exact retB HF.out.symm (Below.refl _ _)
end Go.Proofs.YtilholgbepfopaaDoor
