/- Maps from integers to integers: what a block holds, a look-up, a store. -/
import Derived.Test.YtilholgbepfopaaDoorBWorld
import Derived.BigQuiet
import Derived.Deep.QuietTactic
import Derived.Deep.RegionLaw
import Derived.Maps.OwnOps
import Derived.Laws.EntriesVeiled
namespace Go.Proofs.YtilholgbepfopaaDoor
open Go.RowKit Go.MapKept

def mlook (E : List (Int × Int)) (k : Int) : Option Int := match E with
  | [] => none
  | y :: E => if y.1 = k then some y.2 else mlook E k
def mput (E : List (Int × Int)) (k x : Int) : List (Int × Int) := match E with
  | [] => [(k, x)]
  | y :: E => if y.1 = k then (k, x) :: E else y :: mput E k x
theorem mlook_put (E : List (Int × Int)) (k x j : Int) : mlook (mput E k x) j = if k = j then some x else mlook E j := by
  induction E with
  | nil => rfl
  | cons y E ih =>
    unfold mput
    by_cases h : y.1 = k
    · rw [if_pos h]
      unfold mlook
      by_cases hj : k = j
      · rw [if_pos hj, if_pos hj]
      · rw [if_neg hj, if_neg hj, if_neg (by rw [h]; exact hj)]
    · rw [if_neg h]
      unfold mlook
      rw [ih]
      by_cases hj : k = j
      · subst hj; rw [if_pos rfl, if_neg h, if_pos rfl]
      · rw [if_neg hj, if_neg hj]
theorem mput_len (E : List (Int × Int)) (k x : Int) : (mput E k x).length ≤ E.length + 1 := by
  induction E with
  | nil => simp [mput]
  | cons y E ih =>
    unfold mput
    split
    · simp
    · simp; exact ih

def ment (x : Int × Int) : Value × Value := (.int .i64 x.1, .int .i64 x.2)
def eraw (e : MapEntry) : Value × Value := (e.key, e.val)
/-- block b is a map that reads as E -/
def MapAt (w : World) (b : Nat) (E : List (Int × Int)) : Prop := ∃ es c, w.heap[b]? = some (.map es c) ∧ es.toList.map eraw = E.map ment
theorem MapAt.new (w : World) : MapAt (w.alloc (.map #[] 0)) w.heap.size [] := ⟨#[], 0, (MapKept.heap_alloc w _).1, rfl⟩
theorem MapAt.lt {w : World} {b : Nat} {E : List (Int × Int)} (h : MapAt w b E) : b < w.heap.size := by
  obtain ⟨es, c, hb, _⟩ := h
  exact (Array.getElem?_eq_some_iff.1 hb).1
theorem MapAt.kept {w w' : World} {b : Nat} {E : List (Int × Int)} {row : Option Nat} (h : MapAt w b E) (hg : w.grownBy w' row) (hne : some b ≠ row) : MapAt w' b E := by
  have hl := h.lt
  obtain ⟨es, c, hb, e⟩ := h
  exact ⟨es, c, (hg.block b hl hne).trans hb, e⟩
theorem MapAt.below {w w' : World} {b : Nat} {E : List (Int × Int)} (h : MapAt w b E) (hb : Below w.heap.size w w') : MapAt w' b E := by
  have hl := h.lt
  obtain ⟨es, c, hh, e⟩ := h
  exact ⟨es, c, (hb.block b hl).trans hh, e⟩
theorem MapAt.set {w : World} {b : Nat} {E : List (Int × Int)} (h : MapAt w b E) {p : Addr} (hp : p.block ≠ b) (u : Value) : MapAt (w.setCell p u) b E := by
  obtain ⟨es, c, hh, e⟩ := h
  exact ⟨es, c, (Below.heap_setCell w p u b (fun e => hp e.symm)).trans hh, e⟩
theorem MapAt.no_row {w : World} {b : Nat} {E : List (Int × Int)} (h : MapAt w b E) {p : Addr} {u : Value} (hc : w.cell? p = some u) : p.block ≠ b := by
  rintro rfl
  obtain ⟨es, c, hh, _⟩ := h
  unfold World.cell? at hc
  rw [hh] at hc
  cases hc

theorem find_m (k : Int) (es : List MapEntry) (E : List (Int × Int)) (i : Nat) (h : es.map eraw = E.map ment) :
    (mlook E k = none ∧ Instr.findNow (.int .i64) (.int .i64 k) es i = some none ∧ ∀ x, (es.map eraw ++ [ment (k, x)]) = (mput E k x).map ment) ∨
    ∃ m x e, mlook E k = some x ∧ Instr.findNow (.int .i64) (.int .i64 k) es i = some (some (i + m, .int .i64 x)) ∧ es[m]? = some e ∧ e.key = .int .i64 k ∧
      ∀ (y : Int) (f : MapEntry → MapEntry), (∀ e, eraw (f e) = ment (k, y)) → (es.modify m f).map eraw = (mput E k y).map ment := by
  induction es generalizing E i with
  | nil =>
    cases E with
    | nil => exact .inl ⟨rfl, rfl, fun x => rfl⟩
    | cons _ _ => simp at h
  | cons e es ih =>
    cases E with
    | nil => simp at h
    | cons y E =>
      simp only [List.map_cons, List.cons.injEq] at h
      obtain ⟨he, ht⟩ := h
      have hk : e.key = .int .i64 y.1 := congrArg Prod.fst he
      have hv : e.val = .int .i64 y.2 := congrArg Prod.snd he
      by_cases hy : y.1 = k
      · right
        have hs : Instr.sameNow (.int .i64) (.int .i64 k) e.key = some true := by rw [hk, hy]; simp [Instr.sameNow]
        refine ⟨0, y.2, e, by unfold mlook; rw [if_pos hy], ?_, rfl, by rw [hk, hy], fun z f hf => ?_⟩
        · unfold Instr.findNow
          rw [hs, hv]
          rfl
        · unfold mput
          rw [if_pos hy]
          simp [List.modify, hf, ht]
      · have hs : Instr.sameNow (.int .i64) (.int .i64 k) e.key = some false := by rw [hk]; simp [Instr.sameNow]; exact fun e => hy e.symm
        have hL : mlook (y :: E) k = mlook E k := by conv => lhs; unfold mlook
                                                     rw [if_neg hy]
        have hP : ∀ x, mput (y :: E) k x = y :: mput E k x := fun x => by conv => lhs; unfold mput
                                                                          rw [if_neg hy]
        rcases ih E (i + 1) ht with ⟨h1, h2, h3⟩ | ⟨m, x, e', h1, h2, h3, h4, h5⟩
        · refine .inl ⟨by rw [hL, h1], ?_, fun x => ?_⟩
          · unfold Instr.findNow
            rw [hs]
            exact h2
          · rw [hP, List.map_cons, List.map_cons, List.cons_append, h3, he]
        · refine .inr ⟨m + 1, x, e', by rw [hL, h1], ?_, h3, h4, fun z f hf => ?_⟩
          · unfold Instr.findNow
            rw [hs]
            simp only [h2]
            congr 3
            omega
          · rw [hP, List.modify_succ_cons, List.map_cons, List.map_cons, h5 z f hf, he]

section
variable {P : Program} {T K E' : TypeId} {w : World} {b : Nat} {E : List (Int × Int)}
theorem MapAt.look (ht : P.underlying T = some (.map K E')) (hk : P.underlying K = some (.int .i64)) (hz : (zeroValue E').run P w = .ok (.int .i64 0) w) (h : MapAt w b E) (k : Int) :
    (Instr.lookup T (.map (some b)) (.int .i64 k) false).run P w = .ok (.int .i64 ((mlook E k).getD 0)) w := by
  obtain ⟨es, c, hb, he⟩ := h
  have hKey : IsKey (.int .i64) (.int .i64 k) := by simp [IsKey]
  rcases find_m k es.toList E 0 he with ⟨h1, h2, _⟩ | ⟨m, x, e, h1, h2, _, _, _⟩
  · simp [Instr.lookup, run_underlying ht, MapKept.run_getObj_map hb, run_checkKey hk hKey, run_findKey hk h2, hz, Result.andThen, h1]
  · simp [Instr.lookup, run_underlying ht, MapKept.run_getObj_map hb, run_checkKey hk hKey, run_findKey hk h2, Result.andThen, h1]
theorem MapAt.look_ok (ht : P.underlying T = some (.map K E')) (hk : P.underlying K = some (.int .i64)) (hz : (zeroValue E').run P w = .ok (.int .i64 0) w) (h : MapAt w b E) (k : Int) :
    (Instr.lookup T (.map (some b)) (.int .i64 k) true).run P w = .ok (.tuple #[.int .i64 ((mlook E k).getD 0), .bool (mlook E k).isSome]) w := by
  obtain ⟨es, c, hb, he⟩ := h
  have hKey : IsKey (.int .i64) (.int .i64 k) := by simp [IsKey]
  rcases find_m k es.toList E 0 he with ⟨h1, h2, _⟩ | ⟨m, x, e, h1, h2, _, _, _⟩
  · simp [Instr.lookup, run_underlying ht, MapKept.run_getObj_map hb, run_checkKey hk hKey, run_findKey hk h2, hz, Result.andThen, h1]
  · simp [Instr.lookup, run_underlying ht, MapKept.run_getObj_map hb, run_checkKey hk hKey, run_findKey hk h2, Result.andThen, h1]
theorem MapAt.put (ht : P.underlying T = some (.map K E')) (hk : P.underlying K = some (.int .i64)) (h : MapAt w b E) (k x : Int) :
    ∃ w', (Instr.mapUpdate T (.map (some b)) (.int .i64 k) (.int .i64 x)).run P w = .ok () w' ∧ MapAt w' b (mput E k x) ∧ w.grownBy w' (some b) := by
  have hl := h.lt
  obtain ⟨es, c, hb, he⟩ := h
  have hKey : IsKey (.int .i64) (.int .i64 k) := by simp [IsKey]
  rcases find_m k es.toList E 0 he with ⟨h1, h2, h3⟩ | ⟨m, y, e, h1, h2, h3, h4, h5⟩
  · refine ⟨ChangeMaps.setBlock w b (.map (es.push ⟨.int .i64 k, .int .i64 x, c⟩) (c + 1)), ?_, ?_, ?_⟩
    · simp [Instr.mapUpdate, run_underlying ht, MapKept.run_getObj_map hb, run_checkKey hk hKey, run_findKey hk h2, MapKept.run_setObj_map _ hb, Result.andThen]
      rfl
    · refine ⟨_, _, ChangeMaps.heap_setBlock_same hb _, ?_⟩
      rw [← h3 x]
      simp [eraw, ment]
    · exact ⟨rfl, rfl, rfl, by simp [ChangeMaps.setBlock], fun i _ hi => ChangeMaps.heap_setBlock_other hb _ (fun e => hi (by rw [e]))⟩
  · refine ⟨ChangeMaps.setBlock w b (.map (es.modify (0 + m) fun e => { e with key := .int .i64 k, val := .int .i64 x }) c), ?_, ?_, ?_⟩
    · have h6 : ((es[0 + m]?).map (·.key)).getD (Value.int .i64 k) = .int .i64 k := by
        rw [Array.getElem?_toList] at h3
        rw [Nat.zero_add, h3]
        exact h4
      simp only [Nat.zero_add] at h6
      simp [Instr.mapUpdate, run_underlying ht, MapKept.run_getObj_map hb, run_checkKey hk hKey, run_findKey hk h2, h6, MapKept.run_setObj_map _ hb, MapKept.run_keyThatStays hKey, Result.andThen]
      rfl
    · refine ⟨_, _, ChangeMaps.heap_setBlock_same hb _, ?_⟩
      rw [Array.toList_modify, Nat.zero_add]
      exact h5 x _ (fun _ => rfl)
    · exact ⟨rfl, rfl, rfl, by simp [ChangeMaps.setBlock], fun i _ hi => ChangeMaps.heap_setBlock_other hb _ (fun e => hi (by rw [e]))⟩
end
end Go.Proofs.YtilholgbepfopaaDoor
