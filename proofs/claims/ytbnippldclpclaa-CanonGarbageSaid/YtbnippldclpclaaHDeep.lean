/- A heap in new memory, whose lists share nothing. -/
import Derived.Test.YtbnippldclpclaaHRSame
namespace Go.Proofs.Ytbnippldclpclaa
open Go.RowKit

theorem cell_far {w : World} {p a : Addr} {u v : Value} (h : w.cell? a = some v) (hne : p.block ≠ a.block) : (w.setCell p u).cell? a = some v := (World.cell?_of_block (Below.heap_setCell w p u a.block (fun e => hne e.symm))).trans h
theorem heap_far (w : World) (p : Addr) (u : Value) (k : Nat) (h : k ≠ p.block) : (w.setCell p u).heap[k]? = w.heap[k]? := Below.heap_setCell w p u k h
theorem own_far {w : World} {base : Nat} {e : TypeId} {size : Nat} {v : Value} {n : Nat} {xs : List Value} (h : w.ownsRow base e size v n xs) {p : Addr} (hp : v.ownBlock ≠ some p.block) (u : Value) : (w.setCell p u).ownsRow base e size v n xs := by
  refine ⟨h.1, ?_⟩
  rcases h.2 with hn | ⟨g, cap, cur, rfl, hbg, hgg, rest⟩
  · exact .inl hn
  · exact .inr ⟨g, cap, cur, rfl, hbg, by rw [heap_far _ _ _ _ (fun e => hp (by simp [Value.ownBlock, e]))]; exact hgg, rest⟩
theorem At1.far {w : World} {b : Nat} {u0 : Value} (h : At1 w b u0) {p : Addr} (hp : b ≠ p.block) (u : Value) : At1 (w.setCell p u) b u0 :=
  ⟨(World.cell?_of_block (heap_far w p u b hp)).trans h.c0, (World.frozen?_of_block (heap_far w p u b hp)).trans h.f0, by simpa [World.setCell] using h.lt⟩
theorem At2.far {w : World} {b : Nat} {u0 u1 : Value} (h : At2 w b u0 u1) {p : Addr} (hp : b ≠ p.block) (u : Value) : At2 (w.setCell p u) b u0 u1 :=
  ⟨(World.cell?_of_block (heap_far w p u b hp)).trans h.c0, (World.cell?_of_block (heap_far w p u b hp)).trans h.c1, (World.frozen?_of_block (heap_far w p u b hp)).trans h.f0, (World.frozen?_of_block (heap_far w p u b hp)).trans h.f1, by simpa [World.setCell] using h.lt⟩
theorem size_set (w : World) (p : Addr) (u : Value) : (w.setCell p u).heap.size = w.heap.size := by simp [World.setCell]

/-- the heap L, in rows that the call owns, none of them shared -/
structure Deep (w : World) (B : Nat) (v : Value) (L : List Lob) : Prop where
  row : w.ownsRow B 43 2 v L.length (L.flatMap oc)
  vals : ∀ x ∈ L, VsOwn w B x.fv x.vals
  off : ∀ x ∈ L, ∀ g, x.fv.ownBlock = some g → v.ownBlock ≠ some g
  apart : ∀ (i j : Nat) (x y : Lob) (g : Nat), L[i]? = some x → L[j]? = some y → x.fv.ownBlock = some g → y.fv.ownBlock = some g → i = j
theorem Deep.at_ {w : World} {B : Nat} {v : Value} {L : List Lob} (h : Deep w B v L) : OsAt w v L := ⟨own_sl h.row, fun x hx => (h.vals x hx).at_⟩
theorem Deep.below {w w' : World} {B : Nat} {v : Value} {L : List Lob} (h : Deep w B v L) (hb : Below w.heap.size w w') : Deep w' B v L :=
  ⟨own_below h.row hb, fun x hx => (h.vals x hx).below hb, h.off, h.apart⟩
theorem Deep.mono {w : World} {B B' : Nat} {v : Value} {L : List Lob} (h : Deep w B v L) (hb : B' ≤ B) : Deep w B' v L :=
  ⟨own_mono h.row hb, fun x hx => (h.vals x hx).mono hb, h.off, h.apart⟩
theorem Deep.far {w : World} {B : Nat} {v : Value} {L : List Lob} (h : Deep w B v L) {p : Addr} (hp : p.block < B) (u : Value) : Deep (w.setCell p u) B v L :=
  ⟨ownsRow_setCell_below h.row hp u, fun x hx => (h.vals x hx).set hp u, h.off, h.apart⟩

theorem flat_set (L : List Lob) (k : Nat) (x : Lob) : ((L.flatMap oc).set (k * 2) (.int .i64 x.id)).set (k * 2 + 1) x.fv = if k < L.length then (L.set k x).flatMap oc else L.flatMap oc := by
  induction L generalizing k with
  | nil => simp
  | cons y L ih =>
    cases k with
    | zero => simp [oc]
    | succ k =>
      have e1 : (k + 1) * 2 = (k * 2 + 1) + 1 := by omega
      have e2 : (k + 1) * 2 + 1 = (k * 2 + 1 + 1) + 1 := by omega
      rw [e2, e1]
      simp only [List.flatMap_cons, oc, List.cons_append, List.nil_append, List.set_cons_succ, List.length_cons]
      rw [ih k]
      by_cases hk : k < L.length
      · rw [if_pos hk, if_pos (by omega)]
      · rw [if_neg hk, if_neg (by omega)]
theorem flat_setV (l : List V) (k : Nat) (x : V) : ((l.flatMap vc).set (k * 2) (.bool x.1)).set (k * 2 + 1) (.int .i64 x.2) = if k < l.length then (l.set k x).flatMap vc else l.flatMap vc := by
  induction l generalizing k with
  | nil => simp
  | cons y L ih =>
    cases k with
    | zero => simp [vc]
    | succ k =>
      have e1 : (k + 1) * 2 = (k * 2 + 1) + 1 := by omega
      have e2 : (k + 1) * 2 + 1 = (k * 2 + 1 + 1) + 1 := by omega
      rw [e2, e1]
      simp only [List.flatMap_cons, vc, List.cons_append, List.nil_append, List.set_cons_succ, List.length_cons]
      rw [ih k]
      by_cases hk : k < L.length
      · rw [if_pos hk, if_pos (by omega)]
      · rw [if_neg hk, if_neg (by omega)]

theorem Deep.len {w : World} {B n c : Nat} {a : Option Addr} {L : List Lob} (h : Deep w B (.slice a n c) L) : n = L.length := by
  obtain ⟨a, c', e⟩ := SlAt.shape (own_sl h.row)
  obtain ⟨_, e, _⟩ := Value.slice.inj e
  exact e
/-- what place k holds, and that it may be written -/
theorem Deep.cells {w : World} {B g c k n : Nat} {L : List Lob} (h : Deep w B (.slice (some ⟨g, 0, none⟩) n c) L) {x : Lob} (hk : L[k]? = some x) :
    w.cell? ⟨g, k * 2, none⟩ = some (.int .i64 x.id) ∧ w.cell? ⟨g, k * 2 + 1, none⟩ = some x.fv ∧ w.frozen? ⟨g, k * 2, none⟩ = false ∧ w.frozen? ⟨g, k * 2 + 1, none⟩ = false := by
  have hn := h.len
  subst hn
  have hlt := (List.getElem?_eq_some_iff.1 hk).1
  obtain ⟨h0, h1⟩ := oc_at L k x hk
  exact ⟨(h.row.cellAt (k * 2) (by omega)).trans h0, (h.row.cellAt (k * 2 + 1) (by omega)).trans h1, h.row.frozenAt _, h.row.frozenAt _⟩
/-- an object is stored into place k -/
theorem Deep.put {w : World} {B g c k n : Nat} {L : List Lob} (h : Deep w B (.slice (some ⟨g, 0, none⟩) n c) L) (hk : k < L.length) {x : Lob} (hx : VsOwn w B x.fv x.vals)
    (hne : ∀ b, x.fv.ownBlock = some b → b ≠ g ∧ ∀ y ∈ L, y.fv.ownBlock ≠ some b) :
    Deep ((w.setCell ⟨g, k * 2, none⟩ (.int .i64 x.id)).setCell ⟨g, k * 2 + 1, none⟩ x.fv) B (.slice (some ⟨g, 0, none⟩) n c) (L.set k x) := by
  have hn := h.len
  subst hn
  have hlen : (L.set k x).length = L.length := by simp
  have far : ∀ y : Lob, VsOwn w B y.fv y.vals → y.fv.ownBlock ≠ some g → VsOwn ((w.setCell ⟨g, k * 2, none⟩ (.int .i64 x.id)).setCell ⟨g, k * 2 + 1, none⟩ x.fv) B y.fv y.vals := fun y hy hg =>
    own_far (own_far hy (p := ⟨g, k * 2, none⟩) hg _) (p := ⟨g, k * 2 + 1, none⟩) hg _
  have offY : ∀ y ∈ L, y.fv.ownBlock ≠ some g := fun y hy e => h.off y hy g e rfl
  have mem : ∀ y ∈ L.set k x, y = x ∨ y ∈ L := fun y hy => by
    rcases List.mem_or_eq_of_mem_set hy with h1 | h1
    · exact .inr h1
    · exact .inl h1
  refine ⟨?_, ?_, ?_, ?_⟩
  · have h1 := (World.ownsRow.stored (World.ownsRow.stored h.row (k * 2) (.int .i64 x.id)).1 (k * 2 + 1) x.fv).1
    rw [flat_set, if_pos hk] at h1
    rw [hlen]
    exact h1
  · intro y hy
    rcases mem y hy with rfl | hy
    · exact far _ hx (fun e => (hne g e).1 rfl)
    · exact far _ (h.vals y hy) (offY y hy)
  · intro y hy b hb e
    rcases mem y hy with rfl | hy
    · exact (hne b hb).1 (by simpa [Value.ownBlock] using e.symm)
    · exact h.off y hy b hb e
  · intro i j y z b hi hj hy hz
    rw [List.getElem?_set] at hi hj
    by_cases hki : k = i
    · by_cases hkj : k = j
      · omega
      · rw [if_pos hki] at hi
        rw [if_neg hkj] at hj
        rw [if_pos (by omega)] at hi
        obtain rfl := Option.some.inj hi
        exact absurd hz ((hne b hy).2 z (List.mem_of_getElem? hj))
    · rw [if_neg hki] at hi
      by_cases hkj : k = j
      · rw [if_pos hkj, if_pos (by omega)] at hj
        obtain rfl := Option.some.inj hj
        exact absurd hy ((hne b hz).2 y (List.mem_of_getElem? hi))
      · rw [if_neg hkj] at hj
        exact h.apart i j y z b hi hj hy hz

theorem Deep.fresh {w w1 : World} {B g c n : Nat} {L : List Lob} (h : Deep w B (.slice (some ⟨g, 0, none⟩) n c) L) {v : Value} {l : List V} (hv : VsOwn w1 w.heap.size v l) :
    ∀ b, v.ownBlock = some b → b ≠ g ∧ ∀ y ∈ L, y.fv.ownBlock ≠ some b := by
  intro b hb
  have h1 := (World.ownsRow.lt hv b hb).1
  have h2 := (World.ownsRow.lt h.row g rfl).2
  refine ⟨by omega, fun y hy e => ?_⟩
  have := (World.ownsRow.lt (h.vals y hy) b e).2
  omega
/-- an object without anything -/
def zeroL : Lob := ⟨0, .slice none 0 0, []⟩
theorem madeO (n : Nat) : (madeCells #[.int .i64 0, .slice none 0 0] (n * 2)).toList = (List.replicate n zeroL).flatMap oc := by
  apply List.ext_getElem?
  intro j
  by_cases hj : j < n * 2
  · have hk : (List.replicate n zeroL)[j / 2]? = some zeroL := by rw [List.getElem?_replicate, if_pos (by omega)]
    obtain ⟨h0, h1⟩ := oc_at _ _ _ hk
    rcases Nat.mod_two_eq_zero_or_one j with he | he
    · rw [show j / 2 * 2 = j by omega] at h0
      rw [h0]
      simp [madeCells, hj, he, zeroL]
    · rw [show j / 2 * 2 + 1 = j by omega] at h1
      rw [h1]
      simp [madeCells, hj, he, zeroL]
  · rw [List.getElem?_eq_none (by simp [madeCells]; omega), List.getElem?_eq_none (by rw [oc_len]; simp; omega)]
theorem zero_own (w : World) (B : Nat) : VsOwn w B zeroL.fv zeroL.vals := VsOwn.nil w B
/-- make([]api.Object, n) -/
theorem make_deep (w : World) (B n : Nat) (hn : n ≤ 1000000000) (hB : B ≤ w.heap.size) :
    ∃ w', (Instr.makeSlice 26 (.int .i64 (n : Int)) (.int .i64 (n : Int))).run Try.prog w = .ok (.slice (some ⟨w.heap.size, 0, none⟩) n n) w' ∧
      Deep w' B (.slice (some ⟨w.heap.size, 0, none⟩) n n) (List.replicate n zeroL) ∧ Below w.heap.size w w' ∧ w'.heap.size = w.heap.size + 1 := by
  obtain ⟨i0, hi, hz0, hz1, hz2⟩ := info_parts info_O
  have hr := run_make (P := Try.prog) w 26 43 i0 _ Try.underlying26 hi hz0 .i64 .i64 (n : Int) (n : Int) (by omega) (Int.le_refl _) (by rw [hz2]; omega) (by omega)
  rw [hz1] at hr
  refine ⟨_, hr, ⟨?_, ?_, ?_, ?_⟩, below1 _ _, by simp⟩
  · have := World.ownsRow_lit (base := B) (size := 2) (e := 43) w (madeCells #[.int .i64 0, .slice none 0 0] (n * 2)) n hB (by unfold maxLen; omega) (size_madeCells _ _)
    rw [madeO] at this
    rw [List.length_replicate]
    exact this
  · intro x hx
    rw [List.eq_of_mem_replicate hx]
    exact zero_own _ _
  · intro x hx g hg
    rw [List.eq_of_mem_replicate hx] at hg
    cases hg
  · intro i j x y g hi hj hg
    rw [List.eq_of_mem_replicate (List.mem_of_getElem? hi)] at hg
    cases hg
theorem At2.put2 {w : World} {b : Nat} {u0 u1 : Value} (h : At2 w b u0 u1) (v0 v1 : Value) : At2 ((w.setCell ⟨b, 0, none⟩ v0).setCell ⟨b, 1, none⟩ v1) b v0 v1 := by
  have e1 : (w.setCell ⟨b, 0, none⟩ v0).cell? ⟨b, 1, none⟩ = some u1 := by rw [World.cell?_setCell_other (h := by simp)]; exact h.c1
  exact ⟨by rw [World.cell?_setCell_other (h := by simp)]; exact World.cell?_setCell_same' _ _ _ (by rw [h.c0]; rfl), World.cell?_setCell_same' _ _ _ (by rw [e1]; rfl), by simpa using h.f0, by simpa using h.f1, by simpa [World.setCell] using h.lt⟩
end Go.Proofs.Ytbnippldclpclaa
