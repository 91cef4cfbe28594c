/- slices.Insert of one object into a full list. -/
import Derived.Test.YtbnippldclpclaaHInsL
namespace Go.Proofs.Ytbnippldclpclaa
open Go.RowKit

def insL (L : List Lob) (i : Nat) (x : Lob) : List Lob := L.take i ++ x :: L.drop i
/-- a list of objects, in a new row; nothing old turned -/
def RetOs (w : World) (L : List Lob) (e : Ending) (w' : World) : Prop := ∃ v, e = .returned v ∧ w'.ownsRow w.heap.size 43 2 v L.length (L.flatMap oc) ∧ Below w.heap.size w w'
theorem row_own {w : World} {B g n cap : Nat} {xs tl : List Value} (h : RowO w g (xs ++ tl)) (hl : xs.length = n * 2) (hs : (xs ++ tl).length = cap * 2) (hc : n ≤ cap) (hm : cap ≤ maxLen) (hB : B ≤ g) :
    w.ownsRow B 43 2 (.slice (some ⟨g, 0, none⟩) n cap) n xs := by
  refine ⟨hl, .inr ⟨g, cap, _, rfl, hB, h, hc, hm, by simpa using hs, ?_⟩⟩
  show (xs ++ tl).take (n * 2) = xs
  rw [← hl]
  exact List.take_left
theorem splice_two {α : Type} (A tl C D : List α) : splice (splice (A ++ tl) A.length C) (A.length + C.length) D = A ++ C ++ D ++ tl.drop (C.length + D.length) := by
  have e1 : splice (A ++ tl) A.length C = A ++ C ++ tl.drop C.length := by
    unfold splice
    simp
  rw [e1]
  unfold splice
  have e2 : A.length + C.length = (A ++ C).length := by simp
  rw [e2, List.take_left', List.drop_append, List.drop_eq_nil_of_le (by simp), List.nil_append, List.drop_drop]
  · rw [show C.length + ((A ++ C).length + D.length - (A ++ C).length) = C.length + D.length by omega, ← List.append_assoc]
  · rfl
theorem flat_take (L : List Lob) (i : Nat) : (L.take i).flatMap oc = (L.flatMap oc).take (i * 2) := by
  induction L generalizing i with
  | nil => simp
  | cons y L ih =>
    cases i with
    | zero => simp
    | succ i =>
      have e : (i + 1) * 2 = i * 2 + 1 + 1 := by omega
      rw [e]
      simp only [List.take_succ_cons, List.flatMap_cons, oc, List.cons_append, List.nil_append]
      rw [ih i]
theorem At2.src {w : World} {b : Nat} {x : Lob} (h : At2 w b (.int .i64 x.id) x.fv) : ∀ j u, (oc x)[j]? = some u → w.cell? ((⟨b, 0, none⟩ : Addr).add j) = some u := by
  intro j u hj
  rw [addr_add, Nat.zero_add]
  match j, hj with
  | 0, hj => simp [oc] at hj; subst hj; exact h.c0
  | 1, hj => simp [oc] at hj; subst hj; exact h.c1
theorem OsAt.cells_ {w : World} {b o n c : Nat} {L : List Lob} (h : OsAt w (.slice (some ⟨b, o, none⟩) n c) L) : ∀ j u, (L.flatMap oc)[j]? = some u → w.cell? ⟨b, o + j, none⟩ = some u := by
  intro j u hj
  rcases h.1 with ⟨e, _⟩ | ⟨ad, c', e, _, hl, hc⟩
  · cases e
  · obtain ⟨e, _, _⟩ := Value.slice.inj e
    obtain rfl := Option.some.inj e
    rw [← addr_add]
    exact hc j u hj
theorem OsAt.prefix_ {w : World} {b n c : Nat} {L : List Lob} (h : OsAt w (.slice (some ⟨b, 0, none⟩) n c) L) (i : Nat) : ∀ j u, ((L.take i).flatMap oc)[j]? = some u → w.cell? ((⟨b, 0, none⟩ : Addr).add j) = some u := by
  intro j u hj
  rw [flat_take, List.getElem?_take] at hj
  split at hj
  · rw [addr_add]
    exact h.cells_ j u hj
  · cases hj
theorem flat_drop (L : List Lob) (i : Nat) : (L.drop i).flatMap oc = (L.flatMap oc).drop (i * 2) := by
  induction L generalizing i with
  | nil => simp
  | cons y L ih =>
    cases i with
    | zero => simp
    | succ i =>
      have e : (i + 1) * 2 = i * 2 + 1 + 1 := by omega
      rw [e]
      simp only [List.drop_succ_cons, List.flatMap_cons, oc, List.cons_append, List.nil_append]
      rw [ih i]

/-- append of one object to a full list -/
theorem wpList_full_O {w : World} {ops : Array Oper} {rest : List Oper} {o : Oper} {a : Act} {Q : Exit → Act → World → Prop} (hgd : o.guard = none) (s x : Operand) (ho : o.op = .call { callee := .builtin .append, args := #[s, x], argTypes := #[26, 26] })
    (b ad : Addr) (n c : Nat) (olds news : List Value) (hs : a.eval s = .slice (some b) n n) (hx : a.eval x = .slice (some ad) 1 c) (hlo : olds.length = n * 2) (holds : ∀ j v, olds[j]? = some v → w.cell? (b.add j) = some v)
    (hln : news.length = 1 * 2) (hnews : ∀ j v, news[j]? = some v → w.cell? (ad.add j) = some v) (hsz : n ≤ 1000000000)
    (h : ∀ (w' : World) (cap : Nat) (tl : List Value), RowO w' w.heap.size ((olds ++ news) ++ tl) → n + 1 ≤ cap → cap ≤ maxLen → ((olds ++ news) ++ tl).length = cap * 2 → Below w.heap.size w w' → wpList Try.prog ops Q rest (a.put o.dst (.slice (some ⟨w.heap.size, 0, none⟩) (n + 1) cap)) w') :
    wpList Try.prog ops Q (o :: rest) a w := by
  obtain ⟨i0, hi, hz0, hz1, hz2⟩ := info_parts info_O
  have hr := run_append_grow (P := Try.prog) w 26 o.type 43 i0 _ Try.underlying26 hi hz0 b n n olds (by rw [hz1]; exact hlo) holds ad 1 c news (by rw [hz1]; exact hln) hnews (by omega) (by omega) (growslice_fits (by omega) (by rw [hz2]; omega))
  refine Lib.wpList_append_run w hgd s x _ _ ho _ _ hs hx _ _ hr ?_
  have hcge := grownCap_ge w (n + 1) n 43
  refine h _ _ (Builtin.zeroCells (Value.cells (.agg #[.int .i64 0, .slice none 0 0])) (grownCap w (n + 1) n 43 - (n + 1))).toList ?_ hcge (grownCap_le_maxLen _ _ _ _ (by unfold maxLen; omega)) ?_ ?_
  · have := heap_alloc_new w.drew (.cells (olds.toArray ++ news.toArray ++ Builtin.zeroCells (Value.cells (.agg #[.int .i64 0, .slice none 0 0])) (grownCap w (n + 1) n 43 - (n + 1))) 43)
    unfold RowO
    rw [show w.heap.size = w.drew.heap.size from rfl, this]
    congr 2
    apply Array.ext'
    simp
  · have hs2 : (Value.cells (.agg #[.int .i64 0, .slice none 0 0])).size = 2 := rfl
    simp only [List.length_append, Array.length_toList, size_zeroCells, hs2, hlo, hln]
    omega
  · exact (below_drew w).trans ((below1 w.drew _).mono (Nat.le_refl _))

end Go.Proofs.Ytbnippldclpclaa
