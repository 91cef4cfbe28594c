/- slices.Insert of one object into a full list. -/
import Derived.Test.YtngjedfoogmbjaaHInsL
namespace Go.Proofs.Ytngjedfoogmbjaa
open Go.RowKit

def insL (L : List Lob) (i : Nat) (x : Lob) : List Lob := L.take i ++ x :: L.drop i
/-- a list of objects, in a new row; nothing old turned -/
def RetOs (w : World) (L : List Lob) (e : Ending) (w' : World) : Prop := ∃ v, e = .returned v ∧ w'.ownsRow w.heap.size 27 2 v L.length (L.flatMap oc) ∧ Below w.heap.size w w'
theorem row_own {w : World} {B g n cap : Nat} {xs tl : List Value} (h : RowO w g (xs ++ tl)) (hl : xs.length = n * 2) (hs : (xs ++ tl).length = cap * 2) (hc : n ≤ cap) (hm : cap ≤ maxLen) (hB : B ≤ g) :
    w.ownsRow B 27 2 (.slice (some ⟨g, 0, none⟩) n cap) n xs := by
  refine ⟨hl, .inr ⟨g, cap, _, rfl, hB, h, hc, hm, by simpa using hs, ?_⟩⟩
  show (xs ++ tl).take (n * 2) = xs
  rw [← hl]
  exact List.take_left
theorem splice_two {α : Type} (A tl C D : List α) : splice (splice (A ++ tl) A.length C) (A.length + C.length) D = A ++ C ++ D ++ tl.drop (C.length + D.length) := by
  have e1 : splice (A ++ tl) A.length C = A ++ C ++ tl.drop C.length := by
    unfold splice
    simp
  rw [e1]
  unfold splice
  have e2 : A.length + C.length = (A ++ C).length := by simp
  rw [e2, List.take_left', List.drop_append, List.drop_eq_nil_of_le (by simp), List.nil_append, List.drop_drop]
  · rw [show C.length + ((A ++ C).length + D.length - (A ++ C).length) = C.length + D.length by omega, ← List.append_assoc]
  · rfl
theorem flat_take (L : List Lob) (i : Nat) : (L.take i).flatMap oc = (L.flatMap oc).take (i * 2) := by
  induction L generalizing i with
  | nil => simp
  | cons y L ih =>
    cases i with
    | zero => simp
    | succ i =>
      have e : (i + 1) * 2 = i * 2 + 1 + 1 := by omega
      rw [e]
      simp only [List.take_succ_cons, List.flatMap_cons, oc, List.cons_append, List.nil_append]
      rw [ih i]
theorem At2.src {w : World} {b : Nat} {x : Lob} (h : At2 w b (.int .i64 x.id) x.fv) : ∀ j u, (oc x)[j]? = some u → w.cell? ((⟨b, 0, none⟩ : Addr).add j) = some u := by
  intro j u hj
  rw [addr_add, Nat.zero_add]
  match j, hj with
  | 0, hj => simp [oc] at hj; subst hj; exact h.c0
  | 1, hj => simp [oc] at hj; subst hj; exact h.c1
theorem OsAt.cells_ {w : World} {b o n c : Nat} {L : List Lob} (h : OsAt w (.slice (some ⟨b, o, none⟩) n c) L) : ∀ j u, (L.flatMap oc)[j]? = some u → w.cell? ⟨b, o + j, none⟩ = some u := by
  intro j u hj
  rcases h.1 with ⟨e, _⟩ | ⟨ad, c', e, _, hl, hc⟩
  · cases e
  · obtain ⟨e, _, _⟩ := Value.slice.inj e
    obtain rfl := Option.some.inj e
    rw [← addr_add]
    exact hc j u hj
theorem OsAt.prefix_ {w : World} {b n c : Nat} {L : List Lob} (h : OsAt w (.slice (some ⟨b, 0, none⟩) n c) L) (i : Nat) : ∀ j u, ((L.take i).flatMap oc)[j]? = some u → w.cell? ((⟨b, 0, none⟩ : Addr).add j) = some u := by
  intro j u hj
  rw [flat_take, List.getElem?_take] at hj
  split at hj
  · rw [addr_add]
    exact h.cells_ j u hj
  · cases hj
theorem flat_drop (L : List Lob) (i : Nat) : (L.drop i).flatMap oc = (L.flatMap oc).drop (i * 2) := by
  induction L generalizing i with
  | nil => simp
  | cons y L ih =>
    cases i with
    | zero => simp
    | succ i =>
      have e : (i + 1) * 2 = i * 2 + 1 + 1 := by omega
      rw [e]
      simp only [List.drop_succ_cons, List.flatMap_cons, oc, List.cons_append, List.nil_append]
      rw [ih i]

set_option maxHeartbeats 2000000 in
set_option maxRecDepth 100000 in
theorem insert_mid (g gv n i : Nat) (L : List Lob) (x : Lob) (w : World) (h : OsAt w (.slice (some ⟨g, 0, none⟩) n n) L) (hx : At2 w gv (.int .i64 x.id) x.fv) (hxv : VsAt w x.fv x.vals) (hL : Short L) (hi : i < n) :
    Calls Try.prog 29 #[.slice (some ⟨g, 0, none⟩) n n, .int .i64 (i : Int), .slice (some ⟨gv, 0, none⟩) 1 1] w (RetOs w (insL L i x)) := by
  have hn : n = L.length := by
    obtain ⟨a, m, c, hv, hn⟩ := h.shape
    obtain ⟨_, e, _⟩ := Value.slice.inj hv
    rw [e]; exact hn.out
  have H := Lib.hid h
  have HX := Lib.hid hx
  have HN := Lib.hid hn
  have hl : n ≤ 1000000000 := by rw [hn]; exact hL.1
  clear h hx hL hn
  have i1 : (i : Int) < (n : Int) := by omega
  have i2 : (i : Int) ≤ (n : Int) := by omega
  have i3 : ((i : Int) == (n : Int)) = false := by rw [beq_eq_false_iff_ne]; omega
  go_enter Try.func29, Try.ntmps29
  obtain ⟨A, hA⟩ : ∃ A, A = (L.take i).flatMap oc := ⟨_, rfl⟩
  have hAl : A.length = i * 2 := by rw [hA, oc_len, List.length_take, ← HN.out, Nat.min_eq_left (Nat.le_of_lt hi)]
  have HA := Lib.hid hA
  have HAl := Lib.hid hAl
  have hAc := H.out.prefix_ i
  rw [← hA] at hAc
  have HAc := Lib.hid hAc
  have HXV := Lib.hid hxv
  have hx1 : ∀ u ∈ oc x, u.oneCell' = true := by
    obtain ⟨_, _, _, e, _⟩ := hxv.shape
    intro u hu
    simp [oc] at hu
    rcases hu with rfl | rfl
    · rfl
    · rw [e]; rfl
  have HX1 := Lib.hid hx1
  have HO1 := Lib.hid (oc_one H.out)
  obtain ⟨D, hD⟩ : ∃ D, D = (L.drop i).flatMap oc := ⟨_, rfl⟩
  have HD := Lib.hid hD
  have HDl : Hid (D.length = (n - i) * 2) := Lib.hid (by rw [hD, oc_len, List.length_drop, ← HN.out])
  have HDc : Hid (∀ j u, D[j]? = some u → w.cell? ⟨g, i * 2 + j, none⟩ = some u) := Lib.hid (by
    intro j u hj
    rw [hD, flat_drop, List.getElem?_drop] at hj
    have := H.out.cells_ _ u hj
    rwa [Nat.zero_add] at this)
  have HM1 : Hid ((oc x).length = Nat.min 1 (n + 1 - i) * 2) := Lib.hid (by
    have : Nat.min 1 (n + 1 - i) = 1 := Nat.min_eq_left (by omega)
    rw [this]
    rfl)
  have HM2 : Hid (D.length = Nat.min (n - i) (n - i) * 2) := Lib.hid (by
    have : Nat.min (n - i) (n - i) = n - i := Nat.min_self _
    rw [this]
    exact HDl.out)
  clear hA hAl hAc hxv hx1 hD
  go_wp2_with (first
    | (at_builtin; refine wpList_zeros_O rfl _ _ rfl ⟨g, 0, none⟩ i n (n + 1 - i) A rfl (by show Value.int .i64 ((n : Int) + 1 - (i : Int)) = _; congr 1; omega) HAl.out HAc.out (by omega) (by omega) (by omega) ?_; intro w1 cap tl hc1 hc2 htl hrow hb1 hz1; have hm : i + (n + 1 - i) = n + 1 := (by omega); rw [hm] at hc1 htl; rw [hm]; have hcap : (i : Int) < (cap : Int) := (by omega); have hcap2 : (i : Int) + 1 < (cap : Int) := (by omega); have HTL : Hid (2 + D.length ≤ tl.length) := Lib.hid (by rw [htl, HDl.out]; omega); have HTL2 := Lib.hid htl; have HROW := Lib.hid hrow; have HB1 := Lib.hid hb1; have HZ1 := Lib.hid hz1; clear hm htl hrow hb1 hz1)
    | (refine wpList_copy_O rfl _ _ rfl w.heap.size (i * 2) (n + 1 - i) (cap - i) ⟨gv, 0, none⟩ 1 1 (A ++ tl) (oc x) rfl rfl HROW.out HM1.out (HX.out.below HB1.out).src (by have h1 := HTL.out; have h2 := HAl.out; rw [List.length_append, h2]; show i * 2 + 2 ≤ _; omega) HX1.out ?_; intro w2 hrow2 hg2 hz2; have HROW2 := Lib.hid hrow2; have HG2 := Lib.hid hg2; have HZ2 := Lib.hid hz2; clear hrow2 hg2 hz2)
    | fail)
  have hw1 : IntKind.i64.wrap ((i : Int) + 1) = ((i + 1 : Nat) : Int) := by rw [IntKind.wrap_i64]; omega
  have hle : ((i + 1 : Nat) : Int) ≤ (n : Int) + 1 := by omega
  have hge : (0 : Int) ≤ (i : Int) + 1 := by omega
  have hne : (cap = i + 1) = False := by simp only [eq_iff_iff, iff_false]; omega
  have htn : ((i + 1 : Nat) : Int).toNat = i + 1 := by omega
  have hne2 : (n = i) = False := by simp only [eq_iff_iff, iff_false]; omega
  have hB2 : Below w.heap.size w w2 := HB1.out.grown HG2.out (by have := HZ1.out; omega) (by intro k hk; cases hk; exact Nat.le_refl _)
  have HB2 := Lib.hid hB2
  clear hB2
  have HFit : Hid ((i + 1) * 2 + D.length ≤ (splice (A ++ tl) (i * 2) (oc x)).length) := Lib.hid (by
    have h1 := HTL.out
    have h2 := HAl.out
    have h3 : (oc x).length = 2 := rfl
    rw [length_splice _ _ _ (by rw [List.length_append, h2, h3]; omega), List.length_append, h2]
    omega)
  have HSrc : Hid (∀ j v, D[j]? = some v → w2.drew.cell? ((⟨g, i * 2, none⟩ : Addr).add j) = some v) := Lib.hid (by
    intro j u hj
    rw [addr_add]
    have h0 := HDc.out j u hj
    exact (HB2.out.drew.cell (World.block_lt_of_cell? w _ h0)).trans h0)
  have HOne : Hid (∀ u ∈ D, u.oneCell' = true) := Lib.hid (by
    intro u hu
    rw [HD.out, flat_drop] at hu
    exact HO1.out u (List.mem_of_mem_drop hu))
  go_region_held3 (fun _ => True) (trivial) (first | (refine step_copy_O rfl _ _ rfl w.heap.size ((i + 1) * 2) (n - i) (cap - (i + 1)) ⟨g, i * 2, none⟩ (n - i) (n - i) (splice (A ++ tl) (i * 2) (oc x)) D rfl rfl HROW2.out HM2.out HSrc.out HFit.out HOne.out ?_; intro w3 hrow3 hg3 hz3; have HROW3 := Lib.hid hrow3; have HG3 := Lib.hid hg3; clear hrow3 hg3 hz3) | fail)
  go_wp2
  go_ret
  have hb3 : Below w.heap.size w w3 := HB2.out.drew.grown HG3.out (by have := HZ1.out; have := HZ2.out; simp; omega) (by intro k hk; cases hk; exact Nat.le_refl _)
  have hfin : insL L i x = L.take i ++ x :: L.drop i := rfl
  have hcs : (insL L i x).flatMap oc = A ++ oc x ++ D := by
    rw [hfin, List.flatMap_append, List.flatMap_cons, HA.out, HD.out, List.append_assoc]
  have hrow := HROW3.out
  rw [show (i + 1) * 2 = A.length + (oc x).length by rw [HAl.out]; show (i + 1) * 2 = i * 2 + 2; omega, ← HAl.out, splice_two, ← hcs] at hrow
  have hlen : (insL L i x).length = n + 1 := by
    rw [hfin, List.length_append, List.length_cons, List.length_take, List.length_drop, ← HN.out]
    omega
  refine ⟨_, rfl, ?_, hb3⟩
  rw [hlen]
  have h2 := HTL2.out
  have h3 := HDl.out
  have h4 : (oc x).length = 2 := rfl
  exact row_own hrow (by rw [oc_len, hlen]) (by rw [List.length_append, oc_len, hlen, List.length_drop, h2, h3, h4]; omega) hc1 hc2 (Nat.le_refl _)

/-- append of one object to a full list -/
theorem wpList_full_O {w : World} {ops : Array Oper} {rest : List Oper} {o : Oper} {a : Act} {Q : Exit → Act → World → Prop} (hgd : o.guard = none) (s x : Operand) (ho : o.op = .call { callee := .builtin .append, args := #[s, x], argTypes := #[22, 22] })
    (b ad : Addr) (n c : Nat) (olds news : List Value) (hs : a.eval s = .slice (some b) n n) (hx : a.eval x = .slice (some ad) 1 c) (hlo : olds.length = n * 2) (holds : ∀ j v, olds[j]? = some v → w.cell? (b.add j) = some v)
    (hln : news.length = 1 * 2) (hnews : ∀ j v, news[j]? = some v → w.cell? (ad.add j) = some v) (hsz : n ≤ 1000000000)
    (h : ∀ (w' : World) (cap : Nat) (tl : List Value), RowO w' w.heap.size ((olds ++ news) ++ tl) → n + 1 ≤ cap → cap ≤ maxLen → ((olds ++ news) ++ tl).length = cap * 2 → Below w.heap.size w w' → wpList Try.prog ops Q rest (a.put o.dst (.slice (some ⟨w.heap.size, 0, none⟩) (n + 1) cap)) w') :
    wpList Try.prog ops Q (o :: rest) a w := by
  obtain ⟨i0, hi, hz0, hz1, hz2⟩ := info_parts info_O
  have hr := run_append_grow (P := Try.prog) w 22 o.type 27 i0 _ Try.underlying22 hi hz0 b n n olds (by rw [hz1]; exact hlo) holds ad 1 c news (by rw [hz1]; exact hln) hnews (by omega) (by omega) (growslice_fits (by omega) (by rw [hz2]; omega))
  refine Lib.wpList_append_run w hgd s x _ _ ho _ _ hs hx _ _ hr ?_
  have hcge := grownCap_ge w (n + 1) n 27
  refine h _ _ (Builtin.zeroCells (Value.cells (.agg #[.int .i64 0, .slice none 0 0])) (grownCap w (n + 1) n 27 - (n + 1))).toList ?_ hcge (grownCap_le_maxLen _ _ _ _ (by unfold maxLen; omega)) ?_ ?_
  · have := heap_alloc_new w.drew (.cells (olds.toArray ++ news.toArray ++ Builtin.zeroCells (Value.cells (.agg #[.int .i64 0, .slice none 0 0])) (grownCap w (n + 1) n 27 - (n + 1))) 27)
    unfold RowO
    rw [show w.heap.size = w.drew.heap.size from rfl, this]
    congr 2
    apply Array.ext'
    simp
  · have hs2 : (Value.cells (.agg #[.int .i64 0, .slice none 0 0])).size = 2 := rfl
    simp only [List.length_append, Array.length_toList, size_zeroCells, hs2, hlo, hln]
    omega
  · exact (below_drew w).trans ((below1 w.drew _).mono (Nat.le_refl _))

set_option maxHeartbeats 2000000 in
set_option maxRecDepth 100000 in
theorem insert_end (g gv n : Nat) (L : List Lob) (x : Lob) (w : World) (h : OsAt w (.slice (some ⟨g, 0, none⟩) n n) L) (hx : At2 w gv (.int .i64 x.id) x.fv) (hxv : VsAt w x.fv x.vals) (hL : Short L) :
    Calls Try.prog 29 #[.slice (some ⟨g, 0, none⟩) n n, .int .i64 (n : Int), .slice (some ⟨gv, 0, none⟩) 1 1] w (RetOs w (insL L n x)) := by
  have hn : n = L.length := by
    obtain ⟨a, m, c, hv, hn⟩ := h.shape
    obtain ⟨_, e, _⟩ := Value.slice.inj hv
    rw [e]; exact hn.out
  have H := Lib.hid h
  have HX := Lib.hid hx
  have HXV := Lib.hid hxv
  have HN := Lib.hid hn
  have hl : n ≤ 1000000000 := by rw [hn]; exact hL.1
  have HLen : Hid ((L.flatMap oc).length = n * 2) := Lib.hid (by rw [oc_len, hn])
  have HC : Hid (∀ j u, (L.flatMap oc)[j]? = some u → w.cell? ((⟨g, 0, none⟩ : Addr).add j) = some u) := Lib.hid (fun j u hj => by rw [addr_add]; exact h.cells_ j u hj)
  clear h hx hL hn hxv
  go_enter Try.func29, Try.ntmps29
  go_wp2_with (first
    | (at_builtin; refine wpList_full_O rfl _ _ rfl ⟨g, 0, none⟩ ⟨gv, 0, none⟩ n 1 (L.flatMap oc) (oc x) rfl rfl HLen.out HC.out rfl HX.out.src hl ?_; intro w1 cap tl hrow hk1 hk2 hk3 hb1; have HROW := Lib.hid hrow; have HB1 := Lib.hid hb1; have HK3 := Lib.hid hk3; clear hrow hb1 hk3)
    | fail)
  go_ret
  have hfin : insL L n x = L ++ [x] := by unfold insL; rw [HN.out, List.take_length, List.drop_length]
  have hrow := HROW.out
  have hk3 := HK3.out
  have he : L.flatMap oc ++ oc x = (insL L n x).flatMap oc := by rw [hfin, List.flatMap_append]; simp
  rw [he] at hrow hk3
  have hlen : (insL L n x).length = n + 1 := by rw [hfin, List.length_append, ← HN.out]; rfl
  refine ⟨_, rfl, ?_, HB1.out⟩
  rw [hlen]
  exact row_own hrow (by rw [oc_len, hlen]) hk3 hk1 hk2 (Nat.le_refl _)
theorem insert_any (g gv n i : Nat) (L : List Lob) (x : Lob) (w : World) (h : OsAt w (.slice (some ⟨g, 0, none⟩) n n) L) (hx : At2 w gv (.int .i64 x.id) x.fv) (hxv : VsAt w x.fv x.vals) (hL : Short L) (hi : i ≤ n) :
    Calls Try.prog 29 #[.slice (some ⟨g, 0, none⟩) n n, .int .i64 (i : Int), .slice (some ⟨gv, 0, none⟩) 1 1] w (RetOs w (insL L i x)) := by
  rcases Nat.lt_or_ge i n with h1 | h1
  · exact insert_mid g gv n i L x w h hx hxv hL h1
  · obtain rfl : i = n := by omega
    exact insert_end g gv i L x w h hx hxv hL
end Go.Proofs.Ytngjedfoogmbjaa
