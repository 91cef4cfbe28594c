/- Copies of the statements' own: objects, a heap. -/
import Derived.Test.YtngjedfoogmbjaaHPut
namespace Go.Proofs.Ytngjedfoogmbjaa
open Go.RowKit

/-- a list of objects that reads as O -/
def RetKs (w : World) (O : List Ob) (e : Ending) (w' : World) : Prop := ∃ v L', e = .returned v ∧ OsOwn w' w.heap.size v L' ∧ obs L' = O ∧ Below w.heap.size w w'
/-- the fields of an object lie in old memory, or in a row of their own -/
def KeepV (w wr : World) (g : Nat) (old : Prop) (x : Lob) : Prop := (old ∧ VsAt w x.fv x.vals) ∨ (VsOwn wr w.heap.size x.fv x.vals ∧ x.fv.ownBlock ≠ some g)
theorem KeepV.at_ {w wr : World} {g : Nat} {old : Prop} {x : Lob} (h : KeepV w wr g old x) (hb : Below w.heap.size w wr) : VsAt wr x.fv x.vals := by
  rcases h with h | h
  · exact h.2.below hb
  · exact h.1.at_
theorem KeepV.below {w wr w' : World} {g : Nat} {old : Prop} {x : Lob} (h : KeepV w wr g old x) (hb : Below wr.heap.size wr w') : KeepV w w' g old x := by
  rcases h with h | h
  · exact .inl h
  · exact .inr ⟨h.1.below hb, h.2⟩
theorem KeepV.set {w wr : World} {g o : Nat} {old : Prop} {x : Lob} (h : KeepV w wr g old x) (u : Value) : KeepV w (wr.setCell ⟨g, o, none⟩ u) g old x := by
  rcases h with h | h
  · exact .inl h
  · exact .inr ⟨own_far h.1 (p := ⟨g, o, none⟩) h.2 u, h.2⟩
theorem short_mem {L L' : List Lob} (hL : ∀ x ∈ L, x.vals.length ≤ 1000000000) (h : obs L' = obs L) {k : Nat} {x : Lob} (hk : L'[k]? = some x) : x.vals.length ≤ 1000000000 := by
  have h1 := obs_at hk
  rw [h] at h1
  obtain ⟨y, hy, e⟩ := List.mem_map.1 (List.mem_of_getElem? h1)
  have : y.vals = x.vals := congrArg Prod.snd e
  rw [← this]
  exact hL y hy
theorem flat_setF (L : List Lob) (k : Nat) (x y : Lob) (hk : L[k]? = some x) (hid : y.id = x.id) : (L.flatMap oc).set (k * 2 + 1) y.fv = (L.set k y).flatMap oc := by
  have hlt := (List.getElem?_eq_some_iff.1 hk).1
  have h := flat_set L k y
  rw [if_pos hlt] at h
  rw [← h]
  congr 1
  apply List.ext_getElem?
  intro j
  rw [List.getElem?_set]
  split
  · rename_i e
    subst e
    rw [if_pos (by rw [oc_len]; omega), (oc_at L k x hk).1, hid]
  · rfl

set_option maxHeartbeats 1000000 in
set_option maxRecDepth 100000 in
theorem objects_any (v : Value) (L : List Lob) (w : World) (h : OsAt w v L) (hL : Short L) :
    Calls Try.prog 22 #[v] w (RetKs w (obs L)) := by
  obtain ⟨a, n, c, rfl, hn⟩ := h.shape
  have H := Lib.hid h
  have hl : n ≤ 1000000000 := by rw [hn.out]; exact hL.1
  have HL := Lib.hid hL.2
  have HS : Hid (SlAt w 2 (.slice a n c) n (L.flatMap oc)) := Lib.hid (by have := h.1; rwa [← hn.out] at this)
  have HO1 := Lib.hid (oc_one h)
  clear h hL
  go_enter Try.func22, Try.ntmps22
  go_wp2_with (first | (at_builtin; refine appO rfl _ _ rfl w.heap.size _ 0 [] rfl (ownO_nil _ _) _ n (L.flatMap oc) rfl HS.out HO1.out (by omega) (Nat.le_refl _) ?_; intro a1 c1 w1 hown hg _; simp only [Nat.zero_add, List.nil_append] at hown; simp only [Nat.zero_add]; have HOWN := Lib.hid hown; have HB := Lib.hid (Below.grewNone hg); clear hown hg) | fail)
  have hga : ∃ g, (0 < n → a1 = some ⟨g, 0, none⟩ ∧ w.heap.size ≤ g ∧ g < w1.heap.size) := by
    rcases Nat.eq_zero_or_pos n with h0 | h0
    · exact ⟨0, fun h => by omega⟩
    · obtain ⟨g, h1, h2, h3⟩ := row_pos HOWN.out h0
      exact ⟨g, fun _ => ⟨h1, h2, h3⟩⟩
  obtain ⟨g, hga⟩ := hga
  have HGA := Lib.hid hga
  clear hga
  go_loopw [4, 9] (fun _ i wr => ∃ (k : Nat) (L' : List Lob), k ≤ n ∧ i = .int .i64 k ∧ Below w.heap.size w wr ∧ w1.heap.size ≤ wr.heap.size ∧ Hid (L'.length = n ∧ obs L' = obs L) ∧ Hid (wr.ownsRow w.heap.size 27 2 (.slice a1 n c1) n (L'.flatMap oc)) ∧ Hid (∀ (j : Nat) (x : Lob), L'[j]? = some x → KeepV w wr g (k ≤ j) x)) (fun _ i _ => n - (intOf i).toNat)
  case atStart => exact ⟨0, L, Nat.zero_le _, rfl, HB.out, Nat.le_refl _, ⟨hn.out.symm, rfl⟩, HOWN.out, fun j x hx => .inl ⟨Nat.zero_le _, H.out.2 x (List.mem_of_getElem? hx)⟩⟩
  case round =>
    obtain ⟨k, L', hk, rfl, hb, hzw, hi, hrow, hkeep⟩ := hrel
    by_cases hlt : k < n
    · obtain ⟨rfl, hg1, hg2⟩ := HGA.out (by omega)
      obtain ⟨x, hx⟩ : ∃ x, L'[k]? = some x := ⟨_, List.getElem?_eq_getElem (by rw [hi.out.1]; exact hlt)⟩
      obtain ⟨_, s1, _, s3⟩ := row_cells hrow.out hx
      have hxv := (hkeep.out k x hx).at_ hb
      have hxl : x.vals.length ≤ 1000000000 := short_mem HL.out hi.out.2 hx
      have HX := Lib.hid hx
      have HB' := Lib.hid hb
      obtain ⟨i, xv, l⟩ := x
      simp only at s1 hxv hxl
      obtain ⟨fa, fn, fc, rfl, _⟩ := hxv.shape
      have HXV := Lib.hid hxv
      clear hb hx hxv
      have hki : (k : Int) < (n : Int) := by omega
      go_wp2_with (first | (go_at_call 33; refine (values_any _ l _ HXV.out hxl).mono ?_; rintro e w2 ⟨v2, rfl, ho2, hb2⟩; obtain ⟨a2, n2, c2, rfl, _⟩ := VsAt.shape ho2.at_; obtain ⟨_, t1, _, t3⟩ := row_cells (own_below hrow.out hb2) HX.out; have HO2 := Lib.hid ho2; have HB2 := Lib.hid hb2; have HR2 := Lib.hid (own_below hrow.out hb2); clear ho2 hb2) | fail)
      go_roundw
      case rel =>
        have hr := (World.ownsRow.stored HR2.out (k * 2 + 1) (.slice a2 n2 c2)).1
        rw [flat_setF L' k _ ⟨i, .slice a2 n2 c2, l⟩ HX.out rfl] at hr
        have hne : (Value.slice a2 n2 c2).ownBlock ≠ some g := fun e => by
          have := (World.ownsRow.lt HO2.out g e).1
          omega
        refine ⟨k + 1, L'.set k ⟨i, .slice a2 n2 c2, l⟩, by omega, by go_num, (HB'.out.then_' HB2.out).setCell (p := ⟨g, k * 2 + 1, none⟩) hg1 _, ?_, ⟨by simp [hi.out.1], ?_⟩, hr, ?_⟩
        · rw [size_set]
          exact Nat.le_trans hzw HB2.out.size
        · rw [obs_set, ← hi.out.2]
          apply List.ext_getElem?
          intro j
          rw [List.getElem?_set]
          split
          · rename_i e
            subst e
            rw [if_pos (by rw [obs_len, hi.out.1]; exact hlt), obs_at HX.out]
            rfl
          · rfl
        · intro j y hy
          rw [List.getElem?_set] at hy
          split at hy
          · rename_i e
            split at hy
            · obtain rfl := Option.some.inj hy
              exact .inr ⟨own_far (VsOwn.mono HO2.out HB'.out.size) (p := ⟨g, k * 2 + 1, none⟩) hne _, hne⟩
            · cases hy
          · rename_i e
            rcases ((hkeep.out j y hy).below HB2.out).set (o := k * 2 + 1) (.slice a2 n2 c2) with h | h
            · exact .inl ⟨by omega, h.2⟩
            · exact .inr h
      case measure => simp [intOf]; omega
    · obtain rfl : k = n := by omega
      go_wp2
      go_ret
      refine ⟨_, L', rfl, ⟨?_, fun x hx => ?_⟩, hi.out.2, hb⟩
      · rw [hi.out.1]
        exact hrow.out
      · obtain ⟨j, hj⟩ := List.getElem?_of_mem hx
        have hjl := (List.getElem?_eq_some_iff.1 hj).1
        rcases hkeep.out j x hj with h | h
        · have := hi.out.1
          omega
        · exact h.1

set_option maxHeartbeats 1000000 in
set_option maxRecDepth 100000 in
theorem keep_any (v : Value) (L : List Lob) (w : World) (h : OsAt w v L) (hL : Short L) :
    Calls Try.prog 8 #[.agg #[v]] w (RetP w (obs L)) := by
  obtain ⟨a, n, c, rfl, hn⟩ := h.shape
  have H := Lib.hid h
  have HL := Lib.hid hL
  clear h hL
  obtain ⟨W, hW, hB, hP, hR, hz⟩ := one_one w (.slice a n c) (.slice none 0 0) 24 24
  have HW := Lib.hid hW
  have HB := Lib.hid hB
  have HR := Lib.hid hR
  clear hW hB hP hR hz
  go_enter Try.func8, Try.ntmps8
  go_wp2_with fail
  rw [HW.out]
  refine (objects_any _ L _ (H.out.below HB.out) HL.out).mono ?_
  rintro e w1 ⟨v1, L', rfl, ho, hob, hb⟩
  obtain ⟨a1, c1, rfl⟩ := SlAt.shape (own_sl ho.row)
  obtain ⟨r0, f0, _⟩ := HR.out.below hb
  have HO := Lib.hid ho
  have HB1 := Lib.hid (HB.out.then_' hb)
  have hltR : w.heap.size + 1 < W.heap.size := HR.out.lt
  clear ho hb
  go_wp2
  refine bodyPost_ret (v := .agg #[.slice a1 L'.length c1]) (by simp [results, Try.results8, go_sem, r0]) rfl ?_
  exact ⟨_, L', rfl, (HO.out.far (p := ⟨w.heap.size + 1, 0, none⟩) hltR _).at_, hob, HB1.out.setCell (p := ⟨w.heap.size + 1, 0, none⟩) (show w.heap.size ≤ w.heap.size + 1 by omega) _⟩
end Go.Proofs.Ytngjedfoogmbjaa
