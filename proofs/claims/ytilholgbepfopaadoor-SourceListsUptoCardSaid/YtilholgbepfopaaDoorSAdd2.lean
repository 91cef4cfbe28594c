/- names.add, walked. -/
import Derived.Test.YtilholgbepfopaaDoorSAdd
import Derived.Test.YtilholgbepfopaaDoorTReads
namespace Go.Proofs.YtilholgbepfopaaDoor
open Go.RowKit

def RNAdd (w : World) (B0 nb : Nat) (mp row : Option Nat) (l : List ByteArray) (e : Ending) (w' : World) : Prop :=
  ∃ a n c mp', e = .returned (.tuple #[]) ∧ NSt w' B0 nb a n c mp' l ∧ GrN nb mp row w w' mp' (Value.slice a n c).ownBlock
theorem has_in {l : List ByteArray} {s : ByteArray} (h : hasN l s = true) : s ∈ l := by
  unfold hasN at h
  obtain ⟨x, hx, e⟩ := List.any_eq_true.1 h
  rw [← of_decide_eq_true e]
  exact hx
theorem has_out {l : List ByteArray} {s : ByteArray} (h : hasN l s = false) : s ∉ l := fun hm => by
  unfold hasN at h
  have := List.any_eq_false.1 h s hm
  simp at this
theorem nms_kept {w w' : World} {b o n c : Nat} {m : List ByteArray} (h : NmsAt w (.slice (some ⟨b, o, none⟩) n c) m) (hh : w'.heap[b]? = w.heap[b]?) : NmsAt w' (.slice (some ⟨b, o, none⟩) n c) m := by
  rcases h with ⟨e, _⟩ | ⟨ad, c', e, h1, h2, h3⟩
  · cases e
  · obtain ⟨e1, -, -⟩ := Value.slice.inj e
    obtain rfl := Option.some.inj e1
    exact .inr ⟨_, c', e, h1, h2, fun j u hj => by rw [addr_add]; exact (World.cell?_of_block (a := ⟨b, o + j, none⟩) hh).trans (by rw [← addr_add]; exact h3 j u hj)⟩
/-- the names m at v, in a row that is not the list's -/
theorem nms_grown {w w' : World} {B0 nb n c : Nat} {a : Option Addr} {mp mp' row' : Option Nat} {l m : List ByteArray} {v : Value} (hst : NSt w B0 nb a n c mp l) (h : NmsAt w v m) (hap : ∀ b o q k, v = .slice (some ⟨b, o, none⟩) q k → (Value.slice a n c).ownBlock ≠ some b)
    (hg : GrN nb mp (Value.slice a n c).ownBlock w w' mp' row') {k : Nat} {s : ByteArray} (hk : m[k]? = some s) : ∃ b o c', v = .slice (some ⟨b, o, none⟩) m.length c' ∧ w'.cell? ⟨b, o + k, none⟩ = some (.string s) := by
  obtain ⟨b, o, c', rfl, hb, hc⟩ := h.elem hk
  refine ⟨b, o, c', rfl, (World.cell?_of_block (a := ⟨b, o + k, none⟩) (hg.block b hb ?_ ?_ (hap _ _ _ _ rfl))).trans hc⟩
  · rintro rfl
    have h1 := hst.cs.at_
    have h2 := hst.cs
    unfold CsT at h2
    rw [cell_of_row _ _ (o + k) _ _ _ h2] at hc
    rcases h3 : o + k with _ | _ | j
    · rw [h3] at hc; cases hc
    · rw [h3] at hc; cases hc
    · rw [h3] at hc; simp at hc
  · rintro rfl
    rcases hst.map with ⟨h1, _⟩ | ⟨b', h1, _, h3⟩
    · cases h1
    · obtain rfl := Option.some.inj h1
      obtain ⟨es, q, h4, _⟩ := h3
      unfold World.cell? at hc
      rw [h4] at hc
      cases hc
theorem NSt.made {w : World} {B0 nb n c : Nat} {a : Option Addr} {l : List ByteArray} (h : NSt w B0 nb a n c none l) (hB : B0 ≤ w.heap.size) :
    NSt ((w.alloc (.map #[] 0)).setCell ⟨nb, 1, none⟩ (.map (some w.heap.size))) B0 nb a n c (some w.heap.size) l ∧ GrN nb none (Value.slice a n c).ownBlock w ((w.alloc (.map #[] 0)).setCell ⟨nb, 1, none⟩ (.map (some w.heap.size))) (some w.heap.size) (Value.slice a n c).ownBlock := by
  obtain rfl : l = [] := by
    rcases h.map with ⟨_, h1⟩ | ⟨b, h1, _⟩
    · exact h1
    · cases h1
  have b1 := below1 w (.map #[] 0)
  have hne : (Value.slice a n c).ownBlock ≠ some nb := own_ne (h.own.below b1) (h.cs.below b1) (by decide)
  have hlt := h.cs.lt
  refine ⟨⟨(h.cs.below b1).set1, ?_, .inr ⟨_, rfl, hB, (SetAt.new w).kept (Below.heap_setCell _ _ _ _ (fun e => by simp only at e; omega))⟩, h.lo⟩, rfl, rfl, rfl, by simp [World.setCell], fun k hk h1 _ _ => (Below.heap_setCell _ _ _ k h1).trans (b1.block k hk), .inr ⟨_, rfl, Nat.le_refl _⟩, .inl rfl⟩
  exact NmsOwn.kept (r := some nb) (h.own.below b1) ⟨rfl, rfl, rfl, by simp [World.setCell], fun k _ hk => Below.heap_setCell _ _ _ k (fun e => hk (by rw [e]))⟩ (fun b' e => by rw [← Option.some.inj e]; exact hne)
structure NSt5 (w : World) (B0 nb : Nat) (a : Option Addr) (n c b : Nat) (l : List ByteArray) : Prop where
  cs : CsT w nb [.slice a n c, .map (some b)] 63
  own : NmsOwn w B0 (.slice a n c) l
theorem NSt5.of {w w5 : World} {B0 nb n c b : Nat} {a : Option Addr} {l : List ByteArray} (h : NSt w B0 nb a n c (some b) l) (hg : w.grownBy w5 (some b)) : NSt5 w5 B0 nb a n c b l := by
  obtain ⟨b', hb1, hb2, hb3⟩ : ∃ b', some b = some b' ∧ B0 ≤ b' ∧ SetAt w b' l := by
    rcases h.map with ⟨h1, _⟩ | h1
    · cases h1
    · exact h1
  obtain rfl := Option.some.inj hb1
  have hnb : nb ≠ b := fun e => by
    have := h.cs
    unfold CsT at this
    rw [e] at this
    exact hb3.no_row this
  exact ⟨(hg.block nb h.cs.lt (fun e => hnb (Option.some.inj e))).trans h.cs, h.own.kept hg (fun b' e => by rw [← Option.some.inj e]; exact own_ne_map h.own hb3)⟩
theorem CsAt.grew {w w' : World} {b : Nat} {cs : List Value} {r : Option Nat} (h : CsAt w b cs) (hg : w.grownBy w' r) (hr : r ≠ some b) {u : Value} (hu : cs[0]? = some u) : w'.cell? ⟨b, 0, none⟩ = some u ∧ w'.frozen? ⟨b, 0, none⟩ = false :=
  ⟨(World.cell?_of_block (a := ⟨b, 0, none⟩) (hg.block b h.lt (fun e => hr e.symm))).trans (h.cell 0 u hu), (World.frozen?_of_block (a := ⟨b, 0, none⟩) (hg.block b h.lt (fun e => hr e.symm))).trans (h.fr 0)⟩

set_option maxHeartbeats 4000000 in
set_option maxRecDepth 100000 in
theorem nadd_any (B0 nb : Nat) (a : Option Addr) (n c : Nat) (mp : Option Nat) (l m : List ByteArray) (v : Value) (w : World) (hst : NSt w B0 nb a n c mp l) (hv : NmsAt w v m) (hap : ∀ b o q k, v = .slice (some ⟨b, o, none⟩) q k → (Value.slice a n c).ownBlock ≠ some b)
    (hB : B0 ≤ w.heap.size) (hlen : l.length + m.length ≤ 100000000) : Calls Tryd.prog 37 #[.pointer (some ⟨nb, 0, none⟩), v] w (RNAdd w B0 nb mp (Value.slice a n c).ownBlock (addAll l m)) := by
  obtain ⟨va, vc, rfl⟩ := hv.shape
  have HV := Lib.hid hv
  have HAP := Lib.hid hap
  have ST := Lib.hid hst
  have HLEN := Lib.hid hlen
  have hmm := @run_makeMap Tryd.prog
  have hl : m.length ≤ 100000000 := by omega
  obtain ⟨q, hq⟩ : ∃ q, q = m.length := ⟨_, rfl⟩
  have HQ := Lib.hid hq
  rw [← hq] at HV HAP hl ⊢
  have p0 := hst.cs.at_.cell 1 _ rfl
  have hbo : ∀ wx, (binOp .eql 61 (.map mp) (.map none)).run Tryd.prog wx = .ok (.bool mp.isNone) wx := fun wx => by cases mp <;> kernel_rfl
  have f0 : (w.alloc (.map #[] 0)).frozen? ⟨nb, 1, none⟩ = false := (hst.cs.below (below1 w _)).at_.fr 1
  have f1 : mp = none → (w.alloc (.map #[] 0)).cell? ⟨nb, 1, none⟩ = some (.map none) := fun e => by subst e; exact (hst.cs.below (below1 w _)).at_.cell 1 _ rfl
  clear hst hv hap hlen hq
  go_enter Tryd.func37, Tryd.ntmps37
  go_upto_if 10 with (fail)
  clear hbo
  go_cut [6, 7, 8, 9, 10, 11, 12, 13, 14] (fun _ _ _ _ _ _ _ _ _ wx => ∃ b, NSt wx B0 nb a n c (some b) l ∧ GrN nb mp (Value.slice a n c).ownBlock w wx (some b) (Value.slice a n c).ownBlock)
  case first =>
    cases mp with
    | none =>
      have f2 := f1 rfl
      go_wp2_with fail
      go_meet
      case rel => exact ⟨_, NSt.made ST.out hB⟩
    | some b =>
      go_wp2_with fail
      go_meet
      case rel => exact ⟨b, ST.out, GrN.refl _ _ _ _⟩
  case rest =>
    obtain ⟨b1, hst1, hg1⟩ := hcut
    have S1 := Lib.hid hst1
    have G1 := Lib.hid hg1
    clear hst1 hg1 p0 f0 f1 hmm
    go_wp2_with fail
    go_loopw [5, 17] (fun _ k_ wr => ∃ (k : Nat) (a2 : Option Addr) (n2 c2 : Nat), k ≤ q ∧ k_ = .int .i64 k ∧ NSt wr B0 nb a2 n2 c2 (some b1) (addAll l (m.take k)) ∧ GrN nb mp (Value.slice a n c).ownBlock w wr (some b1) (Value.slice a2 n2 c2).ownBlock) (fun _ k_ _ => q - (intOf k_).toNat)
    case atStart => exact ⟨0, a, n, c, Nat.zero_le _, rfl, by simpa [addAll] using S1.out, G1.out⟩
    case round =>
      clear S1 G1
      obtain ⟨k, a2, n2, c2, hk, rfl, hst2, hg2⟩ := hrel
      have S2 := Lib.hid hst2
      have G2 := Lib.hid hg2
      clear hst2 hg2
      by_cases hlt : k < q
      · obtain ⟨s, hs⟩ : ∃ s, m[k]? = some s := ⟨_, List.getElem?_eq_getElem (by rw [← HQ.out]; exact hlt)⟩
        obtain ⟨b, o, c', hv, c0⟩ := nms_grown ST.out HV.out HAP.out G2.out hs
        obtain ⟨rfl, -, rfl⟩ := Value.slice.inj hv
        have HS := Lib.hid (take_snoc' hs)
        have hki : (k : Int) < (q : Int) := by omega
        have HL : Hid ((addAll l (m.take k)).length + 1 ≤ 100000000) := Lib.hid (by
          have h1 := addAll_len l (m.take k)
          have h2 : (m.take k).length ≤ k := by simp; omega
          have h3 := HLEN.out
          have h4 := HQ.out
          omega)
        have t1 := S2.out.cs.at_.cell 1 _ rfl
        have hsz := Nat.le_trans hB G2.out.size
        have HSZ := Lib.hid hsz
        clear hv hs hsz
        generalize hcur : addAll l (m.take k) = cur at *
        have HCUR := Lib.hid hcur
        clear hcur
        obtain ⟨b1', e1, -, hset⟩ : ∃ b', some b1 = some b' ∧ B0 ≤ b' ∧ SetAt wr b' cur := by
          rcases S2.out.map with ⟨h1, _⟩ | h1
          · cases h1
          · exact h1
        obtain rfl := Option.some.inj e1
        have SET := Lib.hid hset
        have hz : (zeroValue 4).run Tryd.prog wr = .ok (.bool false) wr := by kernel_rfl
        cases hh : hasN cur s with
        | true =>
          have HH := Lib.hid hh
          have hlk := hset.look_yes (P := Tryd.prog) Tryd.underlying61 Tryd.underlying9 (E' := 4) (has_in hh)
          clear hh hset hz e1
          go_wp2_with fail
          go_roundw
          case rel => exact ⟨k + 1, a2, n2, c2, by omega, by go_num, by rw [HS.out, addAll_snoc, HCUR.out, add_yes HH.out]; exact S2.out, G2.out⟩
          case measure => simp [intOf]; omega
        | false =>
          have HH := Lib.hid hh
          have hlk := hset.look_no (P := Tryd.prog) Tryd.underlying61 Tryd.underlying9 hz (has_out hh)
          obtain ⟨w5, hput, hset5, hg5⟩ := hset.put (P := Tryd.prog) (T := 61) (K := 9) (E' := 4) Tryd.underlying61 Tryd.underlying9 s (has_out hh)
          have S5 : NSt5 w5 B0 nb a2 n2 c2 b1 cur := NSt5.of S2.out hg5
          have n0 := S5.cs.at_.cell 0 _ rfl
          have H5 := Lib.hid S5
          have SET5 := Lib.hid hset5
          have G5 := Lib.hid hg5
          have HS5 : Hid (B0 ≤ (w5.alloc (.cells #[.string s] 9)).heap.size) := Lib.hid (by have := hg5.size; have := HSZ.out; simp; omega)
          clear hh hset hz e1 S5 hset5 hg5
          go_wp2_with (first
            | (at_builtin; refine appN rfl _ _ rfl B0 (.slice a2 n2 c2) cur rfl (H5.out.own.below (below1 _ _)) _ [s] rfl (nms_at1 w5 s) (by have := HL.out; simp; omega) HS5.out ?_; intro v' w7 ho hg hat; obtain ⟨a7, c7, rfl⟩ := ho.shape; have e1 : (cur ++ [s]).length = cur.length + 1 := (by simp); rw [e1] at ho hat; have F7 := NSt.added S2.out SET5.out G5.out ho hg hat; have H7 := Lib.hid F7; obtain ⟨cz, fz⟩ := (H5.out.cs.below (below1 _ (.cells #[.string s] 9))).at_.grew hg (own_ne H5.out.own H5.out.cs (by decide)) rfl; clear ho hg hat e1 F7)
            | fail)
          go_roundw
          case rel => exact ⟨k + 1, a7, _, c7, by omega, by go_num, by rw [HS.out, addAll_snoc, HCUR.out, add_no HH.out]; exact H7.out.1, G2.out.trans H7.out.2⟩
          case measure => simp [intOf]; omega
      · obtain rfl : k = q := by omega
        have e1 : m.take k = m := List.take_of_length_le (Nat.le_of_eq HQ.out.symm)
        rw [e1] at S2
        go_wp2
        go_end0
        exact ⟨_, _, _, _, rfl, S2.out, G2.out⟩
end Go.Proofs.YtilholgbepfopaaDoor
