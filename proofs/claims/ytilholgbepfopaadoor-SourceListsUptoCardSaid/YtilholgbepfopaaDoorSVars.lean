/- Vars (of the code). -/
import Derived.Test.YtilholgbepfopaaDoorSParts
namespace Go.Proofs.YtilholgbepfopaaDoor
open Go.RowKit

def fV (st : List ByteArray) (s : St) (_ : Nat) : List ByteArray := if (partsOf s.kind).name = true then addN st s.name else st
theorem sparts_name (k : Int) : (partsOf k).name = ((sparts k).2 && (sparts k).1.name) := by
  by_cases h1 : k = 1
  · subst h1; rfl
  by_cases h11 : k = 11
  · subst h11; rfl
  by_cases h2 : k = 2
  · subst h2; rfl
  by_cases h3 : k = 3
  · subst h3; rfl
  by_cases h4 : k = 4
  · subst h4; rfl
  by_cases h5 : k = 5
  · subst h5; rfl
  by_cases h6 : k = 6
  · subst h6; rfl
  by_cases h7 : k = 7
  · subst h7; rfl
  by_cases h8 : k = 8
  · subst h8; rfl
  by_cases h10 : k = 10
  · subst h10; rfl
  by_cases h9 : k = 9
  · subst h9; rfl
  by_cases h12 : k = 12
  · subst h12; rfl
  simp [partsOf, sparts, h1, h11, h2, h3, h4, h5, h6, h7, h8, h10, h9, h12]
mutual
theorem visV : ∀ (s : St) (st : List ByteArray) (d : Nat), vis fV st d s = walkS st s
  | .mk k nm fn n op es b e, st, d => by
    rw [vis, walkS, visVL b, visVL e]
    rfl
theorem visVL : ∀ (l : List St) (st : List ByteArray) (d : Nat), visL fV st d l = walkL st l
  | [], st, d => by rw [visL, walkL]
  | s :: l, st, d => by rw [visL, walkL, visV s, visVL l]
end
/-- the state while statements are visited: the list, at most c names -/
def RV (B0 nb : Nat) (c : Nat) (w : World) (l : List ByteArray) : Prop := ∃ a n c' mp, NSt w B0 nb a n c' mp l ∧ l.length ≤ c
theorem enter_vars (args : Array Value) (w : World) : (callFunc 39 args).run Tryd.prog w = .ok (.enter 39 args) w := call_enter Tryd.func39 (by kernel_rfl) (by kernel_rfl) args w
theorem stV_cells (s : St) (u x y : Value) (w : World) : CsT (w.alloc (.cells #[.int .i64 s.kind, .string s.name, .string s.fn, .int .i64 s.n, .int .i64 s.op, u, x, y] 40)) w.heap.size (stC s u x y) 40 := CsT.new w (stC s u x y) _

set_option maxHeartbeats 4000000 in
set_option maxRecDepth 100000 in
theorem vars1_ok (B0 nb B : Nat) (w0 : World) (hnb : nb < B) : SeeOK 39 #[.pointer (some ⟨nb, 0, none⟩)] (RV B0 nb) fV B (fun k => B0 ≤ k ∧ k < B) w0 := by
  intro c d s u x y l w hc hd hr _ _ _ _
  obtain ⟨a, n, c', mp, hst, hlen⟩ := hr
  have ST := Lib.hid hst
  have HL := Lib.hid hlen
  have B1 := Lib.hid (below1 w (.cells #[.int .i64 s.kind, .string s.name, .string s.fn, .int .i64 s.n, .int .i64 s.op, u, x, y] 40))
  have T := Lib.hid (stV_cells s u x y w)
  have t0 := T.out.at_.cell 0 _ rfl
  have hB0 : B0 ≤ w.heap.size := by have := hst.lo; have := hst.cs.lt; omega
  clear hst hlen
  unfold stV
  show Calls Tryd.prog 39 #[.agg #[.int .i64 s.kind, .string s.name, .string s.fn, .int .i64 s.n, .int .i64 s.op, u, x, y], .int .i64 (d : Int), .pointer (some ⟨nb, 0, none⟩)] w _
  go_enter Tryd.func39, Tryd.ntmps39
  go_wp2_with fail
  generalize w.alloc (.cells #[.int .i64 s.kind, .string s.name, .string s.fn, .int .i64 s.n, .int .i64 s.op, u, x, y] 40) = w1 at *
  refine (sparts_any s.kind w1).mono ?_
  rintro e w2 ⟨rfl, hb⟩
  have B2 := Lib.hid (B1.out.then_' hb)
  have T2 := Lib.hid (T.out.below hb)
  have HN := Lib.hid (sparts_name s.kind)
  clear t0 hb
  generalize sparts s.kind = pp at *
  obtain ⟨⟨p1, p2, p3, p4, p5, p6, p7, p8⟩, ok⟩ := pp
  unfold spV
  simp only at HN ⊢
  have BP := Lib.hid (below1 w2 (.cells #[.bool p1, .bool p2, .bool p3, .int .i64 p4, .int .i64 p5, .int .i64 p6, .bool p7, .bool p8] 67))
  have B3 := Lib.hid (B2.out.then_' BP.out)
  have t1 := (T2.out.below BP.out).at_.cell 1 _ rfl
  cases ok with
  | false =>
    have HF : Hid (fV l s d = l) := Lib.hid (by unfold fV; rw [HN.out]; simp)
    clear HN
    go_wp2_with fail
    go_end0
    exact ⟨rfl, ⟨a, n, c', mp, by rw [HF.out]; exact ST.out.below B3.out, by rw [HF.out]; have := HL.out; omega⟩, Fr.of_below B3.out⟩
  | true =>
    cases p1 with
    | false =>
      have HF : Hid (fV l s d = l) := Lib.hid (by unfold fV; rw [HN.out]; simp)
      clear HN
      go_wp2_with fail
      go_end0
      exact ⟨rfl, ⟨a, n, c', mp, by rw [HF.out]; exact ST.out.below B3.out, by rw [HF.out]; have := HL.out; omega⟩, Fr.of_below B3.out⟩
    | true =>
      have HF : Hid (fV l s d = addAll l [s.name]) := Lib.hid (by unfold fV; rw [HN.out]; rfl)
      clear HN
      go_wp2_with fail
      have hz : (w2.alloc (.cells #[.bool true, .bool p2, .bool p3, .int .i64 p4, .int .i64 p5, .int .i64 p6, .bool p7, .bool p8] 67)).heap.size = w2.heap.size + 1 := by simp
      generalize w2.alloc (.cells #[.bool true, .bool p2, .bool p3, .int .i64 p4, .int .i64 p5, .int .i64 p6, .bool p7, .bool p8] 67) = w3 at *
      rw [← hz]
      clear hz
      have hst3 := ST.out.below B3.out
      have hb4 := below1 w3 (.cells #[.string s.name] 9)
      have hst4 := hst3.below hb4
      have S4 := Lib.hid hst4
      have hB4 : B0 ≤ (w3.alloc (.cells #[.string s.name] 9)).heap.size := Nat.le_trans hB0 (Nat.le_trans B3.out.size hb4.size)
      refine (nadd_any B0 nb a n c' mp l [s.name] _ _ hst4 (nms_at1 w3 s.name) (fun b o q k e h => ?_) hB4 (by have := HL.out; simp; omega)).mono ?_
      · have h1 := (Value.slice.inj e).1
        have h2 := (World.ownsRow.lt hst3.own b h).2
        have h3 := (Addr.mk.inj (Option.some.inj h1)).1
        omega
      rintro e w5 ⟨a5, n5, c5, mp5, rfl, hst5, hg5⟩
      have S5 := Lib.hid hst5
      have F5 := Lib.hid ((Fr.of_below (B3.out.then_' hb4)).trans (S4.out.fr hnb hg5))
      have HLN : Hid ((addAll l [s.name]).length ≤ c + 1) := Lib.hid (by have h1 := addAll_len l [s.name]; have h2 := HL.out; simp at h1; omega)
      clear hst3 hb4 hst4 hB4 hst5 hg5
      go_wp2
      go_end0
      exact ⟨rfl, ⟨a5, n5, c5, mp5, by rw [HF.out]; exact S5.out, by rw [HF.out]; exact HLN.out⟩, F5.out⟩
end Go.Proofs.YtilholgbepfopaaDoor
