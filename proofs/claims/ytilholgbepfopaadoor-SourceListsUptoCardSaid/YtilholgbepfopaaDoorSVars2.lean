/- Vars (of the code), whole. -/
import Derived.Test.YtilholgbepfopaaDoorSVars
namespace Go.Proofs.YtilholgbepfopaaDoor
open Go.RowKit

theorem RV.mono {B0 nb : Nat} (c c' : Nat) (w : World) (l : List ByteArray) (w' : World) (h : RV B0 nb c w l) (hc : c ≤ c') (hb : Below w.heap.size w w') : RV B0 nb c' w' l := by
  obtain ⟨a, n, c2, mp, h1, h2⟩ := h
  exact ⟨a, n, c2, mp, h1.below hb, by omega⟩
theorem NSt.new (w w1 : World) (hb : Below w.heap.size w w1) : NSt (w1.alloc (.cells #[.slice none 0 0, .map none] 63)) w.heap.size w1.heap.size none 0 0 none [] :=
  ⟨CsT.new w1 [.slice none 0 0, .map none] _, NmsOwn.nil _ _, .inl ⟨rfl, rfl⟩, hb.size⟩

theorem CsT.grn {w w' : World} {b nb : Nat} {cs : List Value} {t : TypeId} {mp row mp' row' : Option Nat} (h : CsT w b cs t) (hg : GrN nb mp row w w' mp' row') (h1 : b ≠ nb) (h2 : mp ≠ some b) (h3 : row ≠ some b) : CsT w' b cs t := (hg.block b h.lt h1 h2 h3).trans h
set_option maxHeartbeats 4000000 in
set_option maxRecDepth 100000 in
theorem svars_any (f : Fn) (u x : Value) (w : World) (hsz : szF f ≤ 5000000) (hu : NmsAt w u f.params) (hx : StsAt w x f.body) :
    Calls Tryd.prog 18 #[.agg #[.string f.name, u, x]] w (RNms w (varsO f)) := by
  obtain ⟨ua, uc, rfl⟩ := hu.shape
  obtain ⟨xa, xc, rfl⟩ := hx.shape
  have HU := Lib.hid hu
  have HX := Lib.hid hx
  have HSZ := Lib.hid hsz
  clear hu hx hsz
  have P := Lib.hid (CsT.new w [.string f.name, .slice ua f.params.length uc, .slice xa f.body.length xc] 35)
  have B1 := Lib.hid (below1 w (.cells #[.string f.name, .slice ua f.params.length uc, .slice xa f.body.length xc] 35))
  have p1 := P.out.at_.cell 1 _ rfl
  go_enter Tryd.func18, Tryd.ntmps18
  go_wp2_with fail
  have hz1 : (w.alloc (.cells #[.string f.name, .slice ua f.params.length uc, .slice xa f.body.length xc] 35)).heap.size = w.heap.size + 1 := by simp
  generalize w.alloc (.cells #[.string f.name, .slice ua f.params.length uc, .slice xa f.body.length xc] 35) = w1 at *
  rw [← hz1]
  have S2 := Lib.hid (NSt.new w w1 B1.out)
  have B2 := Lib.hid (B1.out.then_' (below1 w1 (.cells #[.slice none 0 0, .map none] 63)))
  have P2 := Lib.hid (P.out.below (below1 w1 (.cells #[.slice none 0 0, .map none] 63)))
  generalize w1.alloc (.cells #[.slice none 0 0, .map none] 63) = w2 at *
  clear p1 hz1
  refine (nadd_any w.heap.size w1.heap.size none 0 0 none [] f.params _ w2 S2.out (HU.out.below B2.out) (fun b o q k _ h => by cases h) B2.out.size (by have := HSZ.out; unfold szF at this; simp; omega)).mono ?_
  rintro e w3 ⟨a3, n3, c3, mp3, rfl, hst3, hg3⟩
  have hnb : w1.heap.size < w3.heap.size := hst3.cs.lt
  have S3 := Lib.hid hst3
  have F3 := Lib.hid (S2.out.fr hnb hg3)
  have B3 := Lib.hid (F3.out.low B2.out (by have := B2.out.size; have := hg3.size; omega) (fun k h => h.1))
  have P3 := Lib.hid (P2.out.grn hg3 (by have := P.out.lt; omega) (by simp) (by simp [Value.ownBlock]))
  have p2 := P3.out.at_.cell 2 _ rfl
  have HE := Lib.hid (visVL f.body (addAll [] f.params) 1)
  have HL : Hid ((addAll [] f.params).length ≤ f.params.length) := Lib.hid (by have := addAll_len [] f.params; simpa using this)
  clear hst3 hg3
  go_wp2_with fail
  refine (visit_any 39 #[.pointer (some ⟨w1.heap.size, 0, none⟩)] (RV w.heap.size w1.heap.size) fV w3.heap.size (fun k => w.heap.size ≤ k ∧ k < w3.heap.size) w enter_vars (vars1_ok w.heap.size w1.heap.size w3.heap.size w hnb) RV.mono B3.out.size (fun k h => h) f.body _ f.params.length (addAll [] f.params) w3 (by have := HSZ.out; unfold szF at this; omega) (by have := HSZ.out; unfold szF at this; omega) HX.out B3.out ⟨a3, n3, c3, mp3, S3.out, HL.out⟩ (Nat.le_refl _)).mono ?_
  rintro e w4 ⟨rfl, hr4, hf4⟩
  rw [HE.out] at hr4
  obtain ⟨a4, n4, c4, mp4, hst4, -⟩ := hr4
  have S4 := Lib.hid hst4
  have B4 := Lib.hid (hf4.low B3.out B3.out.size (fun k h => h.1))
  have p0 := S4.out.cs.at_.cell 0 _ rfl
  clear hst4 hf4 p2
  go_wp2_with fail
  go_ret
  exact ⟨a4, n4, c4, rfl, S4.out.own, B4.out⟩
end Go.Proofs.YtilholgbepfopaaDoor
