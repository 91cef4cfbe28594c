/- The two ways to get an object. -/
import Derived.Test.YtbnippldclpclaaNMath
import Derived.Test.YtbnippldclpclaaBMap
namespace Go.Proofs.Ytbnippldclpclaa
open Go.RowKit

def RGetO (w : World) (x : Ob) (b : Bool) (e : Ending) (w' : World) : Prop := ∃ a n c, e = .returned (.tuple #[.agg #[.int .i64 x.1, .slice a n c], .bool b]) ∧ VsOwn w' w.heap.size (.slice a n c) x.2 ∧ Below w.heap.size w w'
theorem get_okL {v : Value} {L : List Lob} {w : World} (id : Int) (h : OsAt w v L) (hs : Short L) : Calls Try.prog 29 #[.agg #[v], .int .i64 id] w (RGetO w (obD L id) (isIn L id)) := by
  refine (get_own v L id w h hs).mono ?_
  rintro e w' ⟨y, rfl, h1, h2, h3⟩
  obtain ⟨a, c, hv⟩ := SlAt.shape h1.at_
  rw [← h2]
  refine ⟨a, y.vals.length, c, ?_, ?_, h3⟩
  · unfold ov; rw [hv]; rfl
  · rw [← hv]; exact h1
theorem get_okO {v : Value} {O : List Ob} {w : World} (id : Int) (h : OAt w v O) (hs : ShortO O) : Calls Try.prog 29 #[.agg #[v], .int .i64 id] w (RGetO w (getO O id) (inO O id)) := by
  obtain ⟨L, h, rfl⟩ := h
  rw [← obD_obs, ← isIn_obs]
  exact get_okL id h (shortO hs)
theorem retO_new {w W w' : World} {x : Ob} {b : Bool} {a : Option Addr} {n c k : Nat} (hb : Below w.heap.size w W) (hz : k < W.heap.size) (hk : w.heap.size ≤ k) (ho : VsOwn w' W.heap.size (.slice a n c) x.2) (hb' : Below W.heap.size W w') (u v : Value) :
    RGetO w x b (.returned (.tuple #[.agg #[.int .i64 x.1, .slice a n c], .bool b])) ((w'.setCell ⟨k, 0, none⟩ u).setCell ⟨k, 1, none⟩ v) := by
  refine ⟨_, _, _, rfl, ?_, ?_⟩
  · exact VsOwn.mono ((ho.set (p := ⟨k, 0, none⟩) hz u).set (p := ⟨k, 1, none⟩) hz v) hb.size
  · exact ((hb.then_' hb').setCell (p := ⟨k, 0, none⟩) hk u).setCell (p := ⟨k, 1, none⟩) hk v

set_option maxHeartbeats 1000000 in
set_option maxRecDepth 100000 in
theorem plain_any (bh : Nat) (v : Value) (O : List Ob) (id : Int) (w : World) (h : OAt w v O) (hs : ShortO O) (hp : At1 w bh v) :
    Calls Try.prog 28 #[.int .i64 id, .pointer (some ⟨bh, 0, none⟩)] w (RGetO w (getO O id) (inO O id)) := by
  obtain ⟨a, n, c, rfl, hn⟩ := h.shape
  have H := Lib.hid h
  have HS := Lib.hid hs
  have T := Lib.hid (At2.new w (.int .i64 0) (.slice none 0 0) 43)
  have HB := Lib.hid (below1 w (.cells #[.int .i64 0, .slice none 0 0] 43))
  have HP := Lib.hid (hp.below HB.out)
  have p0 := HP.out.c0
  clear h hs hp
  go_enter Try.func28, Try.ntmps28
  go_wp2_with fail
  refine (get_okO id (H.out.below HB.out) HS.out).mono ?_
  rintro e w1 ⟨a1, n1, c1, rfl, ho, hb⟩
  obtain ⟨t0, t1, t2, t3, t4⟩ := T.out.below hb
  have O1 := Lib.hid ho
  have B1 := Lib.hid hb
  have T4 := Lib.hid T.out.lt
  clear ho hb
  go_wp2
  refine bodyPost_ret (v := .tuple #[.agg #[.int .i64 (getO O id).1, .slice a1 n1 c1], .bool (inO O id)]) (by simp [results, Try.results28, go_sem, t0, t1]) rfl ?_
  exact retO_new HB.out T4.out (Nat.le_refl _) O1.out B1.out _ _
end Go.Proofs.Ytbnippldclpclaa
