/- SourceNames, walked. -/
import Derived.Test.YtilholgbepfopaaDoorSSane
namespace Go.Proofs.YtilholgbepfopaaDoor
open Go.RowKit

set_option maxHeartbeats 4000000 in
set_option maxRecDepth 100000 in
theorem sourceNames_walk (s : ByteArray) (w : World) (hg : Glob w) : Calls Tryd.prog 3 #[.string s] w (RetB w true) := by
  have HG := Lib.hid hg
  clear hg
  go_enter Tryd.func3, Tryd.ntmps3
  go_wp2_with fail
  refine (sane5_any _ HG.out).mono ?_
  rintro e w1 ⟨rfl, hb⟩
  have B1 := Lib.hid hb
  have G1 := Lib.hid (HG.out.below hb)
  clear hb
  by_cases h : 300 < s.size
  · have t : (300 : Int) < (s.size : Int) := by omega
    go_wp2_with fail
    go_ret
    exact ⟨rfl, B1.out⟩
  · have t : ¬ (300 : Int) < (s.size : Int) := by omega
    have hs : s.size ≤ 1000000000 := by omega
    go_wp2_with fail
    refine (sname_any s _ G1.out).mono ?_
    rintro e w2 ⟨rfl, hb⟩
    have B2 := Lib.hid (B1.out.then_' hb)
    clear hb
    generalize hq : isNm s = q
    have HQ := Lib.hid hq
    clear hq
    go_wp2_with fail
    refine (rnm_any s _ hs).mono ?_
    rw [HQ.out]
    rintro e w3 ⟨rfl, hb⟩
    have B3 := Lib.hid (B2.out.then_' hb)
    clear hb
    have qq : (q == q) = true := by cases q <;> rfl
    go_wp2_with fail
    go_ret
    exact ⟨rfl, B3.out⟩
end Go.Proofs.YtilholgbepfopaaDoor
