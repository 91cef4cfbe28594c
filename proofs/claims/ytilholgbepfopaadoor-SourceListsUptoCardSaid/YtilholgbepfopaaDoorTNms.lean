/- Equal lists of names (of the reference). -/
import Derived.Test.YtilholgbepfopaaDoorTBox
import Derived.Deep.DeepCutAuto
namespace Go.Proofs.YtilholgbepfopaaDoor
open Go.RowKit

set_option maxHeartbeats 1000000 in
set_option maxRecDepth 100000 in
theorem sameNames_any (v u : Value) (l m : List ByteArray) (w : World) (hv : NmsAt w v l) (hu : NmsAt w u m) (hl : l.length ≤ 1000000000) :
    Calls Tryd.prog 17 #[v, u] w (RetB w (decide (l = m))) := by
  obtain ⟨a, c, rfl⟩ := hv.shape
  obtain ⟨a2, c2, rfl⟩ := hu.shape
  have H := Lib.hid hv
  have H2 := Lib.hid hu
  clear hv hu
  by_cases he : l.length = m.length
  · have hd : decide (l = m) = eqFrom l m 0 := by rw [eqFrom_zero]
    generalize decide (l = m) = q at *
    have HD := Lib.hid hd
    clear hd
    obtain ⟨n, hn⟩ : ∃ n, n = l.length := ⟨_, rfl⟩
    have HN := Lib.hid hn
    have HM : Hid (n = m.length) := Lib.hid (by rw [hn]; exact he)
    rw [← he, ← hn] at H2 ⊢
    rw [← hn] at H hl
    have HG : Hid (eqFrom l m n = true) := Lib.hid (eqFrom_end l m n (Nat.le_of_eq HN.out.symm) (Nat.le_of_eq HM.out.symm))
    clear he hn
    go_enter Tryd.func17, Tryd.ntmps17
    go_wp2
    go_loopw [5, 13] (fun _ k_ wr => ∃ k : Nat, k ≤ n ∧ k_ = .int .i64 k ∧ Below w.heap.size w wr ∧ Hid (q = eqFrom l m k)) (fun _ k_ _ => n - (intOf k_).toNat)
    case atStart => exact ⟨0, Nat.zero_le _, rfl, Below.refl _ _, HD.out⟩
    case round =>
      obtain ⟨k, hk, rfl, hb, hi⟩ := hrel
      by_cases hlt : k < n
      · obtain ⟨x, hx⟩ : ∃ x, l[k]? = some x := ⟨_, List.getElem?_eq_getElem (by rw [← HN.out]; exact hlt)⟩
        obtain ⟨y, hy⟩ : ∃ x, m[k]? = some x := ⟨_, List.getElem?_eq_getElem (by rw [← HM.out]; exact hlt)⟩
        obtain ⟨b, o, c', hv, _, hc0⟩ := (H.out.below hb).elem hx
        obtain ⟨rfl, -, rfl⟩ := Value.slice.inj hv
        obtain ⟨b2, o2, c2', hw, _, hd0⟩ := (H2.out.below hb).elem hy
        obtain ⟨rfl, -, rfl⟩ := Value.slice.inj hw
        clear hv hw
        have HX := Lib.hid hx
        have HY := Lib.hid hy
        have HB := Lib.hid hb
        clear hb hx hy
        have hki : (k : Int) < (n : Int) := by omega
        by_cases hq : x = y
        · have HE : Hid (eqFrom l m k = eqFrom l m (k + 1)) := Lib.hid (eqFrom_same HX.out (by rw [hq]; exact HY.out))
          have hs := tstr_eq hq
          clear hq
          go_wp2_with fail
          go_quiet (fail)
          go_wp2
          go_roundw
          case rel => exact ⟨k + 1, by omega, by go_num, Below.drewN HB.out _, by rw [hi.out]; exact HE.out⟩
          case measure => simp [intOf]; omega
        · have HE : Hid (eqFrom l m k = false) := Lib.hid (eqFrom_other HX.out HY.out hq)
          have hs := tstr_ne hq
          clear hq
          go_wp2_with fail
          go_quiet (fail)
          go_wp2
          go_ret
          exact ⟨by rw [hi.out, HE.out]; rfl, Below.drewN HB.out _⟩
      · obtain rfl : k = n := by omega
        go_wp2
        go_ret
        exact ⟨by rw [hi.out, HG.out]; rfl, hb⟩
  · have he' : ((l.length : Int) == (m.length : Int)) = false := by rw [beq_eq_false_iff_ne]; omega
    rw [eq_lens he]
    go_enter Tryd.func17, Tryd.ntmps17
    go_wp2
    go_ret
    exact ⟨rfl, Below.refl _ _⟩
end Go.Proofs.YtilholgbepfopaaDoor
